/- What All, Bytes and Text of package runes return, for every argument of at most 2^40 bytes or numbers, as a walk through the translated text. Conditions: slices read as lists; the two tables of unicode/utf8 hold what their text lays. -/
import Derived.Test.YtgkbgckpdkdngaaDoorRune1
import Derived.Lib.OthersKept
namespace Go.Proofs.YtgkbgckpdkdngaaDoor
open Go.ChangeShapes Go.WideShapes Go.RowKit Go.Lib
/-- At g lies a Decoder that holds s.1; v is a row of the call's own with the code points s.2. -/
structure DRow (w wr : World) (g : Nat) (s : List Nat × List Nat) (v : Value) : Prop where
  st : DAt wr g s.1
  own : wr.ownsRow w.heap.size 21 1 v s.2.length (ints .i32 s.2)
  low : w.heap.size ≤ g
  off : v.ownBlock ≠ some g
  below : Below w.heap.size w wr
  tab0 : Tabs w
  held : HeldL s.1
theorem DRow.tabs {w wr : World} {g : Nat} {s : List Nat × List Nat} {v : Value} (h : DRow w wr g s v) : Tabs wr := h.tab0.keep h.below
theorem DRow.turn {w wr w1 : World} {g : Nat} {s : List Nat × List Nat} {v : Value} {r : List Nat} (h : DRow w wr g s v) (hb : wr.grownBy w1 (some g)) (hd : DAt w1 g r) (hr : HeldL r) : DRow w w1 g (r, s.2) v where
  st := hd
  own := own_keep h.own hb (fun k hk e => h.off (by rw [hk, e]))
  low := h.low
  off := h.off
  below := h.below.grown hb h.below.size (fun k hk => by cases hk; exact h.low)
  tab0 := h.tab0
  held := hr
theorem DRow.app {w w1 w2 : World} {g : Nat} {s : List Nat × List Nat} {v v' : Value} {x : List Nat} {m : Nat} (h : DRow w w1 g s v) (hm : x.length = m) (ho : w2.ownsRow w.heap.size 21 1 v' (s.2.length + m) (ints .i32 s.2 ++ ints .i32 x)) (hg : w1.grownBy w2 v.ownBlock)
    (ha : v'.ownBlock = v.ownBlock ∨ v'.ownBlock = some w1.heap.size) : DRow w w2 g (s.1, s.2 ++ x) v' where
  st := h.st.grown hg h.off
  own := by rw [List.length_append, hm, ints_append]; exact ho
  low := h.low
  off := by
    rcases ha with e | e
    · rw [e]; exact h.off
    · rw [e]; intro e'; have := h.st.lt; cases e'; omega
  below := h.below.grown hg h.below.size (own_base h.own)
  tab0 := h.tab0
  held := h.held
def feedTo (l : List Nat) (k : Nat) : List Nat × List Nat := feed ([], []) (l.take k)
theorem feedTo_zero (l : List Nat) : feedTo l 0 = ([], []) := rfl
theorem feedTo_succ (l : List Nat) (k : Nat) (h : k < l.length) : feedTo l (k + 1) = ((putN (feedTo l k).1 l[k]).1, (feedTo l k).2 ++ (putN (feedTo l k).1 l[k]).2) := feed_succ _ _ _ h
theorem feedTo_all (l : List Nat) (n : Nat) (h : l.length = n) : feedTo l n = feed ([], []) l := by rw [feedTo, List.take_of_length_le (by omega)]
theorem feedTo_len (l : List Nat) (k : Nat) : (feedTo l k).2.length ≤ 2 * l.length := by
  have := feed_len ([], []) (l.take k)
  simp only [feedTo, List.length_nil, List.length_take] at this ⊢
  omega
theorem drow_start (w : World) (hT : Tabs w) : DRow w (w.alloc (.cells #[.string { data := #[] }] 25)) w.heap.size ([], []) (.slice none 0 0) where
  st := ⟨⟨_, Blk.new w 25 [.string { data := #[] }], rfl⟩, ⟨fun e => by have := hT.lt.1; omega, fun e => by have := hT.lt.2; omega⟩⟩
  own := World.ownsRow_nil _ _ _ _
  low := Nat.le_refl _
  off := by simp [Value.ownBlock]
  below := (Below.refl _ _).alloc (Nat.le_refl _) _
  tab0 := hT
  held := .inl rfl
def RunesPost (w : World) (x : List Nat) (en : Ending) (w' : World) : Prop := ∃ v, en = .returned v ∧ Mine w w' 21 v x.length (ints .i32 x)
set_option maxHeartbeats 3200000 in
set_option maxRecDepth 100000 in
theorem all_c (A : Option Addr) (n c : Nat) (l : List Nat) (w : World) (hr : Reads .u8 w A n c l) (hT : Tabs w) (hn : n ≤ 1099511627776) : Calls Tryd.prog 14 #[.slice A n c] w (RunesPost w (allN l)) := by
  obtain ⟨i0, hi, hz0, hz1, hz2⟩ := info_parts infoI32
  have HL := Lib.hid hr.len
  have HST := Lib.hid (drow_start w hT)
  have HR := Lib.hid hr
  clear hr hT
  go_enter Tryd.func14, Tryd.ntmps14
  go_wp2_with fail
  go_loopw [3, 9] (fun v i wr => ∃ k N cB : Nat, ∃ B, k ≤ n ∧ i = .int .i64 k ∧ v = .slice B N cB ∧ Hid ((feedTo l k).2.length = N) ∧ Hid (DRow w wr w.heap.size (feedTo l k) (.slice B N cB))) (fun _ i _ => n - (RowKit.intOf i).toNat)
  case atStart => exact ⟨0, 0, 0, none, Nat.zero_le _, rfl, rfl, rfl, HST⟩
  case round =>
    clear HST
    obtain ⟨k, N, cB, B, hk, rfl, rfl, HN, HDR⟩ := hrel
    by_cases hlt : k < n
    · have hkl : k < l.length := by rw [HL.out]; exact hlt
      obtain ⟨ad, rfl, hadlt, hcell⟩ := HR.out.cell k hkl
      have hcellr := (HDR.out.below.cell (p := ad.add k) (by rw [block_add]; exact hadlt)).trans hcell
      have HFS := Lib.hid (feedTo_succ l k hkl)
      have HFL := Lib.hid (feedTo_len l (k + 1))
      have hbyte := wf_u8.1 (HR.out.wf l[k] (List.getElem_mem hkl))
      generalize l[k] = z at *
      have hlt2 : (k : Int) < (n : Int) := by omega
      clear hcell
      go_wp2_with fail
      refine (put_c w.heap.size _ z wr HDR.out.st HDR.out.tabs HDR.out.held hbyte).mono ?_
      rintro en w1 ⟨u, rfl, ho1, hd1, hg1⟩
      have hle := (put_byte (feedTo l k).1 z HDR.out.st.byte hbyte).2
      obtain ⟨A1, c1, rfl, hr1⟩ := Reads.of_own ho1 (fun x hx => wf_i32.2 (by have := hle x hx; omega))
      have HD1 := Lib.hid (HDR.out.turn hg1 hd1 (put_held _ _))
      have HR1 := Lib.hid hr1
      have HLE : Hid (N + (putN (feedTo l k).1 z).2.length ≤ 2199023255552) := by
        show _ ≤ _
        have h1 := HFL.out
        rw [HFS.out, HL.out] at h1
        simp only [List.length_append] at h1
        rw [HN.out] at h1
        omega
      have hown := HD1.out.own
      simp only [HN.out] at hown
      have HO := Lib.hid hown
      have hbs : w.heap.size ≤ w1.heap.size := HD1.out.below.size
      clear hg1 hd1 ho1 hr1 hle hown
      go_wp2_with (at_builtin; refine wpList_appB rfl (.tmp 13) (.tmp 15) 30 rfl w.heap.size 21 i0 (.int .i32 0) 4 Tryd.underlying30 hi hz0 hz1 hz2 rfl _ _ _ rfl HO.out .i32 _ _ _ _ rfl HR1.out (by have := HLE.out; unfold maxLen; omega) (by have := HLE.out; omega) hbs ?_; intro v6 w6 h6 hg6 ha6; obtain ⟨A6, c6, rfl⟩ := own_form h6; have HO6 := Lib.hid h6; have HG6 := Lib.hid hg6; have HA6 := Lib.hid ha6; clear h6 hg6 ha6)
      have hdr : DRow w w6 w.heap.size (feedTo l (k + 1)) (.slice A6 (N + (putN (feedTo l k).1 z).2.length) c6) := by
        rw [HFS.out]
        exact HD1.out.app rfl (by simp only [HN.out]; exact HO6.out) HG6.out HA6.out
      have HDR2 := Lib.hid hdr
      have HN2 : Hid ((feedTo l (k + 1)).2.length = N + (putN (feedTo l k).1 z).2.length) := by
        show _ = _
        rw [HFS.out, List.length_append, HN.out]
      clear hdr HO6 HG6 HA6 HD1 HO HDR
      go_roundw
      case rel => exact ⟨k + 1, _, c6, A6, by omega, by go_num, rfl, HN2, HDR2⟩
      case measure => simp [RowKit.intOf]; omega
    · have hkn : k = n := by omega
      subst hkn
      have HFA := Lib.hid (feedTo_all l k HL.out)
      have HFL := Lib.hid (feedTo_len l k)
      go_wp2_with fail
      refine (dend_c w.heap.size _ wr HDR.out.st).mono ?_
      rintro en w1 ⟨u, rfl, ho1, hd1, hg1⟩
      obtain ⟨A1, c1, rfl, hr1⟩ := Reads.of_own ho1 (fun x hx => wf_i32.2 (by have := endN_le _ x hx; omega))
      have HD1 := Lib.hid (HDR.out.turn hg1 hd1 (.inl rfl))
      have HR1 := Lib.hid hr1
      have HLE : Hid (N + (endN (feedTo l k).1).length ≤ 2199023255553) := by
        show _ ≤ _
        have h1 := HFL.out
        rw [HN.out, HL.out] at h1
        have h2 := endN_len (feedTo l k).1
        omega
      have hown := HD1.out.own
      simp only [HN.out] at hown
      have HO := Lib.hid hown
      have hbs : w.heap.size ≤ w1.heap.size := HD1.out.below.size
      clear hg1 hd1 ho1 hr1 hown
      go_wp2_with (at_builtin; refine wpList_appB rfl (.tmp 18) (.tmp 19) 30 rfl w.heap.size 21 i0 (.int .i32 0) 4 Tryd.underlying30 hi hz0 hz1 hz2 rfl _ _ _ rfl HO.out .i32 _ _ _ _ rfl HR1.out (by have := HLE.out; unfold maxLen; omega) (by have := HLE.out; omega) hbs ?_; intro v6 w6 h6 hg6 ha6; obtain ⟨A6, c6, rfl⟩ := own_form h6; have HO6 := Lib.hid h6; have HG6 := Lib.hid hg6; have HA6 := Lib.hid ha6; clear h6 hg6 ha6)
      have hdr : DRow w w6 w.heap.size ([], allN l) (.slice A6 (N + (endN (feedTo l k).1).length) c6) := by
        rw [allN, ← HFA.out]
        exact HD1.out.app rfl (by simp only [HN.out]; exact HO6.out) HG6.out HA6.out
      have HDR2 := Lib.hid hdr
      clear hdr HO6 HG6 HA6 HD1 HO HDR
      go_wp2
      go_ret
      exact ⟨_, rfl, HDR2.out.own, HDR2.out.below⟩
end Go.Proofs.YtgkbgckpdkdngaaDoor
