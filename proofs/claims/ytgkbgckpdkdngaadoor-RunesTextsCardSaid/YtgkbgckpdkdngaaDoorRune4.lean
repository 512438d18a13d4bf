/- What Valid, Runes and Count of package runes return, for every string of at most 2^40 bytes, as a walk through the translated text. Conditions: the two tables of unicode/utf8 hold what their text lays. -/
import Derived.Test.YtgkbgckpdkdngaaDoorRune3
namespace Go.Proofs.YtgkbgckpdkdngaaDoor
open Go.ChangeShapes Go.WideShapes Go.RowKit Go.Lib
theorem iter_new (w : World) (s : ByteArray) : (w.alloc (.stringIter s 0)).heap[w.heap.size]? = some (.stringIter s 0) := World.iter_heap w s 0
theorem iter_grown (w : World) (k : Nat) (s : ByteArray) (pos : Nat) : w.grownBy (w.iterAt k s pos) (some k) :=
  ⟨rfl, rfl, rfl, by rw [Lib.iterAt_size]; exact Nat.le_refl _, fun i _ hne => Lib.iterAt_other w k i s pos (fun e => hne (by rw [e]))⟩
theorem drop_len (s : ByteArray) (pos : Nat) (h : pos < s.size) : 0 < ((strL s).drop pos).length := by rw [List.length_drop, length_strL]; omega
theorem drop_lt (s : ByteArray) (pos : Nat) : ∀ x ∈ (strL s).drop pos, x < 256 := fun x hx => strL_lt s x (List.mem_of_mem_drop hx)
theorem take_more (l : List Nat) (pos : Nat) (e r : List Nat) (h : l.drop pos = e ++ r) : l.take (pos + e.length) = l.take pos ++ e := by
  rw [List.take_add, h, List.take_left]
def ValidPost (w : World) (s : ByteArray) (en : Ending) (w' : World) : Prop := ∃ b : Bool, en = .returned (.bool b) ∧ (b = true ↔ Good (strL s)) ∧ Below w.heap.size w w'
set_option maxHeartbeats 3200000 in
set_option maxRecDepth 100000 in
theorem rvalid_c (s : ByteArray) (w : World) : Calls Tryd.prog 22 #[.string s] w (ValidPost w s) := by
  go_enter Tryd.func22, Tryd.ntmps22
  go_wp2_with fail
  go_loopw [] (fun wr => ∃ pos : Nat, pos ≤ s.size ∧ wr.heap[w.heap.size]? = some (.stringIter s pos) ∧ Hid (Good ((strL s).take pos)) ∧ Hid (Below w.heap.size w wr)) (fun wr => s.size - wr.iterPos w.heap.size)
  case atStart => exact ⟨0, Nat.zero_le _, iter_new w s, Lib.hid good_nil, Lib.hid ((Below.refl _ _).alloc (Nat.le_refl _) _)⟩
  case round =>
    obtain ⟨pos, hpos, hit, HG, HB⟩ := hrel
    by_cases hp : pos < s.size
    · have hnx : ∀ ty, (Instr.next (.pointer (some ⟨w.heap.size, 0, none⟩)) true ty).run Tryd.prog wr = _ := fun ty => Lib.run_next_any_at wr w.heap.size s pos ty hit hp
      have HB2 := Lib.hid (Lib.below_iterAt HB.out (k := w.heap.size) (Nat.le_refl _) s (pos + (Utf8.decode s pos).2))
      have HIT2 := Lib.hid (Lib.iterAt_heap wr w.heap.size s pos (pos + (Utf8.decode s pos).2) hit)
      have HMP : Hid (wr.iterPos w.heap.size = pos) := by show _ = _; simp only [World.iterPos, hit]
      rw [dec_strL_at] at hnx HB2 HIT2
      obtain ⟨bb, hbb⟩ : ∃ bb, Hid (badB ((strL s).drop pos) = bb) := ⟨_, Lib.hid rfl⟩
      obtain ⟨w2, hw2⟩ : ∃ w2, Hid (wr.iterAt w.heap.size s (pos + (decL ((strL s).drop pos)).2) = w2) := ⟨_, Lib.hid rfl⟩
      rw [hw2.out] at hnx HB2 HIT2
      have HMC := Lib.hid (malformed_c s pos w2 hp)
      rw [hbb.out] at HMC
      have HDE : Hid (bb = false → ∃ e r, (strL s).drop pos = e ++ r ∧ okL e = true ∧ decL ((strL s).drop pos) = (valL e, e.length)) := Lib.hid fun h => bad_no _ (drop_len s pos hp) (drop_lt s pos) (by rw [hbb.out]; exact h)
      have HDB : Hid (bb = true → ∀ k, okL (((strL s).drop pos).take k) = false) := Lib.hid fun h => (bad_yes _ (drop_len s pos hp) (drop_lt s pos) (by rw [hbb.out]; exact h)).1
      generalize decL ((strL s).drop pos) = d at *
      clear hw2 hbb hit
      cases bb with
      | true =>
        have HDB1 := Lib.hid (HDB.out rfl)
        clear HDB HDE
        go_wp2_with fail
        refine HMC.out.mono ?_
        rintro en w3 ⟨rfl, rfl⟩
        go_wp2
        go_ret
        refine ⟨false, rfl, ⟨fun h => Bool.noConfusion h, fun h => ?_⟩, HB2.out⟩
        have := bad_not HG.out (r := (strL s).drop pos) (fun e => by have := drop_len s pos hp; rw [e] at this; simp at this) HDB1.out
        rw [List.take_append_drop] at this
        exact absurd h this
      | false =>
        obtain ⟨e, r, he, hok, hd⟩ := HDE.out rfl
        have HE := Lib.hid he
        have HOK := Lib.hid hok
        have HPL : Hid (d.2 = e.length) := by show _ = _; rw [hd]
        have HLE : Hid (pos + d.2 ≤ s.size ∧ 0 < d.2) := by
          show _ ∧ _
          have h1 := congrArg List.length he
          rw [List.length_drop, length_strL, List.length_append] at h1
          have h2 := (ok_len e hok).1
          rw [hd]
          simp only
          omega
        clear he hok hd HDE HDB
        go_wp2_with fail
        refine HMC.out.mono ?_
        rintro en w3 ⟨rfl, rfl⟩
        go_wp2_with fail
        go_roundw
        case rel =>
          refine ⟨pos + d.2, HLE.out.1, HIT2.out, ?_, HB2⟩
          show Good _
          rw [HPL.out, take_more _ _ _ _ HE.out]
          exact good_snoc HG.out HOK.out
        case measure =>
          have h1 := HLE.out
          simp only [World.iterPos, HIT2.out]
          have := HMP.out
          simp only [World.iterPos] at this
          omega
    · have hnx : ∀ ty, (Instr.next (.pointer (some ⟨w.heap.size, 0, none⟩)) true ty).run Tryd.prog wr = _ := fun ty => Lib.run_next_end_at wr w.heap.size s pos ty hit hp
      go_wp2
      go_ret
      refine ⟨true, rfl, ⟨fun _ => ?_, fun _ => rfl⟩, HB.out⟩
      have := HG.out
      rwa [List.take_of_length_le (by rw [length_strL]; omega)] at this
/-! ### Runes -/
theorem reads_new32 {w : World} {t : TypeId} {l : List Nat} {n : Nat} {cs : Array Value} {fr : Nat × Nat} (hc : cs.toList = ints .i32 l) (hl : l.length = n) (hm : n ≤ maxLen) (hx : ∀ x ∈ l, x < 2147483648) : Reads .i32 (w.alloc (.cells cs t fr)) (some ⟨w.heap.size, 0, none⟩) n n l := by
  refine ⟨hl, Nat.le_refl _, hm, fun x h => wf_i32.2 (hx x h), fun i hi => ⟨_, rfl, by simp, ?_⟩⟩
  rw [add_head, cell_of_row _ _ _ cs t fr (heap_alloc_new w _), ← Array.getElem?_toList, hc]
  simp [ints, hi]
theorem DRow.aside {w wr w1 : World} {g k : Nat} {s : List Nat × List Nat} {v : Value} (h : DRow w wr g s v) (hb : wr.grownBy w1 (some k)) (hk : w.heap.size ≤ k) (hg : k ≠ g) (hv : v.ownBlock ≠ some k) : DRow w w1 g s v where
  st := h.st.grown hb (fun e => hg (Option.some.inj e))
  own := own_keep h.own hb (fun i hi e => hv (by rw [hi, e]))
  low := h.low
  off := h.off
  below := h.below.grown hb h.below.size (fun i hi => by cases hi; exact hk)
  tab0 := h.tab0
  held := h.held
theorem own_iter {w : World} {B : Nat} {e : TypeId} {v : Value} {n : Nat} {xs : List Value} (h : w.ownsRow B e 1 v n xs) {k : Nat} {s : ByteArray} {pos : Nat} (hk : w.heap[k]? = some (.stringIter s pos)) : v.ownBlock ≠ some k := by
  intro hv
  rcases h.2 with ⟨rfl, _⟩ | ⟨g, cap, cur, rfl, _, hb, _⟩
  · cases hv
  · cases hv
    rw [hk] at hb
    cases hb
theorem iter_keep {w w1 : World} {row : Option Nat} {k : Nat} {s : ByteArray} {pos : Nat} (hk : w.heap[k]? = some (.stringIter s pos)) (hb : w.grownBy w1 row) (hr : row ≠ some k) : w1.heap[k]? = some (.stringIter s pos) :=
  (hb.block k (Array.getElem?_eq_some_iff.1 hk).1 (fun e => hr e.symm)).trans hk
theorem feedTo_ok (l : List Nat) (pos : Nat) (e r : List Nat) (h : l.drop pos = e ++ r) (he : okL e = true) : feedTo l (pos + e.length) = ([], (feedTo l pos).2 ++ endN (feedTo l pos).1 ++ [valL e]) := by
  rw [feedTo, take_more l pos e r h, feed_append]
  have := feed_ok (feedTo l pos).1 (feedTo l pos).2 e (feed_held _ _ (.inl rfl)) he
  exact this
set_option maxHeartbeats 6400000 in
set_option maxRecDepth 100000 in
theorem runes_c (s : ByteArray) (w : World) (hT : Tabs w) (hn : s.size ≤ 1099511627776) : Calls Tryd.prog 20 #[.string s] w (RunesPost w (allN (strL s))) := by
  obtain ⟨i0, hi, hz0, hz1, hz2⟩ := info_parts infoI32
  have HST := Lib.hid (drow_start w hT)
  have HSL := Lib.hid (length_strL s)
  clear hT
  go_enter Tryd.func20, Tryd.ntmps20
  go_wp2_with fail
  go_loopw [3] (fun v wr => ∃ pos N cB : Nat, ∃ B, pos ≤ s.size ∧ v = .slice B N cB ∧ wr.heap[w.heap.size + 1]? = some (.stringIter s pos) ∧ Hid ((feedTo (strL s) pos).2.length = N) ∧ Hid (DRow w wr w.heap.size (feedTo (strL s) pos) (.slice B N cB))) (fun _ wr => s.size - wr.iterPos (w.heap.size + 1))
  case atStart =>
    refine ⟨0, 0, 0, none, Nat.zero_le _, rfl, ?_, rfl, ?_⟩
    · have := World.iter_heap (w.alloc (.cells #[.string { data := #[] }] 25)) s 0
      rw [World.size_alloc] at this
      exact this
    · refine Lib.hid (HST.out.aside (k := w.heap.size + 1) (only_of_below ((Below.refl _ _).alloc (Nat.le_refl _) _) _) (by omega) (by omega) (by simp [Value.ownBlock]))
  case round =>
    clear HST
    obtain ⟨pos, N, cB, B, hpos, rfl, hit, HN, HDR⟩ := hrel
    by_cases hp : pos < s.size
    · have hnx : ∀ ty, (Instr.next (.pointer (some ⟨w.heap.size + 1, 0, none⟩)) true ty).run Tryd.prog wr = _ := fun ty => Lib.run_next_any_at wr (w.heap.size + 1) s pos ty hit hp
      have HV0 := Lib.hid (own_iter HDR.out.own hit)
      have HDR1 := Lib.hid (HDR.out.aside (iter_grown wr (w.heap.size + 1) s (pos + (Utf8.decode s pos).2)) (by omega) (by omega) HV0.out)
      have HIT2 := Lib.hid (Lib.iterAt_heap wr (w.heap.size + 1) s pos (pos + (Utf8.decode s pos).2) hit)
      have HMP : Hid (wr.iterPos (w.heap.size + 1) = pos) := by show _ = _; simp only [World.iterPos, hit]
      rw [dec_strL_at] at hnx HDR1 HIT2
      obtain ⟨bb, hbb⟩ : ∃ bb, Hid (badB ((strL s).drop pos) = bb) := ⟨_, Lib.hid rfl⟩
      obtain ⟨w2, hw2⟩ : ∃ w2, Hid (wr.iterAt (w.heap.size + 1) s (pos + (decL ((strL s).drop pos)).2) = w2) := ⟨_, Lib.hid rfl⟩
      rw [hw2.out] at hnx HDR1 HIT2
      have HMC := Lib.hid (malformed_c s pos w2 hp)
      rw [hbb.out] at HMC
      have HDE : Hid (bb = false → ∃ e r, (strL s).drop pos = e ++ r ∧ okL e = true ∧ decL ((strL s).drop pos) = (valL e, e.length)) := Lib.hid fun h => bad_no _ (drop_len s pos hp) (drop_lt s pos) (by rw [hbb.out]; exact h)
      have HDB : Hid (bb = true → decL ((strL s).drop pos) = (65533, 1)) := Lib.hid fun h => (bad_yes _ (drop_len s pos hp) (drop_lt s pos) (by rw [hbb.out]; exact h)).2
      generalize decL ((strL s).drop pos) = d at *
      have hlt0 : (pos : Int) < (s.size : Int) := by omega
      have hge0 : (0 : Int) ≤ (pos : Int) := by omega
      clear hw2 hbb hit HDR HV0
      cases bb with
      | true =>
        have HD2 : Hid (d.2 = 1) := by show _ = _; rw [HDB.out rfl]
        rw [HD2.out] at HIT2
        have hkl : pos < (strL s).length := by rw [HSL.out]; exact hp
        have HFS := Lib.hid (feedTo_succ (strL s) pos hkl)
        rw [strL_get s pos hp hkl] at HFS
        have HFL := Lib.hid (feedTo_len (strL s) (pos + 1))
        obtain ⟨z, hz⟩ : ∃ z, s[pos]'hp = z := ⟨_, rfl⟩
        rw [hz] at HFS
        have hbyte : z.toNat < 256 := z.toNat_lt
        clear HDB HDE hkl
        go_wp2_with fail
        refine HMC.out.mono ?_
        rintro en w3 ⟨rfl, rfl⟩
        go_wp2_with fail
        refine (put_c w.heap.size _ z.toNat w3 HDR1.out.st HDR1.out.tabs HDR1.out.held hbyte).mono ?_
        rintro en w4 ⟨u, rfl, ho1, hd1, hg1⟩
        have hle := (put_byte (feedTo (strL s) pos).1 z.toNat HDR1.out.st.byte hbyte).2
        obtain ⟨A1, c1, rfl, hr1⟩ := Reads.of_own ho1 (fun x hx => wf_i32.2 (by have := hle x hx; omega))
        have HD1 := Lib.hid (HDR1.out.turn hg1 hd1 (put_held _ _))
        have HIT3 := Lib.hid (iter_keep HIT2.out hg1 (by simp))
        have HR1 := Lib.hid hr1
        have HLE : Hid (N + (putN (feedTo (strL s) pos).1 z.toNat).2.length ≤ 2199023255552) := by
          show _ ≤ _
          have h1 := HFL.out
          rw [HFS.out, HSL.out] at h1
          simp only [List.length_append] at h1
          rw [HN.out] at h1
          omega
        have hown := HD1.out.own
        simp only [HN.out] at hown
        have HO := Lib.hid hown
        have hbs : w.heap.size ≤ w4.heap.size := HD1.out.below.size
        clear hg1 hd1 ho1 hr1 hle hown hnx
        go_wp2_with (at_builtin; refine wpList_appB rfl (.tmp 17) (.tmp 21) 30 rfl w.heap.size 21 i0 (.int .i32 0) 4 Tryd.underlying30 hi hz0 hz1 hz2 rfl _ _ _ rfl HO.out .i32 _ _ _ _ rfl HR1.out (by have := HLE.out; unfold maxLen; omega) (by have := HLE.out; omega) hbs ?_; intro v6 w6 h6 hg6 ha6; obtain ⟨A6, c6, rfl⟩ := own_form h6; have HO6 := Lib.hid h6; have HG6 := Lib.hid hg6; have HA6 := Lib.hid ha6; clear h6 hg6 ha6)
        have hdr : DRow w w6 w.heap.size (feedTo (strL s) (pos + 1)) (.slice A6 (N + (putN (feedTo (strL s) pos).1 z.toNat).2.length) c6) := by
          rw [HFS.out]
          exact HD1.out.app rfl (by simp only [HN.out]; exact HO6.out) HG6.out HA6.out
        have HDR2 := Lib.hid hdr
        have HN2 : Hid ((feedTo (strL s) (pos + 1)).2.length = N + (putN (feedTo (strL s) pos).1 z.toNat).2.length) := by
          show _ = _
          rw [HFS.out, List.length_append, HN.out]
        have HIT4 := Lib.hid (iter_keep HIT3.out HG6.out (own_iter HO.out HIT3.out))
        clear hdr HO6 HG6 HA6 HD1 HO HDR1
        go_roundw
        case rel => exact ⟨pos + 1, _, c6, A6, by omega, rfl, HIT4.out, HN2, HDR2⟩
        case measure =>
          have := HMP.out
          simp only [World.iterPos, HIT4.out]
          simp only [World.iterPos] at this
          omega
      | false =>
        obtain ⟨e, r, he, hok, hd⟩ := HDE.out rfl
        have HFS := Lib.hid (feedTo_ok (strL s) pos e r he hok)
        have HV : Hid (d.1 = valL e) := by show _ = _; rw [hd]
        have HVL := Lib.hid (ok_val e hok)
        have HP2 : Hid (d.2 = e.length) := by show _ = _; rw [hd]
        have HLE : Hid (pos + e.length ≤ s.size ∧ 0 < e.length) := by
          show _ ∧ _
          have h1 := congrArg List.length he
          rw [List.length_drop, length_strL, List.length_append] at h1
          have h2 := (ok_len e hok).1
          omega
        rw [HP2.out] at HIT2
        have HFL := Lib.hid (feedTo_len (strL s) (pos + e.length))
        clear he hok hd HDE HDB
        go_wp2_with fail
        refine HMC.out.mono ?_
        rintro en w3 ⟨rfl, rfl⟩
        go_wp2_with fail
        refine (dend_c w.heap.size _ w3 HDR1.out.st).mono ?_
        rintro en w4 ⟨u, rfl, ho1, hd1, hg1⟩
        obtain ⟨A1, c1, rfl, hr1⟩ := Reads.of_own ho1 (fun x hx => wf_i32.2 (by have := endN_le _ x hx; omega))
        have HD1 := Lib.hid (HDR1.out.turn hg1 hd1 (.inl rfl))
        have HIT3 := Lib.hid (iter_keep HIT2.out hg1 (by simp))
        have HR1 := Lib.hid hr1
        have HLN : Hid (N + (endN (feedTo (strL s) pos).1).length + 1 ≤ 2199023255552) := by
          show _ ≤ _
          have h1 := HFL.out
          rw [HFS.out, HSL.out] at h1
          simp only [List.length_append, List.length_singleton] at h1
          rw [HN.out] at h1
          omega
        have hown := HD1.out.own
        simp only [HN.out] at hown
        have HO := Lib.hid hown
        have hbs : w.heap.size ≤ w4.heap.size := HD1.out.below.size
        clear hg1 hd1 ho1 hr1 hown hnx
        go_upto_region 9 with (at_builtin; refine wpList_appB rfl (.tmp 23) (.tmp 24) 30 rfl w.heap.size 21 i0 (.int .i32 0) 4 Tryd.underlying30 hi hz0 hz1 hz2 rfl _ _ _ rfl HO.out .i32 _ _ _ _ rfl HR1.out (by have := HLN.out; unfold maxLen; omega) (by have := HLN.out; omega) hbs ?_; intro v6 w6 h6 hg6 ha6; obtain ⟨A6, c6, rfl⟩ := own_form h6; have HO6 := Lib.hid h6; have HG6 := Lib.hid hg6; have HA6 := Lib.hid ha6; clear h6 hg6 ha6)
        have hdr : DRow w w6 w.heap.size ([], (feedTo (strL s) pos).2 ++ endN (feedTo (strL s) pos).1) (.slice A6 (N + (endN (feedTo (strL s) pos).1).length) c6) := HD1.out.app rfl (by simp only [HN.out]; exact HO6.out) HG6.out HA6.out
        have HDR2 := Lib.hid hdr
        have HIT4 := Lib.hid (iter_keep HIT3.out HG6.out (own_iter HO.out HIT3.out))
        have HDR3 := Lib.hid (hdr.aside (k := w6.heap.size) (only_of_below ((Below.refl _ _).alloc (Nat.le_refl _) (.cells #[.int .i32 (d.1 : Int)] 21)) _) (by have := hdr.below.size; omega) (by have := hdr.st.lt; omega) (fun e => by have := own_lt hdr.own _ e; omega))
        have hbs6 : w.heap.size ≤ w6.heap.size := hdr.below.size
        have HR3 : Hid (Reads .i32 (w6.alloc (.cells #[.int .i32 (d.1 : Int)] 21)) (some ⟨w6.heap.size, 0, none⟩) 1 1 [d.1]) := Lib.hid (reads_new32 rfl rfl (by decide) (by have h1 := HVL.out; have h2 := HV.out; simp; omega))
        have hown3 := HDR3.out.own
        simp only [List.length_append, HN.out] at hown3
        have HO3 := Lib.hid hown3
        have HIT5 := Lib.hid (iter_keep HIT4.out (only_of_below ((Below.refl _ _).alloc (Nat.le_refl _) (.cells #[.int .i32 (d.1 : Int)] 21)) none) (by simp))
        clear hdr HO6 HG6 HA6 HD1 HO HDR1 hown3
        go_wp2_with (at_builtin; refine wpList_appB rfl (.tmp 26) (.tmp 28) 30 rfl w.heap.size 21 i0 (.int .i32 0) 4 Tryd.underlying30 hi hz0 hz1 hz2 rfl _ _ _ rfl HO3.out .i32 _ _ _ _ rfl HR3.out (by have := HLN.out; unfold maxLen; omega) (by have := HLN.out; omega) (by rw [World.size_alloc]; omega) ?_; intro v7 w7 h7 hg7 ha7; obtain ⟨A7, c7, rfl⟩ := own_form h7; have HO7 := Lib.hid h7; have HG7 := Lib.hid hg7; have HA7 := Lib.hid ha7; clear h7 hg7 ha7)
        have hdr : DRow w w7 w.heap.size (feedTo (strL s) (pos + e.length)) (.slice A7 (N + (endN (feedTo (strL s) pos).1).length + 1) c7) := by
          rw [HFS.out, ← HV.out]
          exact HDR3.out.app rfl (by simp only [List.length_append, HN.out]; exact HO7.out) HG7.out HA7.out
        have HDR4 := Lib.hid hdr
        have HN2 : Hid ((feedTo (strL s) (pos + e.length)).2.length = N + (endN (feedTo (strL s) pos).1).length + 1) := by
          show _ = _
          rw [HFS.out]
          simp only [List.length_append, HN.out, List.length_singleton]
        have HIT6 := Lib.hid (iter_keep HIT5.out HG7.out (own_iter HO3.out HIT5.out))
        clear hdr HO7 HG7 HA7 HDR3 HO3 HDR2
        go_roundw
        case rel => exact ⟨pos + e.length, _, c7, A7, HLE.out.1, rfl, HIT6.out, HN2, HDR4⟩
        case measure =>
          have h1 := HMP.out
          have h2 := HLE.out
          simp only [World.iterPos, HIT6.out]
          simp only [World.iterPos] at h1
          omega
    · have hnx : ∀ ty, (Instr.next (.pointer (some ⟨w.heap.size + 1, 0, none⟩)) true ty).run Tryd.prog wr = _ := fun ty => Lib.run_next_end_at wr (w.heap.size + 1) s pos ty hit hp
      have hkn : pos = s.size := by omega
      have HFA := Lib.hid (feedTo_all (strL s) pos (by rw [HSL.out, hkn]))
      clear hkn
      have HFL := Lib.hid (feedTo_len (strL s) pos)
      go_wp2_with fail
      refine (dend_c w.heap.size _ wr HDR.out.st).mono ?_
      rintro en w1 ⟨u, rfl, ho1, hd1, hg1⟩
      obtain ⟨A1, c1, rfl, hr1⟩ := Reads.of_own ho1 (fun x hx => wf_i32.2 (by have := endN_le _ x hx; omega))
      have HD1 := Lib.hid (HDR.out.turn hg1 hd1 (.inl rfl))
      have HR1 := Lib.hid hr1
      have HLE : Hid (N + (endN (feedTo (strL s) pos).1).length ≤ 2199023255553) := by
        show _ ≤ _
        have h1 := HFL.out
        rw [HN.out, HSL.out] at h1
        have h2 := endN_len (feedTo (strL s) pos).1
        omega
      have hown := HD1.out.own
      simp only [HN.out] at hown
      have HO := Lib.hid hown
      have hbs : w.heap.size ≤ w1.heap.size := HD1.out.below.size
      clear hg1 hd1 ho1 hr1 hown hnx hit
      go_wp2_with (at_builtin; refine wpList_appB rfl (.tmp 30) (.tmp 31) 30 rfl w.heap.size 21 i0 (.int .i32 0) 4 Tryd.underlying30 hi hz0 hz1 hz2 rfl _ _ _ rfl HO.out .i32 _ _ _ _ rfl HR1.out (by have := HLE.out; unfold maxLen; omega) (by have := HLE.out; omega) hbs ?_; intro v6 w6 h6 hg6 ha6; obtain ⟨A6, c6, rfl⟩ := own_form h6; have HO6 := Lib.hid h6; have HG6 := Lib.hid hg6; have HA6 := Lib.hid ha6; clear h6 hg6 ha6)
      have hdr : DRow w w6 w.heap.size ([], allN (strL s)) (.slice A6 (N + (endN (feedTo (strL s) pos).1).length) c6) := by
        rw [allN, ← HFA.out]
        exact HD1.out.app rfl (by simp only [HN.out]; exact HO6.out) HG6.out HA6.out
      have HDR2 := Lib.hid hdr
      clear hdr HO6 HG6 HA6 HD1 HO HDR
      go_wp2
      go_ret
      exact ⟨_, rfl, HDR2.out.own, HDR2.out.below⟩
set_option maxHeartbeats 800000 in
theorem count_c (s : ByteArray) (w : World) (hT : Tabs w) (hn : s.size ≤ 1099511627776) : Calls Tryd.prog 21 #[.string s] w fun en w' => en = .returned (.int .i64 ((allN (strL s)).length : Int)) ∧ Below w.heap.size w w' := by
  have HC := Lib.hid (runes_c s w hT hn)
  clear hT
  go_enter Tryd.func21, Tryd.ntmps21
  go_wp2_with fail
  refine HC.out.mono ?_
  rintro en w1 ⟨v, rfl, ho, hb⟩
  obtain ⟨A1, c1, rfl⟩ := own_form ho
  have HB := Lib.hid hb
  clear ho hb
  go_wp2
  go_ret
  exact ⟨rfl, HB.out⟩
end Go.Proofs.YtgkbgckpdkdngaaDoor
