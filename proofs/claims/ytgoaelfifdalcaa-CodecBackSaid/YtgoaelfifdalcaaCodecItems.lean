/- What the functions few, write, bytes and read of the statements of layer 6 do with an item, as a walk through the translated text. Conditions: the items read as a list. -/
import Derived.Test.YtgoaelfifdalcaaAwake6
import Derived.Test.YtgoaelfifdalcaaShaEq
import Derived.Test.YtgoaelfifdalcaaOpen4
namespace Go.Proofs.Ytgoaelfifdalcaa
open Go.ChangeShapes Go.WideShapes Go.RowKit
/-- An item's error and bytes. -/
def encI (x : ItemV) : Int × List Nat :=
  if x.kind = 0 then (0, [(x.num % 256).toNat])
  else if x.kind = 1 then encN x.num
  else if x.kind = 2 then encS x.num
  else if x.kind = 3 then (0, numL x.len ++ x.txt)
  else if x.kind = 4 then (0, x.key)
  else (0, [if x.num % 2 = 0 then 0 else 1])
def FewPost (w : World) (l : List ItemV) (en : Ending) (w' : World) : Prop := ∃ b : Bool, en = .returned (.bool b) ∧ w = w' ∧ (b = true → l.length ≤ 30 ∧ ∀ x ∈ l, x.len ≤ 300)
set_option maxHeartbeats 1600000 in
theorem few_c (A : Option Addr) (n c : Nat) (l : List ItemV) (w : World) (hr : ReadsItems w A n c l) : Calls Try.prog 7 #[.slice A n c] w (FewPost w l) := by
  have HL := Lib.hid hr.len
  have HR := Lib.hid hr
  clear hr
  by_cases hn : 30 < n
  · have d1 : decide ((30 : Int) < (n : Int)) = true := by simp; omega
    go_enter Try.func7, Try.ntmps7
    go_wp2
    go_ret
    exact ⟨false, rfl, rfl, fun h => by cases h⟩
  · have d1 : decide ((30 : Int) < (n : Int)) = false := by simp; omega
    go_enter Try.func7, Try.ntmps7
    go_wp2_with fail
    go_loop [3] (fun x => ∃ i : Nat, i ≤ n ∧ x = .int .i64 (i : Int) ∧ Hid (∀ y ∈ l.take i, y.len ≤ 300)) (fun x => n - (intOf x).toNat)
    case atStart => exact ⟨0, Nat.zero_le _, rfl, by intro y hy; simp at hy⟩
    case round =>
      obtain ⟨i, hi, rfl, HT⟩ := hrel
      by_cases hlt : i < n
      · have hil : i < l.length := by rw [HL.out]; exact hlt
        obtain ⟨ad, rfl, hadlt, hc, hok⟩ := HR.out.item i hil
        have c2 : w.cell? ⟨(ad.add (i * 35)).block, (ad.add (i * 35)).off + 2, none⟩ = some (.slice l[i].adr l[i].len l[i].room) := by
          have := hc 2 _ rfl
          rw [← add_add] at this
          exact this
        have hlt2 : (i : Int) < (n : Int) := by omega
        have hi0 : (0 : Int) ≤ (i : Int) := by omega
        have hcap := hok.row.room
        have hcap2 := hok.row.cap
        unfold maxLen at hcap2
        obtain ⟨y, hy⟩ : ∃ y, Hid (l[i] = y) := ⟨l[i], rfl⟩
        rw [hy.out] at c2 hcap hcap2
        have HN : Hid (∀ z ∈ l.take (i + 1), z.len ≤ 300 ∨ z = y) := by
          intro z hz
          rw [List.take_succ_eq_append_getElem hil] at hz
          rcases List.mem_append.1 hz with h | h
          · exact .inl (HT.out z h)
          · right; rw [← hy.out]; simpa using h
        clear hc hok hadlt
        by_cases h3 : y.len ≤ 300
        · have d2 : decide ((300 : Int) < (y.len : Int)) = false := by simp; omega
          go_wp2
          go_round
          case rel => exact ⟨i + 1, by omega, by go_num, fun z hz => (HN.out z hz).elim id (fun e => by rw [e]; exact h3)⟩
          case measure => simp [intOf]; omega
        · have d2 : decide ((300 : Int) < (y.len : Int)) = true := by simp; omega
          go_wp2
          go_ret
          exact ⟨false, rfl, rfl, fun h => by cases h⟩
      · obtain rfl : i = n := by omega
        go_wp2
        go_ret
        refine ⟨true, rfl, rfl, fun _ => ⟨by rw [HL.out]; omega, fun x hx => HT.out x ?_⟩⟩
        rw [List.take_of_length_le (by rw [HL.out]; omega)]
        exact hx
theorem length_cells (x : ItemV) {w : World} (h : x.Ok w) : x.cells.length = 35 := by simp [ItemV.cells, length_ints, h.keyLen]
theorem cells_oneCell (x : ItemV) : ∀ v ∈ x.cells, v.oneCell' = true := by
  intro v hv
  simp only [ItemV.cells, List.mem_cons] at hv
  rcases hv with rfl | rfl | rfl | hv
  · rfl
  · rfl
  · rfl
  · exact ints_oneCell _ _ v hv
/-- The cells of an item in a block of its own. -/
theorem item_blk {w : World} {b : Nat} {t : TypeId} {x : ItemV} (h : Blk w b t x.cells) :
    w.cell? ⟨b, 0, none⟩ = some (.int .i64 x.kind) ∧ w.cell? ⟨b, 1, none⟩ = some (.int .i64 x.num) ∧ w.cell? ⟨b, 2, none⟩ = some (.slice x.adr x.len x.room) ∧ (∀ j v, (ints .u8 x.key)[j]? = some v → w.cell? ((⟨b, 3, none⟩ : Addr).add j) = some v) := by
  refine ⟨h.cell 0, h.cell 1, h.cell 2, ?_⟩
  have h' : Blk w b t ([.int .i64 x.kind, .int .i64 x.num, .slice x.adr x.len x.room] ++ (ints .u8 x.key ++ [])) := by simpa [ItemV.cells] using h
  exact Blk.mid 3 rfl h'
theorem tmod2_even {z : Int} (h : z % 2 = 0) : (z.tmod 2 != 0) = false := by
  have : z.tmod 2 = 0 := Int.tmod_eq_zero_of_dvd (by omega)
  rw [this]; rfl
theorem tmod2_odd {z : Int} (h : ¬ z % 2 = 0) : (z.tmod 2 != 0) = true := by
  rw [bne_iff_ne]
  intro e
  have := Int.dvd_of_tmod_eq_zero e
  omega
section
variable (g : Nat) (F : Nat → Prop) (s : List Nat × Int) (x : ItemV) (w : World) (h : WAt w g F s) (hx : x.Ok w) (ho : 0 < x.len → ∀ ad, x.adr = some ad → ¬ F ad.block) (hb : s.1.length + x.len + 40 ≤ 1099511627776)
include h hx hb
set_option maxRecDepth 100000 in
set_option maxHeartbeats 1600000 in
theorem write0 (hk : x.kind = 0) : Calls Try.prog 9 #[.pointer (some ⟨g, 0, none⟩), .agg x.cells.toArray] w (WPost w g F (wrote s (encI x))) := by
  have HE : Hid (encI x = (0, [(x.num % 256).toNat])) := by show _ = _; rw [encI, if_pos hk]
  rw [HE.out]
  have H := Lib.hid h
  have HC := Lib.hid (length_cells x hx)
  have HX := Lib.hid hx
  have HK := Lib.hid hk
  clear h hx hk
  obtain ⟨b, hb'⟩ : ∃ b, Hid ((x.num % 256).toNat = b) := ⟨_, rfl⟩
  have hb8 : b < 256 := by have := hb'.out; omega
  have HW : Hid (x.num % 256 = (b : Int)) := by show _ = _; rw [← hb'.out]; omega
  rw [hb'.out]
  go_enter Try.func9, Try.ntmps9
  go_upto_region 1 with (fail)
  refine name_wp (fun w1 => Blk w1 w.heap.size 33 x.cells ∧ Below w.heap.size w w1) ⟨Blk.new _ _ _, alloc_below _ _⟩ ?_
  rintro w1 ⟨hb1, hbel⟩
  obtain ⟨c0, c1, c2, c3⟩ := item_blk hb1
  rw [HK.out] at c0
  have H1 := Lib.hid (h := (H.out.below hbel).mono (inNew (w := w)))
  clear hb1 c3
  go_wp2_with fail
  rw [HW.out]
  refine (wbyte_c g (orNew F w) s b w1 H1.out hb8 (by omega)).mono ?_
  intro en w2 hpost
  obtain ⟨⟨v, rfl⟩, h2, h3⟩ := WPost.behind (Chg.of_below hbel) hpost
  clear hpost
  go_wp2
  go_end0
  exact ⟨⟨_, rfl⟩, h2, h3⟩
set_option maxRecDepth 100000 in
set_option maxHeartbeats 1600000 in
theorem write1 (hk : x.kind = 1) : Calls Try.prog 9 #[.pointer (some ⟨g, 0, none⟩), .agg x.cells.toArray] w (WPost w g F (wrote s (encI x))) := by
  have HE : Hid (encI x = encN x.num) := by show _ = _; rw [encI, if_neg (by rw [hk]; decide), if_pos hk]
  rw [HE.out]
  have H := Lib.hid h
  have HC := Lib.hid (length_cells x hx)
  have HX := Lib.hid hx
  have HK := Lib.hid hk
  clear h hx hk
  go_enter Try.func9, Try.ntmps9
  go_upto_region 1 with (fail)
  refine name_wp (fun w1 => Blk w1 w.heap.size 33 x.cells ∧ Below w.heap.size w w1) ⟨Blk.new _ _ _, alloc_below _ _⟩ ?_
  rintro w1 ⟨hb1, hbel⟩
  obtain ⟨c0, c1, c2, c3⟩ := item_blk hb1
  rw [HK.out] at c0
  have H1 := Lib.hid (h := (H.out.below hbel).mono (inNew (w := w)))
  clear hb1 c3
  go_wp2_with fail
  refine (wnumber_c g (orNew F w) s x.num w1 H1.out (by omega)).mono ?_
  intro en w2 hpost
  obtain ⟨⟨v, rfl⟩, h2, h3⟩ := WPost.behind (Chg.of_below hbel) hpost
  clear hpost
  go_wp2
  go_end0
  exact ⟨⟨_, rfl⟩, h2, h3⟩
set_option maxRecDepth 100000 in
set_option maxHeartbeats 1600000 in
theorem write2 (hk : x.kind = 2) : Calls Try.prog 9 #[.pointer (some ⟨g, 0, none⟩), .agg x.cells.toArray] w (WPost w g F (wrote s (encI x))) := by
  have HE : Hid (encI x = encS x.num) := by show _ = _; rw [encI, if_neg (by rw [hk]; decide), if_neg (by rw [hk]; decide), if_pos hk]
  rw [HE.out]
  have H := Lib.hid h
  have HC := Lib.hid (length_cells x hx)
  have HX := Lib.hid hx
  have HK := Lib.hid hk
  clear h hx hk
  go_enter Try.func9, Try.ntmps9
  go_upto_region 1 with (fail)
  refine name_wp (fun w1 => Blk w1 w.heap.size 33 x.cells ∧ Below w.heap.size w w1) ⟨Blk.new _ _ _, alloc_below _ _⟩ ?_
  rintro w1 ⟨hb1, hbel⟩
  obtain ⟨c0, c1, c2, c3⟩ := item_blk hb1
  rw [HK.out] at c0
  have H1 := Lib.hid (h := (H.out.below hbel).mono (inNew (w := w)))
  clear hb1 c3
  go_wp2_with fail
  refine (wsigned_c g (orNew F w) s x.num w1 H1.out (by omega)).mono ?_
  intro en w2 hpost
  obtain ⟨⟨v, rfl⟩, h2, h3⟩ := WPost.behind (Chg.of_below hbel) hpost
  clear hpost
  go_wp2
  go_end0
  exact ⟨⟨_, rfl⟩, h2, h3⟩
include ho in
set_option maxRecDepth 100000 in
set_option maxHeartbeats 1600000 in
theorem write3 (hk : x.kind = 3) : Calls Try.prog 9 #[.pointer (some ⟨g, 0, none⟩), .agg x.cells.toArray] w (WPost w g F (wrote s (encI x))) := by
  have HE : Hid (encI x = (0, numL x.len ++ x.txt)) := by show _ = _; rw [encI, if_neg (by rw [hk]; decide), if_neg (by rw [hk]; decide), if_neg (by rw [hk]; decide), if_pos hk]
  rw [HE.out]
  have H := Lib.hid h
  have HC := Lib.hid (length_cells x hx)
  have HX := Lib.hid hx
  have HK := Lib.hid hk
  clear h hx hk
  have HO : Hid (0 < x.len → ∀ ad, x.adr = some ad → ¬ orNew F w ad.block) := by
    intro h0 ad e hn
    obtain ⟨ad', e', hl, _⟩ := HX.out.row.cell 0 (by rw [HX.out.row.len]; exact h0)
    rw [e] at e'
    cases e'
    exact hn.elim (ho h0 ad e) (fun hge => absurd hge (by omega))
  clear ho
  go_enter Try.func9, Try.ntmps9
  go_upto_region 1 with (fail)
  refine name_wp (fun w1 => Blk w1 w.heap.size 33 x.cells ∧ Below w.heap.size w w1) ⟨Blk.new _ _ _, alloc_below _ _⟩ ?_
  rintro w1 ⟨hb1, hbel⟩
  obtain ⟨c0, c1, c2, c3⟩ := item_blk hb1
  rw [HK.out] at c0
  have H1 := Lib.hid (h := (H.out.below hbel).mono (inNew (w := w)))
  clear hb1 c3
  go_wp2_with fail
  refine (wtext_c g (orNew F w) s x.adr x.len x.room x.txt w1 H1.out (HX.out.row.keep hbel) HO.out (by omega)).mono ?_
  intro en w2 hpost
  obtain ⟨⟨v, rfl⟩, h2, h3⟩ := WPost.behind (Chg.of_below hbel) hpost
  clear hpost
  go_wp2
  go_end0
  exact ⟨⟨_, rfl⟩, h2, h3⟩
set_option maxRecDepth 100000 in
set_option maxHeartbeats 1600000 in
theorem write4 (hk : x.kind = 4) : Calls Try.prog 9 #[.pointer (some ⟨g, 0, none⟩), .agg x.cells.toArray] w (WPost w g F (wrote s (encI x))) := by
  have HE : Hid (encI x = (0, x.key)) := by show _ = _; rw [encI, if_neg (by rw [hk]; decide), if_neg (by rw [hk]; decide), if_neg (by rw [hk]; decide), if_neg (by rw [hk]; decide), if_pos hk]
  rw [HE.out]
  have H := Lib.hid h
  have HC := Lib.hid (length_cells x hx)
  have HX := Lib.hid hx
  have HK := Lib.hid hk
  clear h hx hk
  go_enter Try.func9, Try.ntmps9
  go_upto_region 1 with (fail)
  refine name_wp (fun w1 => Blk w1 w.heap.size 33 x.cells ∧ Below w.heap.size w w1) ⟨Blk.new _ _ _, alloc_below _ _⟩ ?_
  rintro w1 ⟨hb1, hbel⟩
  obtain ⟨c0, c1, c2, c3⟩ := item_blk hb1
  rw [HK.out] at c0
  have H1 := Lib.hid (h := (H.out.below hbel).mono (inNew (w := w)))
  have C3 := Lib.hid c3
  clear hb1 c3
  go_wp2_with ((with_reducible refine at_load 31 ?_); refine wpList_load_at rfl 31 (.tmp 40) rfl ⟨w.heap.size, 3, none⟩ rfl (ints .u8 x.key) _ C3.out Try.underlying31 rfl (by rw [length_ints, HX.out.keyLen]; kernel_rfl) ?_)
  refine (wkey_c g (orNew F w) s x.key w1 H1.out HX.out.keyLen HX.out.keyByte (by omega)).mono ?_
  intro en w2 hpost
  obtain ⟨⟨v, rfl⟩, h2, h3⟩ := WPost.behind (Chg.of_below hbel) hpost
  clear hpost
  go_wp2
  go_end0
  exact ⟨⟨_, rfl⟩, h2, h3⟩
set_option maxRecDepth 100000 in
set_option maxHeartbeats 1600000 in
theorem write5 (k0 : x.kind ≠ 0) (k1 : x.kind ≠ 1) (k2 : x.kind ≠ 2) (k3 : x.kind ≠ 3) (k4 : x.kind ≠ 4) : Calls Try.prog 9 #[.pointer (some ⟨g, 0, none⟩), .agg x.cells.toArray] w (WPost w g F (wrote s (encI x))) := by
  have HE : Hid (encI x = (0, [if x.num % 2 = 0 then 0 else 1])) := by show _ = _; rw [encI, if_neg k0, if_neg k1, if_neg k2, if_neg k3, if_neg k4]
  rw [HE.out]
  have H := Lib.hid h
  have HC := Lib.hid (length_cells x hx)
  have HX := Lib.hid hx
  have e0 : (x.kind == 0) = false := by simpa using k0
  have e1 : (x.kind == 1) = false := by simpa using k1
  have e2 : (x.kind == 2) = false := by simpa using k2
  have e3 : (x.kind == 3) = false := by simpa using k3
  have e4 : (x.kind == 4) = false := by simpa using k4
  clear h hx k0 k1 k2 k3 k4
  obtain ⟨bb, hbb⟩ : ∃ bb, Hid ((x.num.tmod 2 != 0) = bb) := ⟨_, rfl⟩
  have HB : Hid ((if x.num % 2 = 0 then 0 else 1) = bb.toNat) := by
    show _ = _
    rw [← hbb.out]
    by_cases h2 : x.num % 2 = 0
    · rw [if_pos h2, tmod2_even h2]; rfl
    · rw [if_neg h2, tmod2_odd h2]; rfl
  rw [HB.out]
  go_enter Try.func9, Try.ntmps9
  go_upto_region 1 with (fail)
  refine name_wp (fun w1 => Blk w1 w.heap.size 33 x.cells ∧ Below w.heap.size w w1) ⟨Blk.new _ _ _, alloc_below _ _⟩ ?_
  rintro w1 ⟨hb1, hbel⟩
  obtain ⟨c0, c1, c2, c3⟩ := item_blk hb1
  have H1 := Lib.hid (h := (H.out.below hbel).mono (inNew (w := w)))
  clear hb1 c3
  go_wp2_with fail
  rw [hbb.out]
  refine (wbool_c g (orNew F w) s bb w1 H1.out (by omega)).mono ?_
  intro en w2 hpost
  obtain ⟨⟨v, rfl⟩, h2, h3⟩ := WPost.behind (Chg.of_below hbel) hpost
  clear hpost
  go_wp2
  go_end0
  exact ⟨⟨_, rfl⟩, h2, h3⟩
include ho in
theorem write_c : Calls Try.prog 9 #[.pointer (some ⟨g, 0, none⟩), .agg x.cells.toArray] w (WPost w g F (wrote s (encI x))) := by
  by_cases k0 : x.kind = 0
  · exact write0 g F s x w h hx hb k0
  by_cases k1 : x.kind = 1
  · exact write1 g F s x w h hx hb k1
  by_cases k2 : x.kind = 2
  · exact write2 g F s x w h hx hb k2
  by_cases k3 : x.kind = 3
  · exact write3 g F s x w h hx ho hb k3
  by_cases k4 : x.kind = 4
  · exact write4 g F s x w h hx hb k4
  exact write5 g F s x w h hx hb k0 k1 k2 k3 k4
end
end Go.Proofs.Ytgoaelfifdalcaa
