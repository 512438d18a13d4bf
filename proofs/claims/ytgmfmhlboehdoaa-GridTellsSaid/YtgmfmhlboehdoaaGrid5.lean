/- What Right, Same, New, Of and a board's Grid of package grid do, as walks through the translated text. Conditions: slices read as lists of cells, at most 2^40 of them are made. -/
import Derived.Test.YtgmfmhlboehdoaaGrid4
namespace Go.Proofs.Ytgmfmhlboehdoaa
open Go.ChangeShapes Go.WideShapes Go.RowKit
/-- A grid as a value. -/
def gridV (r c : Int) (A : Option Addr) (n k : Nat) : List Value := [.int .i64 r, .int .i64 c, .slice A n k]
def blankV : CellV := (32, 0, 0, 0)
def rightG (r c : Int) (l : List CellV) : Bool := sizeOk r c && decide ((l.length : Int) = r * c) && l.all okC
def sameG (r c : Int) (l : List CellV) (r' c' : Int) (l' : List CellV) : Bool := decide (r = r' ∧ c = c' ∧ l = l')
theorem okC_blank : okC blankV = true := by decide
theorem sizeOk_iff {r c : Int} (h : sizeOk r c = true) : ∃ R C : Nat, r = R ∧ c = C ∧ (1 ≤ R ∧ R ≤ 60) ∧ (1 ≤ C ∧ C ≤ 132) := by
  have h1 := of_decide_eq_true h
  exact ⟨r.toNat, c.toNat, by omega, by omega, by omega, by omega⟩
/-- A new board. -/
structure NewBoard (w w' : World) (b g R C : Nat) (f : Nat → CellV) : Prop where
  nb : w.heap.size ≤ b
  ng : w.heap.size ≤ g
  at_ : BAt w' b g R C f
  bel : Below w.heap.size w w'
def NewPost (w : World) (r c : Int) (en : Ending) (w' : World) : Prop :=
  (sizeOk r c = false ∧ en = .returned (.tuple #[.pointer none, .int .i64 22]) ∧ Below w.heap.size w w') ∨
  (∃ R C b g : Nat, r = R ∧ c = C ∧ en = .returned (.tuple #[.pointer (some ⟨b, 0, none⟩), .int .i64 0]) ∧ NewBoard w w' b g R C fun _ => blankV)
theorem boxed {w : World} {R C g cap : Nat} {f : Nat → CellV} (hr : 1 ≤ R ∧ R ≤ 60) (hc : 1 ≤ C ∧ C ≤ 132) (h : RowAt w g 38 (R * C) f) (h1 : R * C ≤ cap) (h2 : cap ≤ maxLen) (hok : ∀ i, i < R * C → okC (f i) = true) :
    BAt (w.alloc (.cells #[.int .i64 R, .int .i64 C, .slice (some ⟨g, 0, none⟩) (R * C) cap] 61)) w.heap.size g R C f :=
  ⟨⟨cap, Blk.new w _ [.int .i64 R, .int .i64 C, .slice (some ⟨g, 0, none⟩) (R * C) cap], h1, h2⟩, h.below (alloc_below' _ _), Nat.ne_of_lt h.lt, hr, hc, hok⟩
set_option maxHeartbeats 1600000 in
theorem new_c (r c : Int) (w : World) : Calls Try.prog 8 #[.int .i64 r, .int .i64 c] w (NewPost w r c) := by
  cases hS : sizeOk r c with
  | false =>
    have HS := Lib.hid hS
    clear hS
    go_enter Try.func8, Try.ntmps8
    go_wp2_with fail
    refine (fits_c r c w).mono ?_
    rw [HS.out]
    rintro en w1 ⟨rfl, rfl⟩
    go_wp2
    go_ret2
    exact .inl ⟨HS.out, rfl, Below.refl _ _⟩
  | true =>
    obtain ⟨R, C, rfl, rfl, hR, hC⟩ := sizeOk_iff hS
    have HS := Lib.hid hS
    have hsz : R * C ≤ 60 * 132 := Nat.mul_le_mul hR.2 hC.2
    have hs1 : 1 ≤ R * C := Nat.mul_pos hR.1 hC.1
    obtain ⟨N, hN⟩ : ∃ N, Hid (R * C = N) := ⟨_, Lib.hid rfl⟩
    rw [hN.out] at hsz hs1
    have w1 : IntKind.i64.wrap ((R : Int) * (C : Int)) = (N : Int) := by rw [← Int.natCast_mul, hN.out, IntKind.wrap_i64]; omega
    have HR := Lib.hid hR
    have HC := Lib.hid hC
    have hbl := Lib.hid (blank_c (0, 0, 0) w)
    simp only [cellV] at hbl
    clear hS hR hC
    go_enter Try.func8, Try.ntmps8
    go_wp2_with fail
    refine (fits_c R C w).mono ?_
    rw [HS.out]
    rintro en w0 ⟨rfl, rfl⟩
    go_wp2_with fail
    refine hbl.out.mono ?_
    rintro en w2 ⟨rfl, hb2⟩
    have HB2 := Lib.hid hb2
    clear hb2
    go_wp2_with fail
    have hb3 : Below w.heap.size w (w2.alloc (.cells (cellV blankV).toArray 38)) := HB2.out.alloc HB2.out.size _
    have hr3 : ReadsS cellV 4 (w2.alloc (.cells (cellV blankV).toArray 38)) (some ⟨w2.heap.size, 0, none⟩) 1 1 (tab 1 fun _ => blankV) := by
      refine ⟨rfl, by decide, by decide, fun i hi => ⟨_, rfl, by simp, fun j u hu => ?_⟩⟩
      have h0 : i = 0 := by rw [length_tab] at hi; omega
      subst h0
      rw [tab_get] at hu
      rw [add_add, Nat.zero_mul, Nat.zero_add]
      exact (Blk.new w2 _ _).all j u hu
    refine name_Calls (fun w4 => Below w.heap.size w w4 ∧ ReadsS cellV 4 w4 (some ⟨w2.heap.size, 0, none⟩) 1 1 (tab 1 fun _ => blankV)) ⟨hb3, hr3⟩ ?_
    clear hb3 hr3
    rintro w4 ⟨hb4, hr4⟩
    refine (repeat_c _ N blankV w4 hr4 hs1 (by omega)).mono ?_
    rintro en w5 ⟨g, cap, rfl, hn5⟩
    have HN5 := Lib.hid hn5
    have HB4 := Lib.hid hb4
    clear hb4 hr4 hn5 hbl
    go_wp2
    go_ret2
    refine .inr ⟨R, C, w5.heap.size, g, rfl, rfl, rfl, ?_⟩
    have hb5 : Below w.heap.size w w5 := HB4.out.trans (HN5.out.bel.mono HB4.out.size)
    have hrow := HN5.out.row
    have hroom := HN5.out.room
    rw [← hN.out] at hrow hroom ⊢
    exact ⟨hb5.size, Nat.le_trans HB4.out.size HN5.out.new, boxed HR.out HC.out hrow hroom HN5.out.cap (fun _ _ => okC_blank), hb5.alloc hb5.size _⟩
theorem newAt {w : World} {g : Nat} (t : TypeId) (cs : List Value) (h : w.heap.size = g) : Blk (w.alloc (.cells cs.toArray t)) g t cs := by
  subst h
  exact Blk.new w t cs
theorem gridV_list (r c : Int) (A : Option Addr) (n k : Nat) : gridV r c A n k = [.int .i64 r, .int .i64 c, .slice A n k] := rfl
theorem three_new (w : World) (t : TypeId) (r c : Int) (A : Option Addr) (n k : Nat) : (w.alloc (.cells (gridV r c A n k).toArray t)).cell? ⟨w.heap.size, 0, none⟩ = some (.int .i64 r) ∧ (w.alloc (.cells (gridV r c A n k).toArray t)).cell? ⟨w.heap.size, 1, none⟩ = some (.int .i64 c) ∧ (w.alloc (.cells (gridV r c A n k).toArray t)).cell? ⟨w.heap.size, 2, none⟩ = some (.slice A n k) :=
  ⟨(Blk.new w t _).cell 0, (Blk.new w t _).cell 1, (Blk.new w t _).cell 2⟩
theorem boxG {w : World} {z : Nat} {t : TypeId} {r c : Int} {A : Option Addr} {n k : Nat} (h : Blk w z t (gridV r c A n k)) : w.cell? ⟨z, 0, none⟩ = some (.int .i64 r) ∧ w.cell? ⟨z, 1, none⟩ = some (.int .i64 c) ∧ w.cell? ⟨z, 2, none⟩ = some (.slice A n k) := ⟨h.cell 0, h.cell 1, h.cell 2⟩
set_option maxHeartbeats 1600000 in
theorem gright_c (r c : Int) (A : Option Addr) (n k : Nat) (l : List CellV) (w : World) (hr : ReadsS cellV 4 w A n k l) : Calls Try.prog 13 #[.agg (gridV r c A n k).toArray] w (BoolPost w (rightG r c l)) := by
  obtain ⟨B, hB⟩ : ∃ B, Hid (rightG r c l = B) := ⟨_, rfl⟩
  rw [hB.out]
  have HLen := Lib.hid hr.len
  have HR := Lib.hid hr
  have hn : n ≤ 9223372036854775807 := by have := hr.room; have := hr.cap; unfold maxLen at this; omega
  clear hr
  simp only [gridV_list]
  go_enter Try.func13, Try.ntmps13
  go_upto_region 1 with (fail)
  refine name_wp (fun w1 => Blk w1 w.heap.size 31 (gridV r c A n k) ∧ Below w.heap.size w w1) ⟨Blk.new _ _ _, alloc_below' _ _⟩ ?_
  rintro w1 ⟨hb1, hbel1⟩
  obtain ⟨c0, c1, c2⟩ := boxG hb1
  have HBel := Lib.hid hbel1
  have HR1 := Lib.hid (HR.out.keep hbel1)
  clear hb1 hbel1
  cases hS : sizeOk r c with
  | false =>
    have hb : B = false := by rw [← hB.out]; simp [rightG, hS]
    subst hb
    have HF := Lib.hid (fits_c r c w1)
    rw [hS] at HF
    clear hS
    go_wp2_with fail
    refine HF.out.mono ?_
    rintro en w1 ⟨rfl, rfl⟩
    go_wp2
    go_ret
    exact ⟨rfl, HBel.out⟩
  | true =>
    obtain ⟨R, C, rfl, rfl, hR, hC⟩ := sizeOk_iff hS
    have hsz : R * C ≤ 60 * 132 := Nat.mul_le_mul hR.2 hC.2
    have hb : Hid (B = (decide (l.length = R * C) && l.all okC)) := by
      show _ = _
      rw [← hB.out]; simp only [rightG, hS, Bool.true_and]
      congr 1
      exact decide_eq_decide.2 ⟨fun h => by rw [← Int.natCast_mul] at h; omega, fun h => by rw [h, Int.natCast_mul]⟩
    obtain ⟨N, hN⟩ : ∃ N, Hid (R * C = N) := ⟨_, Lib.hid rfl⟩
    rw [hN.out] at hsz
    rw [HLen.out, hN.out] at hb
    have e1 : IntKind.i64.wrap ((R : Int) * (C : Int)) = (N : Int) := by rw [← Int.natCast_mul, hN.out, IntKind.wrap_i64]; omega
    have HF := Lib.hid (fits_c R C w1)
    rw [hS] at HF
    clear hS hB hR hC
    by_cases hnN : n = N
    · subst hnN
      have HC := Lib.hid (containsFunc_c A n k l _ HR1.out)
      obtain ⟨D, hD⟩ : ∃ D, Hid (l.all okC = D) := ⟨_, rfl⟩
      rw [hD.out] at HC
      have hb2 : B = D := by rw [hb.out, hD.out]; simp
      subst hb2
      go_wp2_with fail
      refine HF.out.mono ?_
      rintro en w1 ⟨rfl, rfl⟩
      go_wp2_with fail
      refine HC.out.mono ?_
      rintro en w2 ⟨rfl, hb2⟩
      have HB2 := Lib.hid hb2
      clear hb2
      go_wp2
      go_ret
      exact ⟨ret_bool (by simp), HBel.out.trans (HB2.out.mono HBel.out.size)⟩
    · have hb2 : B = false := by rw [hb.out]; simp [hnN]
      subst hb2
      have hne : ((n : Int) == (N : Int)) = false := by simpa using fun h => hnN (by omega)
      have hneN : (n == N) = false := by simpa using hnN
      clear hnN
      go_wp2_with fail
      refine HF.out.mono ?_
      rintro en w1 ⟨rfl, rfl⟩
      go_wp2
      go_ret
      exact ⟨rfl, HBel.out⟩
theorem sizeG : (Try.prog.info? 31).map (·.size) = some 3 := by kernel_rfl
theorem one_gridV (r c : Int) (A : Option Addr) (n k : Nat) : ∀ v ∈ gridV r c A n k, v.oneCell' = true := by
  intro v hv
  simp only [gridV, List.mem_cons, List.not_mem_nil, or_false] at hv
  rcases hv with rfl | rfl | rfl <;> rfl
def GridPost (w : World) (R C n : Nat) (f : Nat → CellV) (en : Ending) (w' : World) : Prop := ∃ g cap, en = .returned (.agg (gridV R C (some ⟨g, 0, none⟩) n cap).toArray) ∧ NewRow w w' g cap n f
set_option maxHeartbeats 1600000 in
theorem separate_c (R C : Nat) (ad : Addr) (n k : Nat) (f : Nat → CellV) (w : World) (hr : ReadsS cellV 4 w (some ad) n k (tab n f)) (h1 : 1 ≤ n) (hn : n ≤ 1099511627776) : Calls Try.prog 39 #[.agg (gridV R C (some ad) n k).toArray] w (GridPost w R C n f) := by
  have hs := hr.pos h1
  obtain ⟨_, e, hlt⟩ := hs
  cases e
  have HR := Lib.hid hr
  clear hr
  simp only [gridV_list]
  go_enter Try.func39, Try.ntmps39
  go_upto_region 1 with (fail)
  refine name_wp (fun w1 => Blk w1 w.heap.size 31 (gridV R C (some ad) n k) ∧ Blk w1 (w.heap.size + 1) 31 (gridV 0 0 none 0 0) ∧ Below w.heap.size w w1) ⟨(Blk.new _ _ _).alloc _, newAt _ _ (by simp), (alloc_below' _ _).alloc (by simp) _⟩ ?_
  rintro w1 ⟨hb1, hb2, hbel1⟩
  obtain ⟨c0, c1, c2⟩ := boxG hb1
  have HBel := Lib.hid hbel1
  have HR1 := Lib.hid (HR.out.keep hbel1)
  have HB1 := Lib.hid hb1
  have HB2 := Lib.hid hb2
  clear hb1 hbel1 hb2
  go_wp2_with fail
  refine (clone_c ad n k f w1 HR1.out h1 hn).mono ?_
  rintro en w2 ⟨g, cap, rfl, hn2⟩
  have hb1 := HB1.out.below hn2.bel HB1.out.lt
  have hb2 := Lib.hid (HB2.out.below hn2.bel HB2.out.lt)
  have HBs1 : Hid (w.heap.size + 2 ≤ g) := by have h1 := hn2.new; have h2 := HB2.out.lt; show _ ≤ _; omega
  have HN2 := Lib.hid hn2
  have d2 : w2.cell? ⟨w.heap.size, 2, none⟩ = _ := hb1.cell 2
  have f2 := hb1.frozen 2
  simp only [gridV_list, List.getElem?_cons_zero, List.getElem?_cons_succ] at d2
  have HB1' := Lib.hid hb1
  clear hb1 hn2 c0 c1 c2 HB1 HB2
  go_upto_region 2 with (fail)
  refine name_wp (fun w3 => Blk w3 w.heap.size 31 (gridV R C (some ⟨g, 0, none⟩) n cap) ∧ Blk w3 (w.heap.size + 1) 31 (gridV 0 0 none 0 0) ∧ NewRow w w3 g cap n f) ?_ ?_
  · have hn := HN2.out
    have hs := HBel.out.size
    have hg1 := hn.new
    have hz := HB1'.out.lt
    have hz2 := hb2.out.lt
    have hk : Chg (fun i => i = w.heap.size) w2 (w2.setCell ⟨w.heap.size, 2, none⟩ (.slice (some ⟨g, 0, none⟩) n cap)) := Chg.of_only (row := some w.heap.size) (only_setCell (World.grownBy.refl _ _) rfl _) (fun i hi => (Option.some.inj hi).symm)
    exact ⟨HB1'.out.set_ 2 _, hb2.out.chg hk (by omega), by have := HBs1.out; omega, hn.room, hn.cap, hn.row.chg hk (by have := HBs1.out; omega), hk.below (HBel.out.trans (hn.bel.mono HBel.out.size)) (by omega) (fun i hi => by omega)⟩
  rintro w3 ⟨hb3, hb4, hn3⟩
  clear HN2 hb2 HB1' d2 f2
  refine wp_region_lit ?_
  refine wpList_load_at rfl 31 (.tmp 1) rfl ⟨w.heap.size, 0, none⟩ rfl _ _ hb3.all Try.underlying31 rfl sizeG ?_
  refine wpList_store_at rfl rfl 31 (.tmp 2) (.tmp 7) rfl (w.heap.size + 1) 0 rfl _ rfl _ _ hb4 (Nat.le_refl 3) (one_gridV _ _ _ _ _) sizeG ?_
  intro w4 hb5 hg5
  rw [splice_all _ _ (by rfl)] at hb5
  have HN3 := Lib.hid hn3
  have HB5 := Lib.hid hb5
  have HG5 := Lib.hid hg5
  clear hn3 hb5 hg5 hb3 hb4
  go_wp2
  refine bodyPost_ret (v := .agg (gridV R C (some ⟨g, 0, none⟩) n cap).toArray) ?_ rfl ?_
  · exact results_cell_row rfl _ _ (w.heap.size + 1) _ _ _ _ rfl HB5.out Try.underlying31 rfl (by kernel_rfl)
  · have hk := Chg.of_only (F := fun i => i = w.heap.size + 1) HG5.out (fun i hi => (Option.some.inj hi).symm)
    have hn := HN3.out
    exact ⟨g, cap, rfl, hn.new, hn.room, hn.cap, hn.row.chg hk (by have := HBs1.out; omega), hk.below hn.bel hn.bel.size (fun i hi => by omega)⟩
set_option maxHeartbeats 1600000 in
theorem grid_c (b g R C : Nat) (f : Nat → CellV) (w : World) (h : BAt w b g R C f) : Calls Try.prog 12 #[.pointer (some ⟨b, 0, none⟩)] w (GridPost w R C (R * C) f) := by
  obtain ⟨hs1, hs2⟩ := h.size
  obtain ⟨cap, hc1, hc2, _, _, _⟩ := h.three
  have hblt := h.blt
  have H := Lib.hid h
  clear h hc1
  obtain ⟨N, hN⟩ : ∃ N, Hid (R * C = N) := ⟨_, Lib.hid rfl⟩
  rw [hN.out]
  rw [hN.out] at hs1 hs2
  go_enter Try.func12, Try.ntmps12
  go_upto_region 1 with (fail)
  refine name_wp (fun w1 => Blk w1 w.heap.size 31 (gridV 0 0 none 0 0) ∧ Below w.heap.size w w1) ⟨Blk.new _ _ _, alloc_below' _ _⟩ ?_
  rintro w1 ⟨hb1, hbel1⟩
  have HBel := Lib.hid hbel1
  have HB1 := Lib.hid hb1
  have hlt1 := hb1.lt
  have H1 := H.out.below hbel1
  obtain ⟨cap, hc1, hc2, c0, c1, c2⟩ := H1.three
  clear hb1 hbel1
  rw [hN.out] at hc1 c2
  have hr := H1.row.reads 0 N cap (by rw [hN.out]; omega) hc1 hc2 (A := some ⟨g, 0, none⟩) (fun _ => rfl)
  rw [show (tab N fun i => f (0 + i)) = tab N f from tab_congr (fun i _ => by rw [Nat.zero_add])] at hr
  have HR := Lib.hid hr
  clear hr H1
  go_wp2_with fail
  refine (separate_c R C ⟨g, 0, none⟩ N cap f w1 HR.out hs1 (by omega)).mono ?_
  rintro en w2 ⟨g2, cap2, rfl, hn2⟩
  have HB2 := Lib.hid (HB1.out.below hn2.bel HB1.out.lt)
  have HN2 := Lib.hid hn2
  clear hn2 c0 c1 c2 HB1
  go_wp2_with ((with_reducible refine at_store 31 ?_); refine wpList_store_at rfl rfl 31 (.tmp 2) (.tmp 7) rfl w.heap.size 0 rfl _ rfl _ _ HB2.out (Nat.le_refl 3) (one_gridV _ _ _ _ _) sizeG ?_; intro w4 hb5 hg5; rw [splice_all _ _ (by rfl)] at hb5; have HB5 := Lib.hid hb5; have HG5 := Lib.hid hg5; clear hb5 hg5)
  refine bodyPost_ret (v := .agg (gridV R C (some ⟨g2, 0, none⟩) N cap2).toArray) ?_ rfl ?_
  · exact results_cell_row rfl _ _ w.heap.size _ _ _ _ rfl HB5.out Try.underlying31 rfl (by kernel_rfl)
  · have hk := Chg.of_only (F := fun i => i = w.heap.size) HG5.out (fun i hi => (Option.some.inj hi).symm)
    have hn := HN2.out
    have h1 := hn.new
    have h2 := hn.bel.size
    have h3 := HB2.out.lt
    have h4 := HBel.out.size
    exact ⟨g2, cap2, rfl, by omega, hn.room, hn.cap, hn.row.chg hk (by omega), hk.below (HBel.out.trans (hn.bel.mono h4)) (by omega) (fun i hi => by omega)⟩
end Go.Proofs.Ytgmfmhlboehdoaa
