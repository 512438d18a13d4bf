/- What the reference of package grid tells of one place, of sizes, and of whole grids, as walks through the translated text. Conditions: slices read as lists of cells. -/
import Derived.Test.YtgmfmhlboehdoaaGrid5
import Derived.Test.YtgmfmhlboehdoaaCell2
namespace Go.Proofs.Ytgmfmhlboehdoaa
open Go.ChangeShapes Go.WideShapes Go.RowKit
set_option maxHeartbeats 800000 in
theorem refSize_c (r c : Int) (w : World) : Calls Try.prog 7 #[.int .i64 r, .int .i64 c] w fun en w' => en = .returned (.bool (sizeOk r c)) ∧ w = w' := by
  obtain ⟨B, hB⟩ : ∃ B, Hid (sizeOk r c = B) := ⟨_, rfl⟩
  rw [hB.out]
  have hS : Hid (B = decide (1 ≤ r ∧ r ≤ 60 ∧ 1 ≤ c ∧ c ≤ 132)) := by show _ = _; rw [← hB.out]; rfl
  clear hB
  by_cases h1 : 1 ≤ r
  · by_cases h2 : r ≤ 60
    · by_cases h3 : 1 ≤ c
      · by_cases h4 : c ≤ 132
        · go_enter Try.func7, Try.ntmps7
          go_wp2
          go_ret
          exact ⟨ret_bool (by rw [hS.out]; symm; rw [decide_eq_true_eq]; omega), rfl⟩
        · have g4 : decide (c ≤ 132) = false := by simpa using h4
          go_enter Try.func7, Try.ntmps7
          go_wp2
          go_ret
          exact ⟨ret_bool (by rw [hS.out]; symm; rw [decide_eq_false_iff_not]; omega), rfl⟩
      · have g3 : decide (1 ≤ c) = false := by simpa using h3
        go_enter Try.func7, Try.ntmps7
        go_wp2
        go_ret
        exact ⟨ret_bool (by rw [hS.out]; symm; rw [decide_eq_false_iff_not]; omega), rfl⟩
    · have g2 : decide (r ≤ 60) = false := by simpa using h2
      go_enter Try.func7, Try.ntmps7
      go_wp2
      go_ret
      exact ⟨ret_bool (by rw [hS.out]; symm; rw [decide_eq_false_iff_not]; omega), rfl⟩
  · have g1 : decide (1 ≤ r) = false := by simpa using h1
    go_enter Try.func7, Try.ntmps7
    go_wp2
    go_ret
    exact ⟨ret_bool (by rw [hS.out]; symm; rw [decide_eq_false_iff_not]; omega), rfl⟩
theorem hasB_parts {R C : Nat} {r c : Int} (h : hasB R C r c = true) : ∃ q p : Nat, r = q ∧ c = p ∧ q < R ∧ p < C := by
  have h1 := of_decide_eq_true h
  exact ⟨r.toNat, c.toNat, by omega, by omega, by omega, by omega⟩
set_option maxHeartbeats 1600000 in
theorem there_c (R C : Nat) (A : Option Addr) (n k : Nat) (r c : Int) (w : World) : Calls Try.prog 30 #[.agg (gridV R C A n k).toArray, .int .i64 r, .int .i64 c] w (BoolPost w (hasB R C r c)) := by
  obtain ⟨B, hB⟩ : ∃ B, Hid (hasB R C r c = B) := ⟨_, rfl⟩
  rw [hB.out]
  have hS : Hid (B = decide (0 ≤ r ∧ r < R ∧ 0 ≤ c ∧ c < C)) := by show _ = _; rw [← hB.out]; rfl
  clear hB
  simp only [gridV_list]
  go_enter Try.func30, Try.ntmps30
  go_upto_region 1 with (fail)
  refine name_wp (fun w1 => Blk w1 w.heap.size 31 (gridV R C A n k) ∧ Below w.heap.size w w1) ⟨Blk.new _ _ _, alloc_below' _ _⟩ ?_
  rintro w1 ⟨hb1, hbel1⟩
  obtain ⟨c0, c1, c2⟩ := boxG hb1
  have HBel := Lib.hid hbel1
  clear hb1 hbel1
  by_cases h1 : 0 ≤ r
  · by_cases h2 : r < R
    · by_cases h3 : 0 ≤ c
      · by_cases h4 : c < C
        · go_wp2
          go_ret
          exact ⟨ret_bool (by rw [hS.out]; symm; rw [decide_eq_true_eq]; omega), HBel.out⟩
        · have g4 : decide (c < (C : Int)) = false := by simpa using h4
          go_wp2
          go_ret
          exact ⟨ret_bool (by rw [hS.out]; symm; rw [decide_eq_false_iff_not]; omega), HBel.out⟩
      · have g3 : decide (0 ≤ c) = false := by simpa using h3
        go_wp2
        go_ret
        exact ⟨ret_bool (by rw [hS.out]; symm; rw [decide_eq_false_iff_not]; omega), HBel.out⟩
    · have g2 : decide (r < (R : Int)) = false := by simpa using h2
      go_wp2
      go_ret
      exact ⟨ret_bool (by rw [hS.out]; symm; rw [decide_eq_false_iff_not]; omega), HBel.out⟩
  · have g1 : decide (0 ≤ r) = false := by simpa using h1
    go_wp2
    go_ret
    exact ⟨ret_bool (by rw [hS.out]; symm; rw [decide_eq_false_iff_not]; omega), HBel.out⟩
set_option maxHeartbeats 800000 in
theorem refBlank_c (w : World) : Calls Try.prog 26 #[] w fun en w' => en = .returned (.agg (cellV blankV).toArray) ∧ Below w.heap.size w w' := by
  go_enter Try.func26, Try.ntmps26
  go_wp2
  refine bodyPost_ret (v := .agg (cellV blankV).toArray) ?_ rfl ⟨rfl, alloc_below' w _⟩
  exact results_cell_row rfl _ _ w.heap.size _ _ _ _ rfl (Blk.new w 38 (cellV blankV)) Try.underlying38 rfl (by kernel_rfl)
/-- The cell at a place that there is, else y. -/
def atG (R C : Nat) (f : Nat → CellV) (r c : Int) (y : CellV) : CellV := if hasB R C r c then f (r.toNat * C + c.toNat) else y
set_option maxHeartbeats 1600000 in
theorem refAt_c (R C : Nat) (A : Option Addr) (n k : Nat) (f : Nat → CellV) (r c : Int) (y : CellV) (w : World) (hr : ReadsS cellV 4 w A n k (tab n f)) (hn : n = R * C) (hR : R ≤ 60) (hC : C ≤ 132) :
    Calls Try.prog 22 #[.agg (gridV R C A n k).toArray, .int .i64 r, .int .i64 c, .agg (cellV y).toArray] w fun en w' => en = .returned (.agg (cellV (atG R C f r c y)).toArray) ∧ Below w.heap.size w w' := by
  have HR := Lib.hid hr
  have HN := Lib.hid hn
  have hnb : n ≤ 60 * 132 := by rw [hn]; exact Nat.mul_le_mul hR hC
  clear hr hn
  have HT := Lib.hid (fun W => there_c R C A n k r c W)
  cases hB : hasB R C r c with
  | false =>
    rw [show atG R C f r c y = y by rw [atG, hB]; rfl]
    have HB := Lib.hid hB
    clear hB
    simp only [gridV_list] at HT
    simp only [gridV_list, cellV]
    go_enter Try.func22, Try.ntmps22
    go_upto_region 1 with (fail)
    refine name_wp (fun w1 => Blk w1 w.heap.size 31 (gridV R C A n k) ∧ Blk w1 (w.heap.size + 1) 38 (cellV y) ∧ Blk w1 (w.heap.size + 1 + 1) 38 (cellV (0, 0, 0, 0)) ∧ Below w.heap.size w w1) ⟨((Blk.new _ _ _).alloc _).alloc _, (newAt _ _ (by simp)).alloc _, newAt _ _ (by simp), ((alloc_below' _ _).alloc (by simp) _).alloc (by simp; omega) _⟩ ?_
    rintro w1 ⟨hb1, hb2, hb3, hbel1⟩
    obtain ⟨c0, c1, c2⟩ := boxG hb1
    have HBel := Lib.hid hbel1
    have HB2 := Lib.hid hb2
    have HB3 := Lib.hid hb3
    clear hb1 hb2 hb3 hbel1
    go_wp2_with fail
    refine (HT.out w1).mono ?_
    rw [HB.out]
    rintro en w2 ⟨rfl, hb4⟩
    have hz2 := HB2.out.lt
    have hz3 := HB3.out.lt
    obtain ⟨a0, a1, a2, a3⟩ := fourB' (HB2.out.below hb4 hz2)
    have HB4 := Lib.hid (HB3.out.below hb4 hz3)
    have HBel2 := Lib.hid (HBel.out.trans (hb4.mono HBel.out.size))
    clear hb4 c0 c1 c2
    go_wp2_with ((with_reducible refine at_store 38 ?_); refine wpList_store_at rfl rfl 38 (.tmp 8) (.tmp 14) rfl (w.heap.size + 1 + 1) 0 rfl (cellV y) rfl _ _ HB4.out (Nat.le_refl 4) (one_cellV _) sizeC ?_; intro w4 hb5 hg5; rw [splice_all _ _ (by rfl)] at hb5; have HB5 := Lib.hid hb5; have HG5 := Lib.hid hg5; clear hb5 hg5)
    refine bodyPost_ret (v := .agg (cellV y).toArray) ?_ rfl ⟨rfl, HBel2.out.grown HG5.out HBel2.out.size (fun x hx => by cases hx; omega)⟩
    exact results_cell_row rfl _ _ (w.heap.size + 1 + 1) _ _ _ _ rfl HB5.out Try.underlying38 rfl (by kernel_rfl)
  | true =>
    obtain ⟨q, p, rfl, rfl, hq, hp⟩ := hasB_parts hB
    have hqp : q * C + p < n := by
      have h3 : (q + 1) * C ≤ R * C := Nat.mul_le_mul_right _ (by omega)
      rw [Nat.add_mul, Nat.one_mul] at h3
      rw [HN.out]; omega
    obtain ⟨x, HX⟩ : ∃ x, Hid (f (q * C + p) = x) := ⟨_, rfl⟩
    rw [show atG R C f q p y = x by rw [atG, hB]; exact HX.out]
    have HB := Lib.hid hB
    clear hB
    obtain ⟨Q, hQ⟩ : ∃ Q, Hid (q * C = Q) := ⟨_, Lib.hid rfl⟩
    have hQn : Q + p < n := by rw [← hQ.out]; exact hqp
    have w1 : IntKind.i64.wrap ((q : Int) * (C : Int)) = (Q : Int) := by rw [← Int.natCast_mul, hQ.out, IntKind.wrap_i64]; omega
    have w2 : IntKind.i64.wrap ((Q : Int) + (p : Int)) = ((Q + p : Nat) : Int) := by rw [IntKind.wrap_i64]; omega
    have hi0 : (0 : Int) ≤ (Q : Int) + (p : Int) := by omega
    have hi1 : (Q : Int) + (p : Int) < (n : Int) := by omega
    have hi2 : ((Q : Int) + (p : Int)).toNat = Q + p := by omega
    simp only [gridV_list] at HT
    simp only [gridV_list, cellV]
    go_enter Try.func22, Try.ntmps22
    go_upto_region 1 with (fail)
    refine name_wp (fun w1 => Blk w1 w.heap.size 31 (gridV R C A n k) ∧ Blk w1 (w.heap.size + 1) 38 (cellV y) ∧ Blk w1 (w.heap.size + 1 + 1) 38 (cellV (0, 0, 0, 0)) ∧ Below w.heap.size w w1) ⟨((Blk.new _ _ _).alloc _).alloc _, (newAt _ _ (by simp)).alloc _, newAt _ _ (by simp), ((alloc_below' _ _).alloc (by simp) _).alloc (by simp; omega) _⟩ ?_
    rintro w1 ⟨hb1, hb2, hb3, hbel1⟩
    obtain ⟨c0, c1, c2⟩ := boxG hb1
    have HBel := Lib.hid hbel1
    have HB1 := Lib.hid hb1
    have HB3 := Lib.hid hb3
    clear hb1 hb2 hb3 hbel1
    go_wp2_with fail
    refine (HT.out w1).mono ?_
    rw [HB.out]
    rintro en w2 ⟨rfl, hb4⟩
    have hz1 := HB1.out.lt
    have hz3 := HB3.out.lt
    obtain ⟨d0, d1, d2⟩ := boxG (HB1.out.below hb4 hz1)
    have HB4 := Lib.hid (HB3.out.below hb4 hz3)
    have HBel2 := Lib.hid (HBel.out.trans (hb4.mono HBel.out.size))
    obtain ⟨ad, rfl, _, hca⟩ := (HR.out.keep HBel2.out).cell (Q + p) (by rw [length_tab]; exact hQn)
    rw [tab_get, show Q + p = q * C + p by rw [hQ.out], HX.out, hQ.out] at hca
    obtain ⟨a0, a1, a2, a3⟩ := four hca
    clear hb4 c0 c1 c2 hca
    go_wp2_with ((with_reducible refine at_store 38 ?_); refine wpList_store_at rfl rfl 38 (.tmp 8) (.tmp 24) rfl (w.heap.size + 1 + 1) 0 rfl (cellV x) rfl _ _ HB4.out (Nat.le_refl 4) (one_cellV _) sizeC ?_; intro w4 hb5 hg5; rw [splice_all _ _ (by rfl)] at hb5; have HB5 := Lib.hid hb5; have HG5 := Lib.hid hg5; clear hb5 hg5)
    refine bodyPost_ret (v := .agg (cellV x).toArray) ?_ rfl ⟨rfl, HBel2.out.grown HG5.out HBel2.out.size (fun x hx => by cases hx; omega)⟩
    exact results_cell_row rfl _ _ (w.heap.size + 1 + 1) _ _ _ _ rfl HB5.out Try.underlying38 rfl (by kernel_rfl)
end Go.Proofs.Ytgmfmhlboehdoaa
