/- What the reference's Put, Same and Right of package grid tell, as walks through the translated text. Conditions: slices read as lists of cells, grids of at most 60 rows and 132 columns. -/
import Derived.Test.YtgmfmhlboehdoaaGridR2
import Derived.Test.YtgmfmhlboehdoaaGrid9
namespace Go.Proofs.Ytgmfmhlboehdoaa
open Go.ChangeShapes Go.WideShapes Go.RowKit
set_option maxHeartbeats 1600000 in
theorem refSameG_c (r c : Int) (A : Option Addr) (n k : Nat) (l : List CellV) (r' c' : Int) (A' : Option Addr) (n' k' : Nat) (l' : List CellV) (w : World) (hr : ReadsS cellV 4 w A n k l) (hr' : ReadsS cellV 4 w A' n' k' l') : Calls Try.prog 11 #[.agg (gridV r c A n k).toArray, .agg (gridV r' c' A' n' k').toArray] w (BoolPost w (sameG r c l r' c' l')) := by
  obtain ⟨B, hB⟩ : ∃ B, Hid (sameG r c l r' c' l' = B) := ⟨_, rfl⟩
  rw [hB.out]
  have hS : Hid (B = decide (r = r' ∧ c = c' ∧ l = l')) := by show _ = _; rw [← hB.out]; rfl
  have HR := Lib.hid hr
  have HR' := Lib.hid hr'
  clear hr hr' hB
  simp only [gridV_list]
  go_enter Try.func11, Try.ntmps11
  go_upto_region 1 with (fail)
  refine name_wp (fun w1 => Blk w1 w.heap.size 31 (gridV r c A n k) ∧ Blk w1 (w.heap.size + 1) 31 (gridV r' c' A' n' k') ∧ Below w.heap.size w w1) ⟨(Blk.new _ _ _).alloc _, newAt _ _ (by simp), (alloc_below' _ _).alloc (by simp) _⟩ ?_
  rintro w1 ⟨hb1, hb2, hbel1⟩
  obtain ⟨c0, c1, c2⟩ := boxG hb1
  obtain ⟨d0, d1, d2⟩ := boxG hb2
  have HBel := Lib.hid hbel1
  have HR1 := Lib.hid (HR.out.keep hbel1)
  have HR1' := Lib.hid (HR'.out.keep hbel1)
  clear hb1 hb2 hbel1
  by_cases h1 : r = r'
  · have e1 : (r == r') = true := by simpa using h1
    by_cases h2 : c = c'
    · have e2 : (c == c') = true := by simpa using h2
      have HE := Lib.hid (sameC_c A A' n k n' k' l l' w1 HR1.out HR1'.out)
      have HD : Hid (B = decide (l = l')) := by show _ = _; rw [hS.out]; exact decide_eq_decide.2 (by simp [h1, h2])
      rw [← HD.out] at HE
      have H1 := Lib.hid h1
      have H2 := Lib.hid h2
      clear h1 h2
      go_wp2_with fail
      refine HE.out.mono ?_
      rintro en w2 ⟨rfl, kk, rfl⟩
      go_wp2
      go_ret
      exact ⟨rfl, belowDrewN HBel.out _⟩
    · have e2 : (c == c') = false := by simpa using h2
      have hb : B = false := by rw [hS.out, decide_eq_false_iff_not]; exact fun h => h2 h.2.1
      subst hb
      have H1 := Lib.hid h1
      clear h1 h2
      go_wp2
      go_ret
      exact ⟨rfl, HBel.out⟩
  · have e1 : (r == r') = false := by simpa using h1
    have hb : B = false := by rw [hS.out, decide_eq_false_iff_not]; exact fun h => h1 h.1
    subst hb
    clear h1
    go_wp2
    go_ret
    exact ⟨rfl, HBel.out⟩
set_option maxHeartbeats 1600000 in
theorem refRightG_c (r c : Int) (A : Option Addr) (n k : Nat) (l : List CellV) (w : World) (hr : ReadsS cellV 4 w A n k l) (hf : ∀ x ∈ l, fitC x) : Calls Try.prog 14 #[.agg (gridV r c A n k).toArray] w (BoolPost w (rightG r c l)) := by
  obtain ⟨B, hB⟩ : ∃ B, Hid (rightG r c l = B) := ⟨_, rfl⟩
  rw [hB.out]
  have HLen := Lib.hid hr.len
  have HR := Lib.hid hr
  have HF := Lib.hid hf
  have hn : n ≤ 9223372036854775807 := by have := hr.room; have := hr.cap; unfold maxLen at this; omega
  clear hr hf
  simp only [gridV_list]
  go_enter Try.func14, Try.ntmps14
  go_upto_region 1 with (fail)
  refine name_wp (fun w1 => Blk w1 w.heap.size 31 (gridV r c A n k) ∧ Below w.heap.size w w1) ⟨Blk.new _ _ _, alloc_below' _ _⟩ ?_
  rintro w1 ⟨hb1, hbel1⟩
  obtain ⟨c0, c1, c2⟩ := boxG hb1
  have HBel := Lib.hid hbel1
  have HB1 := Lib.hid hb1
  clear hb1 hbel1
  cases hS : sizeOk r c with
  | false =>
    have hb : B = false := by rw [← hB.out]; simp [rightG, hS]
    subst hb
    have HFz := Lib.hid (refSize_c r c w1)
    rw [hS] at HFz
    clear hS
    go_wp2_with fail
    refine HFz.out.mono ?_
    rintro en w1 ⟨rfl, rfl⟩
    go_wp2
    go_ret
    exact ⟨rfl, HBel.out⟩
  | true =>
    obtain ⟨R, C, rfl, rfl, hR, hC⟩ := sizeOk_iff hS
    have hsz : R * C ≤ 60 * 132 := Nat.mul_le_mul hR.2 hC.2
    have hb : Hid (B = (decide (l.length = R * C) && l.all okC)) := by
      show _ = _
      rw [← hB.out]; simp only [rightG, hS, Bool.true_and]
      congr 1
      exact decide_eq_decide.2 ⟨fun h => by rw [← Int.natCast_mul] at h; omega, fun h => by rw [h, Int.natCast_mul]⟩
    obtain ⟨N, hN⟩ : ∃ N, Hid (R * C = N) := ⟨_, Lib.hid rfl⟩
    rw [hN.out] at hsz
    rw [HLen.out, hN.out] at hb
    have e1 : IntKind.i64.wrap ((R : Int) * (C : Int)) = (N : Int) := by rw [← Int.natCast_mul, hN.out, IntKind.wrap_i64]; omega
    have HFz := Lib.hid (refSize_c R C w1)
    rw [hS] at HFz
    clear hS hB hR hC
    by_cases hnN : n = N
    · subst hnN
      have hb2 : Hid (B = l.all okC) := by show _ = _; rw [hb.out]; simp
      go_wp2_with fail
      refine HFz.out.mono ?_
      rintro en w1 ⟨rfl, rfl⟩
      go_wp2
      clear c0 c1 c2
      go_loopw [3] (fun i wr => ∃ j : Nat, j ≤ n ∧ i = .int .i64 j ∧ Hid ((l.take j).all okC = true) ∧ Hid (Below w1.heap.size w1 wr)) (fun i _ => n - (intOf i).toNat)
      case atStart => exact ⟨0, Nat.zero_le _, rfl, rfl, Below.refl _ _⟩
      case round =>
        obtain ⟨j, hj, rfl, hT, hBw⟩ := hrel
        obtain ⟨c0, c1, c2⟩ := boxG (HB1.out.below hBw.out HB1.out.lt)
        have HB' := Lib.hid (HBel.out.trans (hBw.out.mono HBel.out.size))
        by_cases hlt : j < n
        · have hjl : j < l.length := by rw [HLen.out]; exact hlt
          obtain ⟨ad, rfl, _, hca⟩ := (HR.out.keep HB'.out).cell j hjl
          have hlt2 : (j : Int) < (n : Int) := by omega
          have hj0 : (0 : Int) ≤ (j : Int) := by omega
          obtain ⟨a0, a1, a2, a3⟩ := four hca
          clear hca
          obtain ⟨x, HX⟩ : ∃ x, Hid (l[j] = x) := ⟨l[j], rfl⟩
          rw [HX.out] at a0 a1 a2 a3
          have hfx : fitC x := by rw [← HX.out]; exact HF.out _ (List.getElem_mem hjl)
          go_wp2_with fail
          refine (refRight_c x _ hfx.1).mono ?_
          rintro en w6 ⟨rfl, hb6⟩
          have HB := Lib.hid (hBw.out.trans (hb6.mono hBw.out.size))
          have HB2 := Lib.hid (HB'.out.trans (hb6.mono HB'.out.size))
          clear hb6 a0 a1 a2 a3 c0 c1 c2
          cases hx : okC x with
          | true =>
            go_wp2
            go_roundw
            case rel =>
              refine ⟨j + 1, by omega, by go_num, ?_, HB⟩
              show _ = _
              rw [List.take_succ_eq_append_getElem hjl, List.all_append, hT.out, HX.out]
              simp [hx]
            case measure => simp [intOf]; omega
          | false =>
            go_wp2
            go_ret
            refine ⟨ret_bool ?_, HB2.out⟩
            rw [hb2.out]
            symm
            rw [List.all_eq_false]
            exact ⟨x, by rw [← HX.out]; exact List.getElem_mem hjl, by rw [hx]; decide⟩
        · obtain rfl : j = n := by omega
          go_wp2
          go_ret
          refine ⟨ret_bool ?_, HB'.out⟩
          have h1 : l.take j = l := List.take_of_length_le (by rw [HLen.out]; omega)
          have h2 := hT.out
          rw [h1] at h2
          rw [hb2.out, h2]
    · have hb2 : B = false := by rw [hb.out]; simp [hnN]
      subst hb2
      have hne : ((n : Int) != (N : Int)) = true := by rw [bne_iff_ne]; omega
      have hneN : (n != N) = true := by simpa using hnN
      clear hnN
      go_wp2_with fail
      refine HFz.out.mono ?_
      rintro en w1 ⟨rfl, rfl⟩
      go_wp2
      go_ret
      exact ⟨rfl, HBel.out⟩
end Go.Proofs.Ytgmfmhlboehdoaa
