/- The walk through BackCuts: for every row of cells it returns true and leaves old memory as it was. Conditions: none. -/
import Derived.Test.YtdldffgdipedpaaDoorAwake15
import Derived.Test.YtdldffgdipedpaaDoorOpen5
import Derived.Test.YtdldffgdipedpaaDoorTabs
import Derived.Deep.DeepCutAuto
namespace Go.Proofs.YtdldffgdipedpaaDoor.backCuts
open Go.ChangeShapes Go.WideShapes Go.RowKit
set_option maxRecDepth 100000 in
set_option maxHeartbeats 3200000 in
theorem walk (A : Option Addr) (n c : Nat) (l : List CellV) (w : World) (hr : ReadsS cellV 4 w A n c l) (_ : ∀ x ∈ l, fitC x) (_ : Tabs w) :
    Calls Tryd.prog 4 #[.slice A n c] w fun e w' => e = .returned (.bool true) ∧ Below w.heap.size w w' := by
  have HR := Lib.hid hr
  clear hr
  by_cases hn : 100 < n
  · have hn2 : decide ((100 : Int) < (n : Int)) = true := by rw [decide_eq_true_eq]; omega
    go_enter Tryd.func4, Tryd.ntmps4
    go_wp2_with fail
    refine (awake15_c w).mono ?_
    rintro en w1 ⟨rfl, hb1⟩
    go_wp2
    go_ret
    exact ⟨rfl, hb1⟩
  have hn2 : decide ((100 : Int) < (n : Int)) = false := by rw [decide_eq_false_iff_not]; omega
  have HL := Lib.hid HR.out.len
  go_enter Tryd.func4, Tryd.ntmps4
  go_wp2_with fail
  refine (awake15_c w).mono ?_
  rintro en w1 ⟨rfl, hb1⟩
  have HR1 := Lib.hid (HR.out.keep hb1)
  have HB1 := Lib.hid hb1
  clear hb1 HR
  go_wp2_with fail
  refine (bcut_c A n c l w1 HR1.out (by omega)).mono ?_
  rintro en w2 ⟨V, m, d, rfl, hrV, _, hb2⟩
  have hm : Hid (m = cutN l n) := by show _ = _; rw [← hrV.len, length_cutC, HL.out]
  have hmn : m ≤ n := by rw [hm.out]; exact cutN_le _ _
  have HX : Hid (∀ i, (h : i < m) → ∃ (h2 : i < (cutC l).length) (h3 : i < l.length), (cutC l)[i] = l[i]) := by
    intro i hi
    have h3 : i < l.length := by rw [HL.out]; omega
    have h2 : i < (cutC l).length := by rw [hrV.len]; exact hi
    refine ⟨h2, h3, ?_⟩
    simp only [cutC, List.getElem_take]
  have HRV := Lib.hid hrV
  have HR2 := Lib.hid (HR1.out.keep hb2)
  have HB2 := Lib.hid (HB1.out.trans (hb2.mono HB1.out.size))
  have g1 : decide ((n : Int) < (m : Int)) = false := by rw [decide_eq_false_iff_not]; omega
  have g2 : decide (n < m) = false := by rw [decide_eq_false_iff_not]; omega
  clear hrV hb2 HR1 HB1
  go_upto_region 6 with (fail)
  go_cut [31] (fun s wx => s = .bool false ∧ w2 = wx)
  case first =>
    rcases Nat.eq_zero_or_pos m with h0 | h0
    · have g3 : decide ((0 : Int) < (m : Int)) = false := by rw [decide_eq_false_iff_not]; omega
      have g4 : decide (0 < m) = false := by rw [decide_eq_false_iff_not]; omega
      clear h0
      go_wp2_with fail
      go_meet
      exact ⟨rfl, rfl⟩
    · have g3 : decide ((0 : Int) < (m : Int)) = true := by rw [decide_eq_true_eq]; omega
      have g4 : decide (0 < m) = true := by rw [decide_eq_true_eq]; omega
      obtain ⟨q, hq⟩ : ∃ q, Hid (m = q + 1) := ⟨m - 1, by show _ = _; omega⟩
      obtain ⟨hql, hlast⟩ := cutN_last (l := l) (n := n) (q := q) (by rw [HL.out]; exact Nat.le_refl _) (hm.out.symm.trans hq.out)
      obtain ⟨hqx, _, ex⟩ := HX.out q (by have := hq.out; omega)
      obtain ⟨x, Hx⟩ : ∃ x, Hid (l[q] = x) := ⟨l[q], rfl⟩
      obtain ⟨vd, rfl, _, hca⟩ := HRV.out.cell q hqx
      rw [ex, Hx.out] at hca
      rw [Hx.out] at hlast
      obtain ⟨a0, a1, a2, a3⟩ := four hca
      have heq := fun W => run_eq_cell W x blankC
      rw [decide_eq_false hlast] at heq
      simp only [cellV, blankC] at heq
      have hq1 : (m : Int) - 1 = (q : Int) := by have := hq.out; omega
      have hq0 : (0 : Int) ≤ (q : Int) := by omega
      have hqm : (q : Int) < (m : Int) := by omega
      have hwq : IntKind.i64.wrap (q : Int) = (q : Int) := IntWalk.i64_in _ (by omega)
      clear hca hlast ex h0
      go_wp2_with fail
      go_meet
      exact ⟨rfl, rfl⟩
  case rest =>
    obtain ⟨rfl, rfl⟩ := hcut
    go_wp2_with fail
    go_loopw [4] (fun i wr => ∃ j : Nat, j ≤ n ∧ i = .int .i64 j ∧ ∃ k, wr = w2.drewN k) (fun i _ => n - (intOf i).toNat)
    case atStart => exact ⟨0, Nat.zero_le _, rfl, 0, rfl⟩
    case round =>
      obtain ⟨j, hj, rfl, k, rfl⟩ := hrel
      by_cases hlt : j < n
      · have hjl : j < l.length := by rw [HL.out]; exact hlt
        obtain ⟨ad, rfl, _, hcb⟩ := HR2.out.cell j hjl
        obtain ⟨y, HY⟩ : ∃ y, Hid (l[j] = y) := ⟨l[j], rfl⟩
        rw [HY.out] at hcb
        have hlt2 : (j : Int) < (n : Int) := by omega
        have hj0 : (0 : Int) ≤ (j : Int) := by omega
        by_cases hjm : j < m
        · obtain ⟨b0, b1, b2, b3⟩ := four hcb
          obtain ⟨hjx, _, ex⟩ := HX.out j hjm
          obtain ⟨vd, rfl, _, hca⟩ := HRV.out.cell j hjx
          rw [ex, HY.out] at hca
          obtain ⟨a0, a1, a2, a3⟩ := four hca
          have g5 : decide ((j : Int) < (m : Int)) = true := by rw [decide_eq_true_eq]; omega
          have g6 : decide (j < m) = true := by rw [decide_eq_true_eq]; omega
          have g7 : decide ((m : Int) ≤ (j : Int)) = false := by rw [decide_eq_false_iff_not]; omega
          have g8 : decide (m ≤ j) = false := by rw [decide_eq_false_iff_not]; omega
          have hjm2 : (j : Int) < (m : Int) := by omega
          have heq := fun W => run_eq_cell W y y
          rw [decide_eq_true rfl] at heq
          simp only [cellV] at heq
          clear hca hcb ex hjm
          go_wp2_with fail
          go_quiet (fail)
          go_wp2
          go_roundw
          case rel => exact ⟨j + 1, by omega, by go_num, _, rfl⟩
          case measure => simp [intOf]; omega
        · obtain ⟨_, hblank⟩ := cutN_behind (l := l) (n := n) (i := j) (by rw [HL.out]; exact Nat.le_refl _) (by rw [← hm.out]; omega) hlt
          have hy : y = blankC := by rw [← HY.out]; exact hblank
          rw [hy] at hcb
          obtain ⟨b0, b1, b2, b3⟩ := four hcb
          simp only [blankC] at b0 b1 b2 b3
          have g5 : decide ((j : Int) < (m : Int)) = false := by rw [decide_eq_false_iff_not]; omega
          have g6 : decide (j < m) = false := by rw [decide_eq_false_iff_not]; omega
          have g7 : decide ((m : Int) ≤ (j : Int)) = true := by rw [decide_eq_true_eq]; omega
          have g8 : decide (m ≤ j) = true := by rw [decide_eq_true_eq]; omega
          have heq := fun W => run_eq_cell W blankC blankC
          rw [decide_eq_true rfl] at heq
          simp only [cellV, blankC] at heq
          clear hcb hblank hy hjm
          go_wp2_with fail
          go_quiet (fail)
          go_wp2
          go_roundw
          case rel => exact ⟨j + 1, by omega, by go_num, _, rfl⟩
          case measure => simp [intOf]; omega
      · obtain rfl : j = n := by omega
        go_wp2
        go_ret
        exact ⟨rfl, belowDrewN HB2.out _⟩
end Go.Proofs.YtdldffgdipedpaaDoor.backCuts
