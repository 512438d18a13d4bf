/- What the functions of package cell on one cell do, and the reference's, as walks through the translated text. Conditions: the cell's parts fit their types. -/
import Derived.Test.YtbmnpbmimhodbaaDoorCell0
import Derived.Laws.StructEq
import Derived.Test.YtbmnpbmimhodbaaDoorSame
namespace Go.Proofs.YtbmnpbmimhodbaaDoor
open Go.ChangeShapes Go.WideShapes Go.RowKit
theorem alloc_below' (w : World) (o : Obj) : Below w.heap.size w (w.alloc o) := (Below.refl _ _).alloc (Nat.le_refl _) o
def BoolPost (w : World) (b : Bool) (en : Ending) (w' : World) : Prop := en = .returned (.bool b) ∧ Below w.heap.size w w'
set_option maxHeartbeats 800000 in
theorem validRune_c (r : Int) (w : World) : Calls Tryd.prog 23 #[.int .i32 r] w fun en w' => en = .returned (.bool (signOk r)) ∧ w = w' := by
  by_cases h0 : 0 ≤ r ∧ r < 55296
  · have hb : Hid (signOk r = true) := by show _ = _; simp [signOk]; omega
    rw [hb.out]
    have h1 : decide (0 ≤ r) = true := by simp; omega
    have h2 : decide (r < 55296) = true := by simp; omega
    go_enter Tryd.func23, Tryd.ntmps23
    go_wp2
    go_ret
    exact ⟨rfl, rfl⟩
  · by_cases h3 : 57343 < r
    · have h4 : decide (r < 55296) = false := by simp; omega
      by_cases h5 : r ≤ 1114111
      · have hb : Hid (signOk r = true) := by show _ = _; simp [signOk]; omega
        rw [hb.out]
        have h1 : decide (0 ≤ r) = true := by simp; omega
        go_enter Tryd.func23, Tryd.ntmps23
        go_wp2
        go_ret
        exact ⟨rfl, rfl⟩
      · have hb : Hid (signOk r = false) := by show _ = _; simp [signOk]; omega
        rw [hb.out]
        have h1 : decide (0 ≤ r) = true := by simp; omega
        have h6 : decide (r ≤ 1114111) = false := by simpa using h5
        go_enter Tryd.func23, Tryd.ntmps23
        go_wp2
        go_ret
        exact ⟨rfl, rfl⟩
    · have hb : Hid (signOk r = false) := by show _ = _; simp [signOk]; omega
      rw [hb.out]
      have h6 : decide (57343 < r) = false := by simpa using h3
      by_cases h1 : 0 ≤ r
      · have h4 : decide (r < 55296) = false := by simp; omega
        go_enter Tryd.func23, Tryd.ntmps23
        go_wp2
        go_ret
        exact ⟨rfl, rfl⟩
      · have h4 : decide (0 ≤ r) = false := by simpa using h1
        go_enter Tryd.func23, Tryd.ntmps23
        go_wp2
        go_ret
        exact ⟨rfl, rfl⟩
set_option maxHeartbeats 800000 in
theorem refSign_c (r : Int) (w : World) : Calls Tryd.prog 8 #[.int .i64 r] w fun en w' => en = .returned (.bool (signOk r)) ∧ w = w' := by
  have hc : r < 0 ∨ 1114111 < r ∨ (0 ≤ r ∧ r < 55296) ∨ (55296 ≤ r ∧ r ≤ 57343) ∨ (57343 < r ∧ r ≤ 1114111) := by omega
  rcases hc with h | h | h | h | h
  · have hb : Hid (signOk r = false) := by show _ = _; simp only [signOk, decide_eq_false_iff_not]; omega
    rw [hb.out]
    have f0 : decide (0 ≤ r) = false := by rw [decide_eq_false_iff_not]; omega
    clear h
    go_enter Tryd.func8, Tryd.ntmps8
    go_wp2
    go_ret
    exact ⟨rfl, rfl⟩
  · have hb : Hid (signOk r = false) := by show _ = _; simp only [signOk, decide_eq_false_iff_not]; omega
    rw [hb.out]
    have f0 : decide (0 ≤ r) = true := by rw [decide_eq_true_eq]; omega
    have f1 : decide (r ≤ 1114111) = false := by rw [decide_eq_false_iff_not]; omega
    clear h
    go_enter Tryd.func8, Tryd.ntmps8
    go_wp2
    go_ret
    exact ⟨rfl, rfl⟩
  · have hb : Hid (signOk r = true) := by show _ = _; simp only [signOk, decide_eq_true_eq]; omega
    rw [hb.out]
    have f0 : decide (0 ≤ r) = true := by rw [decide_eq_true_eq]; omega
    have f1 : decide (r ≤ 1114111) = true := by rw [decide_eq_true_eq]; omega
    have f2 : decide (r < 55296) = true := by rw [decide_eq_true_eq]; omega
    clear h
    go_enter Tryd.func8, Tryd.ntmps8
    go_wp2
    go_ret
    exact ⟨rfl, rfl⟩
  · have hb : Hid (signOk r = false) := by show _ = _; simp only [signOk, decide_eq_false_iff_not]; omega
    rw [hb.out]
    have f0 : decide (0 ≤ r) = true := by rw [decide_eq_true_eq]; omega
    have f1 : decide (r ≤ 1114111) = true := by rw [decide_eq_true_eq]; omega
    have f2 : decide (r < 55296) = false := by rw [decide_eq_false_iff_not]; omega
    have f3 : decide (57343 < r) = false := by rw [decide_eq_false_iff_not]; omega
    clear h
    go_enter Tryd.func8, Tryd.ntmps8
    go_wp2
    go_ret
    exact ⟨rfl, rfl⟩
  · have hb : Hid (signOk r = true) := by show _ = _; simp only [signOk, decide_eq_true_eq]; omega
    rw [hb.out]
    have f0 : decide (0 ≤ r) = true := by rw [decide_eq_true_eq]; omega
    have f1 : decide (r ≤ 1114111) = true := by rw [decide_eq_true_eq]; omega
    have f2 : decide (r < 55296) = false := by rw [decide_eq_false_iff_not]; omega
    have f3 : decide (57343 < r) = true := by rw [decide_eq_true_eq]; omega
    clear h
    go_enter Tryd.func8, Tryd.ntmps8
    go_wp2
    go_ret
    exact ⟨rfl, rfl⟩
end Go.Proofs.YtbmnpbmimhodbaaDoor
