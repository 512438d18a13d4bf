/- What the functions of package cell on one cell do, and the reference's, as walks through the translated text. Conditions: the cell's parts fit their types. -/
import Derived.Test.YtajllkfoaigdlaaDoorCell0
import Derived.Laws.StructEq
import Derived.Test.YtajllkfoaigdlaaDoorSame
namespace Go.Proofs.YtajllkfoaigdlaaDoor
open Go.ChangeShapes Go.WideShapes Go.RowKit
theorem alloc_below' (w : World) (o : Obj) : Below w.heap.size w (w.alloc o) := (Below.refl _ _).alloc (Nat.le_refl _) o
def BoolPost (w : World) (b : Bool) (en : Ending) (w' : World) : Prop := en = .returned (.bool b) ∧ Below w.heap.size w w'
set_option maxHeartbeats 800000 in
theorem refSign_c (r : Int) (w : World) : Calls Tryd.prog 21 #[.int .i64 r] w fun en w' => en = .returned (.bool (signOk r)) ∧ w = w' := by
  have hc : r < 0 ∨ 1114111 < r ∨ (0 ≤ r ∧ r < 55296) ∨ (55296 ≤ r ∧ r ≤ 57343) ∨ (57343 < r ∧ r ≤ 1114111) := by omega
  rcases hc with h | h | h | h | h
  · have hb : Hid (signOk r = false) := by show _ = _; simp only [signOk, decide_eq_false_iff_not]; omega
    rw [hb.out]
    have f0 : decide (0 ≤ r) = false := by rw [decide_eq_false_iff_not]; omega
    clear h
    go_enter Tryd.func21, Tryd.ntmps21
    go_wp2
    go_ret
    exact ⟨rfl, rfl⟩
  · have hb : Hid (signOk r = false) := by show _ = _; simp only [signOk, decide_eq_false_iff_not]; omega
    rw [hb.out]
    have f0 : decide (0 ≤ r) = true := by rw [decide_eq_true_eq]; omega
    have f1 : decide (r ≤ 1114111) = false := by rw [decide_eq_false_iff_not]; omega
    clear h
    go_enter Tryd.func21, Tryd.ntmps21
    go_wp2
    go_ret
    exact ⟨rfl, rfl⟩
  · have hb : Hid (signOk r = true) := by show _ = _; simp only [signOk, decide_eq_true_eq]; omega
    rw [hb.out]
    have f0 : decide (0 ≤ r) = true := by rw [decide_eq_true_eq]; omega
    have f1 : decide (r ≤ 1114111) = true := by rw [decide_eq_true_eq]; omega
    have f2 : decide (r < 55296) = true := by rw [decide_eq_true_eq]; omega
    clear h
    go_enter Tryd.func21, Tryd.ntmps21
    go_wp2
    go_ret
    exact ⟨rfl, rfl⟩
  · have hb : Hid (signOk r = false) := by show _ = _; simp only [signOk, decide_eq_false_iff_not]; omega
    rw [hb.out]
    have f0 : decide (0 ≤ r) = true := by rw [decide_eq_true_eq]; omega
    have f1 : decide (r ≤ 1114111) = true := by rw [decide_eq_true_eq]; omega
    have f2 : decide (r < 55296) = false := by rw [decide_eq_false_iff_not]; omega
    have f3 : decide (57343 < r) = false := by rw [decide_eq_false_iff_not]; omega
    clear h
    go_enter Tryd.func21, Tryd.ntmps21
    go_wp2
    go_ret
    exact ⟨rfl, rfl⟩
  · have hb : Hid (signOk r = true) := by show _ = _; simp only [signOk, decide_eq_true_eq]; omega
    rw [hb.out]
    have f0 : decide (0 ≤ r) = true := by rw [decide_eq_true_eq]; omega
    have f1 : decide (r ≤ 1114111) = true := by rw [decide_eq_true_eq]; omega
    have f2 : decide (r < 55296) = false := by rw [decide_eq_false_iff_not]; omega
    have f3 : decide (57343 < r) = true := by rw [decide_eq_true_eq]; omega
    clear h
    go_enter Tryd.func21, Tryd.ntmps21
    go_wp2
    go_ret
    exact ⟨rfl, rfl⟩
set_option maxHeartbeats 1600000 in
theorem refRight_c (c : CellV) (w : World) (hr : -2147483648 ≤ c.1 ∧ c.1 ≤ 2147483647) : Calls Tryd.prog 14 #[.agg (cellV c).toArray] w (BoolPost w (okC c)) := by
  obtain ⟨r, a, b, c⟩ := c
  have hw : wrap64 r = r := IntWalk.wrap64_in r (by simp only at hr; omega)
  clear hr
  show Calls _ _ #[.agg #[.int .i32 r, .int .i64 a, .int .i64 b, .int .i64 c]] _ _
  have hc : (a < 0) ∨ (0 ≤ a ∧ 256 < a) ∨ (0 ≤ a ∧ a ≤ 256 ∧ b < 0) ∨ (0 ≤ a ∧ a ≤ 256 ∧ 0 ≤ b ∧ 256 < b) ∨ (0 ≤ a ∧ a ≤ 256 ∧ 0 ≤ b ∧ b ≤ 256 ∧ c < 0) ∨ (0 ≤ a ∧ a ≤ 256 ∧ 0 ≤ b ∧ b ≤ 256 ∧ 0 ≤ c ∧ 127 < c) ∨ (0 ≤ a ∧ a ≤ 256 ∧ 0 ≤ b ∧ b ≤ 256 ∧ 0 ≤ c ∧ c ≤ 127) := by omega
  rcases hc with h | h | h | h | h | h | h
  · have hb : Hid (okC (r, a, b, c) = false) := by show _ = _; simp only [okC, Bool.and_eq_false_iff, penOk, decide_eq_false_iff_not]; left; omega
    rw [hb.out]
    have f0 : decide (a < 0) = true := by rw [decide_eq_true_eq]; omega
    clear h hb
    go_enter Tryd.func14, Tryd.ntmps14
    go_wp2
    go_ret
    exact ⟨rfl, (alloc_below' w _).alloc (by simp) _⟩
  · have hb : Hid (okC (r, a, b, c) = false) := by show _ = _; simp only [okC, Bool.and_eq_false_iff, penOk, decide_eq_false_iff_not]; left; omega
    rw [hb.out]
    have f0 : decide (a < 0) = false := by rw [decide_eq_false_iff_not]; omega
    have f1 : decide (256 < a) = true := by rw [decide_eq_true_eq]; omega
    clear h hb
    go_enter Tryd.func14, Tryd.ntmps14
    go_wp2
    go_ret
    exact ⟨rfl, (alloc_below' w _).alloc (by simp) _⟩
  · have hb : Hid (okC (r, a, b, c) = false) := by show _ = _; simp only [okC, Bool.and_eq_false_iff, penOk, decide_eq_false_iff_not]; left; omega
    rw [hb.out]
    have f0 : decide (a < 0) = false := by rw [decide_eq_false_iff_not]; omega
    have f1 : decide (256 < a) = false := by rw [decide_eq_false_iff_not]; omega
    have f2 : decide (b < 0) = true := by rw [decide_eq_true_eq]; omega
    clear h hb
    go_enter Tryd.func14, Tryd.ntmps14
    go_wp2
    go_ret
    exact ⟨rfl, (alloc_below' w _).alloc (by simp) _⟩
  · have hb : Hid (okC (r, a, b, c) = false) := by show _ = _; simp only [okC, Bool.and_eq_false_iff, penOk, decide_eq_false_iff_not]; left; omega
    rw [hb.out]
    have f0 : decide (a < 0) = false := by rw [decide_eq_false_iff_not]; omega
    have f1 : decide (256 < a) = false := by rw [decide_eq_false_iff_not]; omega
    have f2 : decide (b < 0) = false := by rw [decide_eq_false_iff_not]; omega
    have f3 : decide (256 < b) = true := by rw [decide_eq_true_eq]; omega
    clear h hb
    go_enter Tryd.func14, Tryd.ntmps14
    go_wp2
    go_ret
    exact ⟨rfl, (alloc_below' w _).alloc (by simp) _⟩
  · have hb : Hid (okC (r, a, b, c) = false) := by show _ = _; simp only [okC, Bool.and_eq_false_iff, penOk, decide_eq_false_iff_not]; left; omega
    rw [hb.out]
    have f0 : decide (a < 0) = false := by rw [decide_eq_false_iff_not]; omega
    have f1 : decide (256 < a) = false := by rw [decide_eq_false_iff_not]; omega
    have f2 : decide (b < 0) = false := by rw [decide_eq_false_iff_not]; omega
    have f3 : decide (256 < b) = false := by rw [decide_eq_false_iff_not]; omega
    have f4 : decide (c < 0) = true := by rw [decide_eq_true_eq]; omega
    clear h hb
    go_enter Tryd.func14, Tryd.ntmps14
    go_wp2
    go_ret
    exact ⟨rfl, (alloc_below' w _).alloc (by simp) _⟩
  · have hb : Hid (okC (r, a, b, c) = false) := by show _ = _; simp only [okC, Bool.and_eq_false_iff, penOk, decide_eq_false_iff_not]; left; omega
    rw [hb.out]
    have f0 : decide (a < 0) = false := by rw [decide_eq_false_iff_not]; omega
    have f1 : decide (256 < a) = false := by rw [decide_eq_false_iff_not]; omega
    have f2 : decide (b < 0) = false := by rw [decide_eq_false_iff_not]; omega
    have f3 : decide (256 < b) = false := by rw [decide_eq_false_iff_not]; omega
    have f4 : decide (c < 0) = false := by rw [decide_eq_false_iff_not]; omega
    have f5 : decide (127 < c) = true := by rw [decide_eq_true_eq]; omega
    clear h hb
    go_enter Tryd.func14, Tryd.ntmps14
    go_wp2
    go_ret
    exact ⟨rfl, (alloc_below' w _).alloc (by simp) _⟩
  · have hp : Hid (penOk (a, b, c) = true) := by show _ = _; simp only [penOk, decide_eq_true_eq]; omega
    have f0 : decide (a < 0) = false := by rw [decide_eq_false_iff_not]; omega
    have f1 : decide (256 < a) = false := by rw [decide_eq_false_iff_not]; omega
    have f2 : decide (b < 0) = false := by rw [decide_eq_false_iff_not]; omega
    have f3 : decide (256 < b) = false := by rw [decide_eq_false_iff_not]; omega
    have f4 : decide (c < 0) = false := by rw [decide_eq_false_iff_not]; omega
    have f5 : decide (127 < c) = false := by rw [decide_eq_false_iff_not]; omega
    clear h
    have hc : r < 32 ∨ (32 ≤ r ∧ r ≤ 126) ∨ (126 < r ∧ r < 160) ∨ 160 ≤ r := by omega
    rcases hc with h | h | h | h
    · have hb : Hid (okC (r, a, b, c) = false) := by show _ = _; simp only [okC, Bool.and_eq_false_iff, runeOk, decide_eq_false_iff_not]; right; omega
      rw [hb.out]
      have g6 : decide (32 ≤ r) = false := by rw [decide_eq_false_iff_not]; omega
      have g7 : decide (160 ≤ r) = false := by rw [decide_eq_false_iff_not]; omega
      clear h hb
      go_enter Tryd.func14, Tryd.ntmps14
      go_wp2
      go_ret
      exact ⟨rfl, (alloc_below' w _).alloc (by simp) _⟩
    · have hb : Hid (okC (r, a, b, c) = signOk r) := by show _ = _; simp only [okC, hp.out, Bool.true_and, runeOk, signOk]; apply decide_eq_decide.2; omega
      rw [hb.out]
      have g6 : decide (32 ≤ r) = true := by rw [decide_eq_true_eq]; omega
      have g7 : decide (r ≤ 126) = true := by rw [decide_eq_true_eq]; omega
      clear h hb
      go_enter Tryd.func14, Tryd.ntmps14
      go_wp2_with fail
      refine (refSign_c r _).mono ?_
      rintro en w' ⟨rfl, rfl⟩
      go_wp2
      go_ret
      exact ⟨rfl, (alloc_below' w _).alloc (by simp) _⟩
    · have hb : Hid (okC (r, a, b, c) = false) := by show _ = _; simp only [okC, Bool.and_eq_false_iff, runeOk, decide_eq_false_iff_not]; right; omega
      rw [hb.out]
      have g6 : decide (32 ≤ r) = true := by rw [decide_eq_true_eq]; omega
      have g7 : decide (r ≤ 126) = false := by rw [decide_eq_false_iff_not]; omega
      have g8 : decide (160 ≤ r) = false := by rw [decide_eq_false_iff_not]; omega
      clear h hb
      go_enter Tryd.func14, Tryd.ntmps14
      go_wp2
      go_ret
      exact ⟨rfl, (alloc_below' w _).alloc (by simp) _⟩
    · have hb : Hid (okC (r, a, b, c) = signOk r) := by show _ = _; simp only [okC, hp.out, Bool.true_and, runeOk, signOk]; apply decide_eq_decide.2; omega
      rw [hb.out]
      have g6 : decide (32 ≤ r) = true := by rw [decide_eq_true_eq]; omega
      have g7 : decide (r ≤ 126) = false := by rw [decide_eq_false_iff_not]; omega
      have g8 : decide (160 ≤ r) = true := by rw [decide_eq_true_eq]; omega
      clear h hb
      go_enter Tryd.func14, Tryd.ntmps14
      go_wp2_with fail
      refine (refSign_c r _).mono ?_
      rintro en w' ⟨rfl, rfl⟩
      go_wp2
      go_ret
      exact ⟨rfl, (alloc_below' w _).alloc (by simp) _⟩
end Go.Proofs.YtajllkfoaigdlaaDoor
