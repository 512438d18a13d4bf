/- What the functions of package cell on one cell do, and the reference's, as walks through the translated text. Conditions: the cell's parts fit their types. -/
import Derived.Test.YtdldffgdipedpaaDoorCell0
import Derived.Laws.StructEq
import Derived.Test.YtdldffgdipedpaaDoorSame
namespace Go.Proofs.YtdldffgdipedpaaDoor
open Go.ChangeShapes Go.WideShapes Go.RowKit
theorem alloc_below' (w : World) (o : Obj) : Below w.heap.size w (w.alloc o) := (Below.refl _ _).alloc (Nat.le_refl _) o
def BoolPost (w : World) (b : Bool) (en : Ending) (w' : World) : Prop := en = .returned (.bool b) ∧ Below w.heap.size w w'
set_option maxHeartbeats 800000 in
theorem validRune_c (r : Int) (w : World) : Calls Tryd.prog 35 #[.int .i32 r] w fun en w' => en = .returned (.bool (signOk r)) ∧ w = w' := by
  by_cases h0 : 0 ≤ r ∧ r < 55296
  · have hb : Hid (signOk r = true) := by show _ = _; simp [signOk]; omega
    rw [hb.out]
    have h1 : decide (0 ≤ r) = true := by simp; omega
    have h2 : decide (r < 55296) = true := by simp; omega
    go_enter Tryd.func35, Tryd.ntmps35
    go_wp2
    go_ret
    exact ⟨rfl, rfl⟩
  · by_cases h3 : 57343 < r
    · have h4 : decide (r < 55296) = false := by simp; omega
      by_cases h5 : r ≤ 1114111
      · have hb : Hid (signOk r = true) := by show _ = _; simp [signOk]; omega
        rw [hb.out]
        have h1 : decide (0 ≤ r) = true := by simp; omega
        go_enter Tryd.func35, Tryd.ntmps35
        go_wp2
        go_ret
        exact ⟨rfl, rfl⟩
      · have hb : Hid (signOk r = false) := by show _ = _; simp [signOk]; omega
        rw [hb.out]
        have h1 : decide (0 ≤ r) = true := by simp; omega
        have h6 : decide (r ≤ 1114111) = false := by simpa using h5
        go_enter Tryd.func35, Tryd.ntmps35
        go_wp2
        go_ret
        exact ⟨rfl, rfl⟩
    · have hb : Hid (signOk r = false) := by show _ = _; simp [signOk]; omega
      rw [hb.out]
      have h6 : decide (57343 < r) = false := by simpa using h3
      by_cases h1 : 0 ≤ r
      · have h4 : decide (r < 55296) = false := by simp; omega
        go_enter Tryd.func35, Tryd.ntmps35
        go_wp2
        go_ret
        exact ⟨rfl, rfl⟩
      · have h4 : decide (0 ≤ r) = false := by simpa using h1
        go_enter Tryd.func35, Tryd.ntmps35
        go_wp2
        go_ret
        exact ⟨rfl, rfl⟩
set_option maxHeartbeats 800000 in
theorem blank_c (p : Int × Int × Int) (w : World) : Calls Tryd.prog 22 #[.agg #[.int .i64 p.1, .int .i64 p.2.1, .int .i64 p.2.2]] w fun en w' => en = .returned (.agg (cellV (32, 0, p.2.1, 0)).toArray) ∧ Below w.heap.size w w' := by
  go_enter Tryd.func22, Tryd.ntmps22
  go_wp2
  have hb : ∀ o, Blk ((w.alloc o).alloc (.cells (cellV (32, 0, p.2.1, 0)).toArray 43)) (w.heap.size + 1) 43 (cellV (32, 0, p.2.1, 0)) := fun o => by
    have := Blk.new (w.alloc o) 43 (cellV (32, 0, p.2.1, 0))
    rwa [World.size_alloc] at this
  refine bodyPost_ret (v := .agg (cellV (32, 0, p.2.1, 0)).toArray) ?_ rfl ⟨rfl, (alloc_below' w _).alloc (by simp) _⟩
  exact results_cell_row rfl _ _ (w.heap.size + 1) _ _ _ _ rfl (hb _) Tryd.underlying43 rfl (by kernel_rfl)
end Go.Proofs.YtdldffgdipedpaaDoor
