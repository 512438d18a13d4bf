/- awake, the check of the page's two examples in the statements of layer 1, returns true in every world and changes nothing that was there. Conditions: none. -/
import Derived.Test.YtcjeidoniekgdaaWordB
namespace Go.Proofs.Ytcjeidoniekgdaa
open Go.ChangeShapes Go.WideShapes Go.RowKit
theorem putL_258 : putL 258 2 = [1, 2] := by decide
theorem rot32_one : rot32 1 1 = 2147483648 := by decide
theorem put_258 (w : World) : Calls Try.prog 14 #[.int .u64 258, .int .i64 2] w fun e w' => e = .returned (.tuple #[.slice (some ⟨w.heap.size, 0, none⟩) 2 2, .int .i64 0]) ∧
    Reads .u8 w' (some ⟨w.heap.size, 0, none⟩) 2 2 [1, 2] ∧ Below w.heap.size w w' := by
  refine (put_ok 258 2 w (by decide) (by decide) (show 258 < 256 ^ 2 by decide)).mono ?_
  rintro e w' ⟨rfl, hown, hb⟩
  rw [putL_258] at hown
  obtain ⟨A, c, e, hr⟩ := Reads.of_own hown (by intro x hx; rw [wf_u8]; simp at hx; omega)
  cases e
  exact ⟨rfl, hr, hb⟩
theorem rot_11 (w : World) : Calls Try.prog 8 #[.int .u32 1, .int .i64 1] w fun e w' => e = .returned (.int .u32 2147483648) ∧ w = w' := by
  refine (rot_c 1 1 w (by decide)).mono ?_
  rintro e w' ⟨rfl, rfl⟩
  exact ⟨ret_int (by rw [show ((1 : Int) % 32).toNat = 1 from by decide, rot32_one]; rfl), rfl⟩
set_option maxHeartbeats 400000 in
theorem awake_c (w : World) : Calls Try.prog 7 #[] w fun e w' => e = .returned (.bool true) ∧ Below w.heap.size w w' := by
  go_enter Try.func7, Try.ntmps7
  go_wp2_with fail
  refine (put_258 _).mono ?_
  rintro e w1 ⟨rfl, hr, hb⟩
  go_wp2_with fail
  refine (rot_11 _).mono ?_
  rintro e w2 ⟨rfl, rfl⟩
  go_wp2_with fail
  refine (same_c _ _ _ _ _ _ [1, 2] [1, 2] _ (hr.keep ((Below.refl _ _).alloc (Nat.le_refl _) _)) ?_).mono ?_
  · refine ⟨rfl, Nat.le_refl _, by decide, by intro x hx; rw [wf_u8]; simp at hx; omega, fun i hi => ⟨_, rfl, by simp, ?_⟩⟩
    refine cells_new _ _ _ i _ ?_
    match i, hi with
    | 0, _ => rfl
    | 1, _ => rfl
  rintro e w3 ⟨rfl, k, rfl⟩
  go_wp2
  go_ret
  exact ⟨rfl, belowDrewN (hb.alloc hb.size _) _⟩
end Go.Proofs.Ytcjeidoniekgdaa
