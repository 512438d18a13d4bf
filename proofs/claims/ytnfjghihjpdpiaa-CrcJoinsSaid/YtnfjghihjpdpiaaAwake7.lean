/- The statements of layer 7 begin with the chapter's example: awake answers true. Conditions: none. -/
import Derived.Test.YtnfjghihjpdpiaaCrc1
import Derived.Test.YtnfjghihjpdpiaaRegs
import Derived.Lib.SlBytesConst
namespace Go.Proofs.Ytnfjghihjpdpiaa
open Go.ChangeShapes Go.WideShapes Go.RowKit
theorem word_of_wf {a : Int} (h : (Lit.int .u32 a).wf = true) : ∃ s : BitVec 32, a = (s.toNat : Int) := by
  obtain ⟨x, rfl, hx⟩ := nat_u32 a h
  exact ⟨BitVec.ofNat 32 x, by rw [BitVec.toNat_ofNat, Nat.mod_eq_of_lt hx]⟩
set_option maxHeartbeats 800000 in
theorem awake7_c (w : World) : Calls Try.prog 6 #[] w fun en w' => en = .returned (.bool true) ∧ Below w.heap.size w w' := by
  go_enter Try.func6, Try.ntmps6
  have hcv := fun (W : World) (C : Array Value) (n c : Nat) => Lib.run_convert_bytes_const (P := Try.prog) W 23 5 C n c Try.underlying23 Try.underlying5
  go_wp2_with fail
  clear hcv
  refine (sum_c (some ⟨w.heap.size, 0, none⟩) 9 9 [49, 50, 51, 52, 53, 54, 55, 56, 57] _ (reads_new rfl rfl (by decide) (by decide))).mono ?_
  rw [sum_example]
  rintro en w' ⟨rfl, rfl⟩
  go_wp2
  go_ret
  exact ⟨rfl, (Below.refl _ _).alloc (Nat.le_refl _) _⟩
end Go.Proofs.Ytnfjghihjpdpiaa
