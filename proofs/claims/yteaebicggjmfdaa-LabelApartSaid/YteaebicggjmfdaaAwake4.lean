/- awake, the check of the page's example in the statements of layer 4, returns true in every world, and changes nothing that was there. Conditions: none. -/
import Derived.Test.YteaebicggjmfdaaLabel2
import Derived.Lib.SlBytesConst
namespace Go.Proofs.Yteaebicggjmfdaa
open Go.ChangeShapes Go.WideShapes Go.RowKit
theorem join_a : joinL [[97], []] = [2, 0, 0, 0, 1, 97, 0, 0, 0, 0] := by decide
set_option maxRecDepth 100000 in
set_option maxHeartbeats 1600000 in
theorem awake4_c (w : World) : Calls Try.prog 6 #[] w fun e w' => e = .returned (.bool true) ∧ Below w.heap.size w w' := by
  go_enter Try.func6, Try.ntmps6
  have hcv := fun (W : World) (C : Array Value) (n c : Nat) => Lib.run_convert_bytes_const (P := Try.prog) W 25 5 C n c Try.underlying25 Try.underlying5
  go_wp2_with fail
  clear hcv
  refine name_Calls (fun w1 => ReadsAll .u8 w1 (some ⟨w.heap.size + 1, 0, none⟩) 2 2 [[97], []] ∧ Below w.heap.size w w1) ⟨?_, ?_⟩ ?_
  · have h1 : Reads .u8 (w.alloc (.cells #[.int .u8 97] 5 (1, 2))) (some ⟨w.heap.size, 0, none⟩) 1 1 [97] := reads_new rfl rfl (by decide) (by decide)
    have h2 : Reads .u8 (w.alloc (.cells #[.int .u8 97] 5 (1, 2))) none 0 0 [] := Reads.nil.2 (by decide)
    have h4 := readsAll_new (t := 25) (ls := [[97], []]) (cs := #[.slice (some ⟨w.heap.size, 0, none⟩) 1 1, .slice none 0 0]) rfl (by decide) (fun i hi => match i, hi with
      | 0, _ => ⟨_, _, _, rfl, h1⟩
      | 1, _ => ⟨_, _, _, rfl, h2⟩)
    rw [World.size_alloc] at h4
    exact h4
  · exact ((Below.refl _ _).alloc (Nat.le_refl _) _).alloc (by simp) _
  rintro w1 ⟨hall, hbel1⟩
  refine (join_c _ _ _ _ _ hall (by decide) (by decide)).mono ?_
  rintro en w2 ⟨v2, rfl, hm2⟩
  rw [join_a] at hm2
  have hbw2 := hbel1.trans (hm2.2.mono hbel1.size)
  obtain ⟨A2, c2, rfl, hr2⟩ := Reads.of_own hm2.1 (fun x hx => wf_u8.2 (by revert x; decide))
  have HR2 := Lib.hid hr2
  clear hr2 hm2 hall hbel1
  go_wp2_with fail
  refine name_Calls (fun w3 => Reads .u8 w3 A2 10 c2 [2, 0, 0, 0, 1, 97, 0, 0, 0, 0] ∧ Reads .u8 w3 (some ⟨w2.heap.size, 0, none⟩) 10 10 [2, 0, 0, 0, 1, 97, 0, 0, 0, 0] ∧ Below w.heap.size w w3) ⟨HR2.out.keep ((Below.refl _ _).alloc (Nat.le_refl _) _), reads_new rfl rfl (by decide) (by decide), hbw2.alloc hbw2.size _⟩ ?_
  rintro w3 ⟨hr3, hr4, hbel3⟩
  refine (same_c _ _ _ _ _ _ _ _ _ hr3 hr4).mono ?_
  rintro en w4 ⟨rfl, k, hw4⟩
  have hbel4 : Below w.heap.size w w4 := by rw [hw4]; exact belowDrewN hbel3 _
  rw [decide_eq_true rfl]
  clear hw4 hr3 hr4 hbel3 HR2
  go_wp2
  go_ret
  exact ⟨rfl, hbel4⟩
end Go.Proofs.Yteaebicggjmfdaa
