/- What the condition on the listed variable gives: the table of the rounds' constants holds just the constants; and the heap that the program's own initialisers leave meets it. Conditions: none. -/
import Derived.Test.YtjacfihpjolddaaDoorRows
import Derived.Test.YtjacfihpjolddaaDoorSha2
import Derived.ProofKit
import Derived.LaidMore
import Derived.OpenShut
import Derived.Stop.Joined
import Derived.Lib.LaidTab
namespace Go.Proofs.YtjacfihpjolddaaDoor
open Go.ChangeShapes Go.WideShapes Go.ChangeAt Go.RowKit

def laidK : List (String × DataW Unit) := [("baton/sha.roundWords", Rows.laid_baton_sha_roundWords)]
theorem gK : Tryd.prog.globalNamed "baton/sha.roundWords" = some 0 := by kernel_rfl
theorem tK : (Tryd.prog.globals[0]?).map (·.type) = some 71 := by kernel_rfl
theorem laid_tab : (Rows.laid_baton_sha_roundWords : DataW Unit) = Lib.tabData .u32 (kN.map fun n : Nat => (n : Int)) := by kernel_rfl
theorem kW_at : ∀ i, i < 64 → (kN.map fun n : Nat => (n : Int)).getD i 0 = ((kW.getD i 0).toNat : Int) := by decide +kernel
theorem kt_of_laid {W : World} (h : laidMetH Tryd.prog laidK W) : KT W := by
  rw [MakeChecks.laidMetH_plain _ _ _ (by kernel_rfl)] at h
  have h' : laidMet Tryd.prog [("baton/sha.roundWords", Lib.tabData .u32 (kN.map fun n : Nat => (n : Int)))] W := by rw [← laid_tab]; exact h
  have hT := Lib.tabIs_of_head gK tK Tryd.underlying71 Tryd.underlying53 (by kernel_rfl) (by kernel_rfl) h'
  intro i hi
  rw [hT.cell gK i (by rw [List.length_map]; exact hi), kW_at i hi]
theorem door_met (os : Os) (args : Array Value) : laidMetH Tryd.prog laidK ((World.doorLaid Tryd.prog 400 os).forCall (fun _ _ => 0) ⟨#[], args, []⟩).memory :=
  laidMetH_of_parts3 (fuel := 8) (laidMet_of_run' 8 (by kernel_rfl) (by kernel_rfl)) (by kernel_rfl) (by kernel_rfl)
theorem own2 : ownKnob Tryd.prog.godebug = none := by kernel_rfl
end Go.Proofs.YtjacfihpjolddaaDoor
