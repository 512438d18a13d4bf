/- What the condition on the two listed variables of package pen gives: the tables hold just what the program's text lays; and the heap that the program's own initialisers leave meets it. Conditions: none. -/
import Derived.Test.YtajllkfoaigdlaaDoorRows
import Derived.Test.YtajllkfoaigdlaaDoorPen1
import Derived.ProofKit
import Derived.LaidMore
import Derived.OpenShut
import Derived.Stop.Joined
import Derived.Lib.LaidTab
import Derived.Lib.LaidU8
namespace Go.Proofs.YtajllkfoaigdlaaDoor
open Go.ChangeShapes Go.WideShapes Go.ChangeAt Go.RowKit
def laidK : List (String × DataW Unit) := [("baton/pen.sets", Rows.laid_baton_pen_sets), ("baton/pen.clears", Rows.laid_baton_pen_clears)]
theorem gSets : Tryd.prog.globalNamed "baton/pen.sets" = some 0 := by kernel_rfl
theorem gClears : Tryd.prog.globalNamed "baton/pen.clears" = some 1 := by kernel_rfl
theorem tSets : (Tryd.prog.globals[0]?).map (·.type) = some 43 := by kernel_rfl
theorem tClears : (Tryd.prog.globals[1]?).map (·.type) = some 47 := by kernel_rfl
theorem sets_tab : (Rows.laid_baton_pen_sets : DataW Unit) = Lib.tabData .i64 (setsN.map fun n : Nat => (n : Int)) := by kernel_rfl
theorem clears_tab : (Rows.laid_baton_pen_clears : DataW Unit) = Lib.tabData .i64 (clrsN.map fun n : Nat => (n : Int)) := by kernel_rfl
theorem tabIs_of_reads {P : Program} {W : World} {name : String} {k : IntKind} {zs : List Int} {g : Nat} {t e : TypeId} {n : Nat}
    (hg : P.globalNamed name = some g) (hty : (P.globals[g]?).map (·.type) = some t) (ht : P.underlying t = some (.array n e)) (he : P.underlying e = some (.int k)) (hce : P.cellsOf e = 1) (hct : P.cellsOf t = n)
    (h : Lib.VarReads P W name (Lib.tabData k zs)) : Lib.TabIs P W name k zs := by
  obtain ⟨g', t', cs, fuel, p, hg', ht', hvar, hd⟩ := h
  obtain rfl := Option.some.inj (hg.symm.trans hg')
  obtain rfl := Option.some.inj (hty.symm.trans ht')
  unfold Lib.TabIs
  rw [hvar, ← Lib.cells_of_tab ht he hce hct hd]
theorem castD (l : List Nat) (i : Nat) : (l.map fun n : Nat => (n : Int)).getD i 0 = ((l.getD i 0 : Nat) : Int) := by
  simp only [List.getD_eq_getElem?_getD, List.getElem?_map]
  cases l[i]? <;> rfl
theorem kt_of_laid {W : World} (h : laidMetH Tryd.prog laidK W) : PT W := by
  rw [MakeChecks.laidMetH_plain _ _ _ (by kernel_rfl)] at h
  have h1 : Lib.VarReads Tryd.prog W "baton/pen.sets" Rows.laid_baton_pen_sets := Lib.laidMet.reads h (.head _)
  have h2 : Lib.VarReads Tryd.prog W "baton/pen.clears" Rows.laid_baton_pen_clears := Lib.laidMet.reads h (.tail _ (.head _))
  rw [sets_tab] at h1
  rw [clears_tab] at h2
  have t1 := tabIs_of_reads gSets tSets Tryd.underlying43 Tryd.underlying3 (by kernel_rfl) (by kernel_rfl) h1
  have t2 := tabIs_of_reads gClears tClears Tryd.underlying47 Tryd.underlying3 (by kernel_rfl) (by kernel_rfl) h2
  exact ⟨fun i hi => by rw [t1.cell gSets i (by rw [List.length_map]; exact hi), castD], fun i hi => by rw [t2.cell gClears i (by rw [List.length_map]; exact hi), castD]⟩
theorem door_met (os : Os) (args : Array Value) : laidMetH Tryd.prog laidK ((World.doorLaid Tryd.prog 400 os).forCall (fun _ _ => 0) ⟨#[], args, []⟩).memory :=
  laidMetH_of_parts3 (fuel := 8) (laidMet_of_run' 8 (by kernel_rfl) (by kernel_rfl)) (by kernel_rfl) (by kernel_rfl)
end Go.Proofs.YtajllkfoaigdlaaDoor
