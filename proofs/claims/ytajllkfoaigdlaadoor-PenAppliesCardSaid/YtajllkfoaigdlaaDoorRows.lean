/-
  NARROWER THAN 'FOR EVERY INPUT', by the rows' own cells (each row's printed sentence says how): PenApplies: laid · PenCodes: laid · PenColours: laid · PenSteps: laid.
  DERIVED. THE GIVEN ROWS OF THIS SEAT. 4 by the template 'for every input the law returns true; each argument reads behind the call as it read before'; 0 by the template 'total and deterministic' (their statements: YtajllkfoaigdlaaDoorTotals.lean).
  GIVEN WITH THE SEED: the statements are not yours to turn. If you find one false, say at which input.
  Laid BY PROGRAM, IN A SANDBOX (cutbox-rows.mjs): the forced cells as the released guide's own fill.sh prints them over the translation 551c9c2eaa899af3… (all of the seat's roots in one cut). By AI agents, Wed Nov 11 2026. No macro, syntax, notation, axiom, sorry.
-/
import Derived.Test.YtajllkfoaigdlaaDoorChecked
import GoSem.Claim
import GoSem.ClaimJoined
import GoSem.ClaimMapViews
import Derived.JoinedTies
import Derived.KernelRfl
namespace Go.Proofs.YtajllkfoaigdlaaDoor
/- THE CELL 'sum', in the pinned program and in every row, IS THE sha256 OF THE DUMP (.gsa) THAT YtajllkfoaigdlaaDoorProg.lean LOADS. Nothing in Lean hashes anything: it is a label: what it is worth is what the hold of that sum in a sandbox is worth. -/
noncomputable def Tryd.pinned : Pinned := { name := "ytajllkfoaigdlaadoor", sum := "551c9c2eaa899af39f5c4c6742942b00360d456817844a43fe52800f81d82222", checked := Tryd.checked }
namespace Rows
def none {H : Type} : Left H := { results := [], args := [] }

/- WHAT THE LISTED PACKAGE-LEVEL VARIABLES READ AS WHEN THE CALL BEGINS. Each datum BY PROGRAM (the guide's laid-datum.mjs) off the statement by which the dump's own 'gosem.cut.vars' lays the variable. In a bare row this is a premise. The card (YtajllkfoaigdlaaDoorCards.lean) ties it to the program's text. -/
def laid_baton_pen_sets {H : Type} : DataW H := .agg [.lit (.int .i64 0), .lit (.int .i64 1), .lit (.int .i64 2), .lit (.int .i64 4), .lit (.int .i64 8), .lit (.int .i64 16), .lit (.int .i64 0), .lit (.int .i64 32), .lit (.int .i64 0), .lit (.int .i64 64)]
def laid_baton_pen_clears {H : Type} : DataW H := .agg [.lit (.int .i64 0), .lit (.int .i64 0), .lit (.int .i64 0), .lit (.int .i64 0), .lit (.int .i64 0), .lit (.int .i64 0), .lit (.int .i64 0), .lit (.int .i64 0), .lit (.int .i64 0), .lit (.int .i64 0), .lit (.int .i64 0), .lit (.int .i64 0), .lit (.int .i64 0), .lit (.int .i64 0), .lit (.int .i64 0), .lit (.int .i64 0), .lit (.int .i64 0), .lit (.int .i64 0), .lit (.int .i64 0), .lit (.int .i64 0), .lit (.int .i64 0), .lit (.int .i64 0), .lit (.int .i64 3), .lit (.int .i64 4), .lit (.int .i64 8), .lit (.int .i64 16), .lit (.int .i64 0), .lit (.int .i64 32), .lit (.int .i64 0), .lit (.int .i64 64)]

/-- 'batonlaw12.PenApplies': WHATEVER THE INPUT: true; the input reads as it did. -/
def penAppliesSpec : ChangeSpec := { name := "penApplies", fn := fun _ => fun
  | [d1, d2] => { results := [.lit (.bool true)], args := [d1, d2] }
  | _ => none }
def penAppliesRow : OpenClaim := { program := "ytajllkfoaigdlaadoor", sum := "551c9c2eaa899af39f5c4c6742942b00360d456817844a43fe52800f81d82222", func := "baton/batonlaw12.PenApplies", spec := "penApplies", named := ["baton/pen.sets", "baton/pen.clears"], apart := false, laid := [("baton/pen.sets", laid_baton_pen_sets), ("baton/pen.clears", laid_baton_pen_clears)] }
def PenAppliesSaid : Prop := penAppliesRow.holds Tryd.pinned (OpenSpec.ofChange penAppliesSpec)

/-- ITS FALSE NEIGHBOUR: 'it returns false'. Refute it at one input. -/
def penAppliesWrong : ChangeSpec := { name := "penApplies", fn := fun _ => fun
  | [d1, d2] => { results := [.lit (.bool false)], args := [d1, d2] }
  | _ => none }
def PenAppliesWrongFalsely : Prop := penAppliesRow.holds Tryd.pinned (OpenSpec.ofChange penAppliesWrong)

/-- 'batonlaw12.PenCodes': WHATEVER THE INPUT: true; the input reads as it did. -/
def penCodesSpec : ChangeSpec := { name := "penCodes", fn := fun _ => fun
  | [d1, d2, d3] => { results := [.lit (.bool true)], args := [d1, d2, d3] }
  | _ => none }
def penCodesRow : OpenClaim := { program := "ytajllkfoaigdlaadoor", sum := "551c9c2eaa899af39f5c4c6742942b00360d456817844a43fe52800f81d82222", func := "baton/batonlaw12.PenCodes", spec := "penCodes", named := ["baton/pen.sets", "baton/pen.clears"], apart := false, laid := [("baton/pen.sets", laid_baton_pen_sets), ("baton/pen.clears", laid_baton_pen_clears)] }
def PenCodesSaid : Prop := penCodesRow.holds Tryd.pinned (OpenSpec.ofChange penCodesSpec)

/-- ITS FALSE NEIGHBOUR: 'it returns false'. Refute it at one input. -/
def penCodesWrong : ChangeSpec := { name := "penCodes", fn := fun _ => fun
  | [d1, d2, d3] => { results := [.lit (.bool false)], args := [d1, d2, d3] }
  | _ => none }
def PenCodesWrongFalsely : Prop := penCodesRow.holds Tryd.pinned (OpenSpec.ofChange penCodesWrong)

/-- 'batonlaw12.PenColours': WHATEVER THE INPUT: true; the input reads as it did. -/
def penColoursSpec : ChangeSpec := { name := "penColours", fn := fun _ => fun
  | [d] => { results := [.lit (.bool true)], args := [d] }
  | _ => none }
def penColoursRow : OpenClaim := { program := "ytajllkfoaigdlaadoor", sum := "551c9c2eaa899af39f5c4c6742942b00360d456817844a43fe52800f81d82222", func := "baton/batonlaw12.PenColours", spec := "penColours", named := ["baton/pen.sets", "baton/pen.clears"], apart := false, laid := [("baton/pen.sets", laid_baton_pen_sets), ("baton/pen.clears", laid_baton_pen_clears)] }
def PenColoursSaid : Prop := penColoursRow.holds Tryd.pinned (OpenSpec.ofChange penColoursSpec)

/-- ITS FALSE NEIGHBOUR: 'it returns false'. Refute it at one input. -/
def penColoursWrong : ChangeSpec := { name := "penColours", fn := fun _ => fun
  | [d] => { results := [.lit (.bool false)], args := [d] }
  | _ => none }
def PenColoursWrongFalsely : Prop := penColoursRow.holds Tryd.pinned (OpenSpec.ofChange penColoursWrong)

/-- 'batonlaw12.PenSteps': WHATEVER THE INPUT: true; the input reads as it did. -/
def penStepsSpec : ChangeSpec := { name := "penSteps", fn := fun _ => fun
  | [d1, d2] => { results := [.lit (.bool true)], args := [d1, d2] }
  | _ => none }
def penStepsRow : OpenClaim := { program := "ytajllkfoaigdlaadoor", sum := "551c9c2eaa899af39f5c4c6742942b00360d456817844a43fe52800f81d82222", func := "baton/batonlaw12.PenSteps", spec := "penSteps", named := ["baton/pen.sets", "baton/pen.clears"], apart := false, laid := [("baton/pen.sets", laid_baton_pen_sets), ("baton/pen.clears", laid_baton_pen_clears)] }
def PenStepsSaid : Prop := penStepsRow.holds Tryd.pinned (OpenSpec.ofChange penStepsSpec)

/-- ITS FALSE NEIGHBOUR: 'it returns false'. Refute it at one input. -/
def penStepsWrong : ChangeSpec := { name := "penSteps", fn := fun _ => fun
  | [d1, d2] => { results := [.lit (.bool false)], args := [d1, d2] }
  | _ => none }
def PenStepsWrongFalsely : Prop := penStepsRow.holds Tryd.pinned (OpenSpec.ofChange penStepsWrong)

/- THE SECOND FORM. 'bulk': how many values and letters a reading holds, each counted each time it is reached (what is shared counts as often as it is met; a slice's spare places count too). A statement '..UptoSaid' is the law's where the arguments, and the package variables that the reading takes, are together of bulk at most 1048576: NARROWER than '..Said'. Prove '..Said' where nothing that the law and all that it calls make is longer than what came in: it says more and counts as full. Else prove '..UptoSaid'. A law counts once. -/
mutual
def uptoBulk {H : Type} : DataW H → Nat
  | .lit (.string bytes) => bytes.length + 1
  | .lit _ => 1
  | .nil => 1
  | .ptr d => uptoBulk d + 1
  | .slice elems spare => uptoBulkAll elems + uptoBulkAll spare + 1
  | .agg parts => uptoBulkAll parts + 1
  | .iface _ d => uptoBulk d + 1
  | .map entries => uptoBulkEntries entries + 1
  | .held _ => 1
def uptoBulkAll {H : Type} : List (DataW H) → Nat
  | [] => 0
  | d :: r => uptoBulk d + uptoBulkAll r
def uptoBulkEntries {H : Type} : List (Lit × DataW H) → Nat
  | [] => 0
  | x :: r => uptoBulkEntry x + uptoBulkEntries r
def uptoBulkEntry {H : Type} : Lit × DataW H → Nat
  | (.string bytes, d) => bytes.length + uptoBulk d + 1
  | (_, d) => uptoBulk d + 1
 end
def uptoSmall : (H : Type) → List (DataW H) → Bool := fun _ ds => decide (uptoBulkAll ds ≤ 1048576)
def OpenSpec.upto (s : _root_.Go.ChangeSpec) : _root_.Go.OpenSpec := { _root_.Go.OpenSpec.ofChange s with cond := some uptoSmall }

/-- 'batonlaw12.PenApplies', WHERE WHAT IT READS IS OF BULK AT MOST 1048576: true; the input reads as it did. -/
def penAppliesUptoRow : OpenClaim := { program := "ytajllkfoaigdlaadoor", sum := "551c9c2eaa899af39f5c4c6742942b00360d456817844a43fe52800f81d82222", func := "baton/batonlaw12.PenApplies", spec := "penApplies", named := ["baton/pen.sets", "baton/pen.clears"], apart := false, laid := [("baton/pen.sets", laid_baton_pen_sets), ("baton/pen.clears", laid_baton_pen_clears)], narrowed := true }
def PenAppliesUptoSaid : Prop := penAppliesUptoRow.holds Tryd.pinned (OpenSpec.upto penAppliesSpec)

/-- 'batonlaw12.PenCodes', WHERE WHAT IT READS IS OF BULK AT MOST 1048576: true; the input reads as it did. -/
def penCodesUptoRow : OpenClaim := { program := "ytajllkfoaigdlaadoor", sum := "551c9c2eaa899af39f5c4c6742942b00360d456817844a43fe52800f81d82222", func := "baton/batonlaw12.PenCodes", spec := "penCodes", named := ["baton/pen.sets", "baton/pen.clears"], apart := false, laid := [("baton/pen.sets", laid_baton_pen_sets), ("baton/pen.clears", laid_baton_pen_clears)], narrowed := true }
def PenCodesUptoSaid : Prop := penCodesUptoRow.holds Tryd.pinned (OpenSpec.upto penCodesSpec)

/-- 'batonlaw12.PenColours', WHERE WHAT IT READS IS OF BULK AT MOST 1048576: true; the input reads as it did. -/
def penColoursUptoRow : OpenClaim := { program := "ytajllkfoaigdlaadoor", sum := "551c9c2eaa899af39f5c4c6742942b00360d456817844a43fe52800f81d82222", func := "baton/batonlaw12.PenColours", spec := "penColours", named := ["baton/pen.sets", "baton/pen.clears"], apart := false, laid := [("baton/pen.sets", laid_baton_pen_sets), ("baton/pen.clears", laid_baton_pen_clears)], narrowed := true }
def PenColoursUptoSaid : Prop := penColoursUptoRow.holds Tryd.pinned (OpenSpec.upto penColoursSpec)

/-- 'batonlaw12.PenSteps', WHERE WHAT IT READS IS OF BULK AT MOST 1048576: true; the input reads as it did. -/
def penStepsUptoRow : OpenClaim := { program := "ytajllkfoaigdlaadoor", sum := "551c9c2eaa899af39f5c4c6742942b00360d456817844a43fe52800f81d82222", func := "baton/batonlaw12.PenSteps", spec := "penSteps", named := ["baton/pen.sets", "baton/pen.clears"], apart := false, laid := [("baton/pen.sets", laid_baton_pen_sets), ("baton/pen.clears", laid_baton_pen_clears)], narrowed := true }
def PenStepsUptoSaid : Prop := penStepsUptoRow.holds Tryd.pinned (OpenSpec.upto penStepsSpec)

end Rows
end Go.Proofs.YtajllkfoaigdlaaDoor
