/-
  No cell of these rows narrows 'for every input' (looked for: loops, veiled, ifaces, maps, wideKeys, modest, calm, conditions, laid).
  DERIVED. THE GIVEN ROWS OF THIS SEAT. 3 by the template 'for every input the law returns true; each argument reads behind the call as it read before'; 0 by the template 'total and deterministic' (their statements: YtdjpeopjfhoglaaTotals.lean).
  GIVEN WITH THE SEED: the statements are not yours to turn. If you find one false, say at which input.
  Laid BY PROGRAM, IN A SANDBOX (cutbox-rows.mjs): the forced cells as the released guide's own fill.sh prints them over the translation c971d07c8fb65e3b… (all of the seat's roots in one cut). By AI agents, Wed Nov 11 2026. No macro, syntax, notation, axiom, sorry.
-/
import Derived.Test.YtdjpeopjfhoglaaChecked
import GoSem.Claim
import GoSem.ClaimJoined
import GoSem.ClaimMapViews
import Derived.JoinedTies
import Derived.KernelRfl
namespace Go.Proofs.Ytdjpeopjfhoglaa
/- THE CELL 'sum', in the pinned program and in every row, IS THE sha256 OF THE DUMP (.gsa) THAT YtdjpeopjfhoglaaProg.lean LOADS. Nothing in Lean hashes anything: it is a label: what it is worth is what the hold of that sum in a sandbox is worth. -/
noncomputable def Try.pinned : Pinned := { name := "ytdjpeopjfhoglaa", sum := "c971d07c8fb65e3b8edb42000019ac5a9869eedfb7aa787fd17a4e45f2703d5a", checked := Try.checked }
namespace Rows
def none {H : Type} : Left H := { results := [], args := [] }

/-- 'batonlaw11.TabsPlays': WHATEVER THE INPUT: true; the input reads as it did. -/
def tabsPlaysSpec : ChangeSpec := { name := "tabsPlays", fn := fun _ => fun
  | [d1, d2] => { results := [.lit (.bool true)], args := [d1, d2] }
  | _ => none }
def tabsPlaysRow : OpenClaim := { program := "ytdjpeopjfhoglaa", sum := "c971d07c8fb65e3b8edb42000019ac5a9869eedfb7aa787fd17a4e45f2703d5a", func := "baton/batonlaw11.TabsPlays", spec := "tabsPlays", inPlace := ["slices.overlaps[int]"], unfollowed := true, recurses := true, apart := false }
def TabsPlaysSaid : Prop := tabsPlaysRow.holds Try.pinned (OpenSpec.ofChange tabsPlaysSpec)

/-- ITS FALSE NEIGHBOUR: 'it returns false'. Refute it at one input. -/
def tabsPlaysWrong : ChangeSpec := { name := "tabsPlays", fn := fun _ => fun
  | [d1, d2] => { results := [.lit (.bool false)], args := [d1, d2] }
  | _ => none }
def TabsPlaysWrongFalsely : Prop := tabsPlaysRow.holds Try.pinned (OpenSpec.ofChange tabsPlaysWrong)

/-- 'batonlaw11.TabsMoves': WHATEVER THE INPUT: true; the input reads as it did. -/
def tabsMovesSpec : ChangeSpec := { name := "tabsMoves", fn := fun _ => fun
  | [d1, d2, d3] => { results := [.lit (.bool true)], args := [d1, d2, d3] }
  | _ => none }
def tabsMovesRow : OpenClaim := { program := "ytdjpeopjfhoglaa", sum := "c971d07c8fb65e3b8edb42000019ac5a9869eedfb7aa787fd17a4e45f2703d5a", func := "baton/batonlaw11.TabsMoves", spec := "tabsMoves", inPlace := ["slices.overlaps[int]"], unfollowed := true, recurses := true, apart := false }
def TabsMovesSaid : Prop := tabsMovesRow.holds Try.pinned (OpenSpec.ofChange tabsMovesSpec)

/-- ITS FALSE NEIGHBOUR: 'it returns false'. Refute it at one input. -/
def tabsMovesWrong : ChangeSpec := { name := "tabsMoves", fn := fun _ => fun
  | [d1, d2, d3] => { results := [.lit (.bool false)], args := [d1, d2, d3] }
  | _ => none }
def TabsMovesWrongFalsely : Prop := tabsMovesRow.holds Try.pinned (OpenSpec.ofChange tabsMovesWrong)

/-- 'batonlaw11.TabsRises': WHATEVER THE INPUT: true; the input reads as it did. -/
def tabsRisesSpec : ChangeSpec := { name := "tabsRises", fn := fun _ => fun
  | [d1, d2, d3] => { results := [.lit (.bool true)], args := [d1, d2, d3] }
  | _ => none }
def tabsRisesRow : OpenClaim := { program := "ytdjpeopjfhoglaa", sum := "c971d07c8fb65e3b8edb42000019ac5a9869eedfb7aa787fd17a4e45f2703d5a", func := "baton/batonlaw11.TabsRises", spec := "tabsRises", inPlace := ["slices.overlaps[int]"], unfollowed := true, recurses := true, apart := false }
def TabsRisesSaid : Prop := tabsRisesRow.holds Try.pinned (OpenSpec.ofChange tabsRisesSpec)

/-- ITS FALSE NEIGHBOUR: 'it returns false'. Refute it at one input. -/
def tabsRisesWrong : ChangeSpec := { name := "tabsRises", fn := fun _ => fun
  | [d1, d2, d3] => { results := [.lit (.bool false)], args := [d1, d2, d3] }
  | _ => none }
def TabsRisesWrongFalsely : Prop := tabsRisesRow.holds Try.pinned (OpenSpec.ofChange tabsRisesWrong)

/- THE SECOND FORM. 'bulk': how many values and letters a reading holds, each counted each time it is reached (what is shared counts as often as it is met; a slice's spare places count too). A statement '..UptoSaid' is the law's where the arguments, and the package variables that the reading takes, are together of bulk at most 1048576: NARROWER than '..Said'. Prove '..Said' where nothing that the law and all that it calls make is longer than what came in: it says more and counts as full. Else prove '..UptoSaid'. A law counts once. -/
mutual
def uptoBulk {H : Type} : DataW H → Nat
  | .lit (.string bytes) => bytes.length + 1
  | .lit _ => 1
  | .nil => 1
  | .ptr d => uptoBulk d + 1
  | .slice elems spare => uptoBulkAll elems + uptoBulkAll spare + 1
  | .agg parts => uptoBulkAll parts + 1
  | .iface _ d => uptoBulk d + 1
  | .map entries => uptoBulkEntries entries + 1
  | .held _ => 1
def uptoBulkAll {H : Type} : List (DataW H) → Nat
  | [] => 0
  | d :: r => uptoBulk d + uptoBulkAll r
def uptoBulkEntries {H : Type} : List (Lit × DataW H) → Nat
  | [] => 0
  | x :: r => uptoBulkEntry x + uptoBulkEntries r
def uptoBulkEntry {H : Type} : Lit × DataW H → Nat
  | (.string bytes, d) => bytes.length + uptoBulk d + 1
  | (_, d) => uptoBulk d + 1
 end
def uptoSmall : (H : Type) → List (DataW H) → Bool := fun _ ds => decide (uptoBulkAll ds ≤ 1048576)
def OpenSpec.upto (s : _root_.Go.ChangeSpec) : _root_.Go.OpenSpec := { _root_.Go.OpenSpec.ofChange s with cond := some uptoSmall }

/-- 'batonlaw11.TabsPlays', WHERE WHAT IT READS IS OF BULK AT MOST 1048576: true; the input reads as it did. -/
def tabsPlaysUptoRow : OpenClaim := { program := "ytdjpeopjfhoglaa", sum := "c971d07c8fb65e3b8edb42000019ac5a9869eedfb7aa787fd17a4e45f2703d5a", func := "baton/batonlaw11.TabsPlays", spec := "tabsPlays", inPlace := ["slices.overlaps[int]"], unfollowed := true, recurses := true, apart := false, narrowed := true }
def TabsPlaysUptoSaid : Prop := tabsPlaysUptoRow.holds Try.pinned (OpenSpec.upto tabsPlaysSpec)

/-- 'batonlaw11.TabsMoves', WHERE WHAT IT READS IS OF BULK AT MOST 1048576: true; the input reads as it did. -/
def tabsMovesUptoRow : OpenClaim := { program := "ytdjpeopjfhoglaa", sum := "c971d07c8fb65e3b8edb42000019ac5a9869eedfb7aa787fd17a4e45f2703d5a", func := "baton/batonlaw11.TabsMoves", spec := "tabsMoves", inPlace := ["slices.overlaps[int]"], unfollowed := true, recurses := true, apart := false, narrowed := true }
def TabsMovesUptoSaid : Prop := tabsMovesUptoRow.holds Try.pinned (OpenSpec.upto tabsMovesSpec)

/-- 'batonlaw11.TabsRises', WHERE WHAT IT READS IS OF BULK AT MOST 1048576: true; the input reads as it did. -/
def tabsRisesUptoRow : OpenClaim := { program := "ytdjpeopjfhoglaa", sum := "c971d07c8fb65e3b8edb42000019ac5a9869eedfb7aa787fd17a4e45f2703d5a", func := "baton/batonlaw11.TabsRises", spec := "tabsRises", inPlace := ["slices.overlaps[int]"], unfollowed := true, recurses := true, apart := false, narrowed := true }
def TabsRisesUptoSaid : Prop := tabsRisesUptoRow.holds Try.pinned (OpenSpec.upto tabsRisesSpec)

end Rows
end Go.Proofs.Ytdjpeopjfhoglaa
