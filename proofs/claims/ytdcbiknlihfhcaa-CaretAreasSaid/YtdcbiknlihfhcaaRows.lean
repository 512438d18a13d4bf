/-
  No cell of these rows narrows 'for every input' (looked for: loops, veiled, ifaces, maps, wideKeys, modest, calm, conditions, laid).
  DERIVED. THE GIVEN ROWS OF THIS SEAT. 4 by the template 'for every input the law returns true; each argument reads behind the call as it read before'; 0 by the template 'total and deterministic' (their statements: YtdcbiknlihfhcaaTotals.lean).
  GIVEN WITH THE SEED: the statements are not yours to turn. If you find one false, say at which input.
  Laid BY PROGRAM, IN A SANDBOX (cutbox-rows.mjs): the forced cells as the released guide's own fill.sh prints them over the translation 4f388c7106713740… (all of the seat's roots in one cut). By AI agents, Wed Nov 11 2026. No macro, syntax, notation, axiom, sorry.
-/
import Derived.Test.YtdcbiknlihfhcaaChecked
import GoSem.Claim
import GoSem.ClaimJoined
import GoSem.ClaimMapViews
import Derived.JoinedTies
import Derived.KernelRfl
namespace Go.Proofs.Ytdcbiknlihfhcaa
/- THE CELL 'sum', in the pinned program and in every row, IS THE sha256 OF THE DUMP (.gsa) THAT YtdcbiknlihfhcaaProg.lean LOADS. Nothing in Lean hashes anything: it is a label: what it is worth is what the hold of that sum in a sandbox is worth. -/
noncomputable def Try.pinned : Pinned := { name := "ytdcbiknlihfhcaa", sum := "4f388c7106713740c5afbc3a9be1d442478a68563316d198b7754479dccf9cd2", checked := Try.checked }
namespace Rows
def none {H : Type} : Left H := { results := [], args := [] }

/-- 'batonlaw14.CaretAreas': WHATEVER THE INPUT: true; the input reads as it did. -/
def caretAreasSpec : ChangeSpec := { name := "caretAreas", fn := fun _ => fun
  | [d1, d2, d3] => { results := [.lit (.bool true)], args := [d1, d2, d3] }
  | _ => none }
def caretAreasRow : OpenClaim := { program := "ytdcbiknlihfhcaa", sum := "4f388c7106713740c5afbc3a9be1d442478a68563316d198b7754479dccf9cd2", func := "baton/batonlaw14.CaretAreas", spec := "caretAreas", apart := false }
def CaretAreasSaid : Prop := caretAreasRow.holds Try.pinned (OpenSpec.ofChange caretAreasSpec)

/-- ITS FALSE NEIGHBOUR: 'it returns false'. Refute it at one input. -/
def caretAreasWrong : ChangeSpec := { name := "caretAreas", fn := fun _ => fun
  | [d1, d2, d3] => { results := [.lit (.bool false)], args := [d1, d2, d3] }
  | _ => none }
def CaretAreasWrongFalsely : Prop := caretAreasRow.holds Try.pinned (OpenSpec.ofChange caretAreasWrong)

/-- 'batonlaw14.CaretMoves': WHATEVER THE INPUT: true; the input reads as it did. -/
def caretMovesSpec : ChangeSpec := { name := "caretMoves", fn := fun _ => fun
  | [d1, d2, d3] => { results := [.lit (.bool true)], args := [d1, d2, d3] }
  | _ => none }
def caretMovesRow : OpenClaim := { program := "ytdcbiknlihfhcaa", sum := "4f388c7106713740c5afbc3a9be1d442478a68563316d198b7754479dccf9cd2", func := "baton/batonlaw14.CaretMoves", spec := "caretMoves", apart := false }
def CaretMovesSaid : Prop := caretMovesRow.holds Try.pinned (OpenSpec.ofChange caretMovesSpec)

/-- ITS FALSE NEIGHBOUR: 'it returns false'. Refute it at one input. -/
def caretMovesWrong : ChangeSpec := { name := "caretMoves", fn := fun _ => fun
  | [d1, d2, d3] => { results := [.lit (.bool false)], args := [d1, d2, d3] }
  | _ => none }
def CaretMovesWrongFalsely : Prop := caretMovesRow.holds Try.pinned (OpenSpec.ofChange caretMovesWrong)

/-- 'batonlaw14.CaretGoes': WHATEVER THE INPUT: true; the input reads as it did. -/
def caretGoesSpec : ChangeSpec := { name := "caretGoes", fn := fun _ => fun
  | [d1, d2, d3] => { results := [.lit (.bool true)], args := [d1, d2, d3] }
  | _ => none }
def caretGoesRow : OpenClaim := { program := "ytdcbiknlihfhcaa", sum := "4f388c7106713740c5afbc3a9be1d442478a68563316d198b7754479dccf9cd2", func := "baton/batonlaw14.CaretGoes", spec := "caretGoes", apart := false }
def CaretGoesSaid : Prop := caretGoesRow.holds Try.pinned (OpenSpec.ofChange caretGoesSpec)

/-- ITS FALSE NEIGHBOUR: 'it returns false'. Refute it at one input. -/
def caretGoesWrong : ChangeSpec := { name := "caretGoes", fn := fun _ => fun
  | [d1, d2, d3] => { results := [.lit (.bool false)], args := [d1, d2, d3] }
  | _ => none }
def CaretGoesWrongFalsely : Prop := caretGoesRow.holds Try.pinned (OpenSpec.ofChange caretGoesWrong)

/-- 'batonlaw14.CaretFeeds': WHATEVER THE INPUT: true; the input reads as it did. -/
def caretFeedsSpec : ChangeSpec := { name := "caretFeeds", fn := fun _ => fun
  | [d1, d2, d3] => { results := [.lit (.bool true)], args := [d1, d2, d3] }
  | _ => none }
def caretFeedsRow : OpenClaim := { program := "ytdcbiknlihfhcaa", sum := "4f388c7106713740c5afbc3a9be1d442478a68563316d198b7754479dccf9cd2", func := "baton/batonlaw14.CaretFeeds", spec := "caretFeeds", apart := false }
def CaretFeedsSaid : Prop := caretFeedsRow.holds Try.pinned (OpenSpec.ofChange caretFeedsSpec)

/-- ITS FALSE NEIGHBOUR: 'it returns false'. Refute it at one input. -/
def caretFeedsWrong : ChangeSpec := { name := "caretFeeds", fn := fun _ => fun
  | [d1, d2, d3] => { results := [.lit (.bool false)], args := [d1, d2, d3] }
  | _ => none }
def CaretFeedsWrongFalsely : Prop := caretFeedsRow.holds Try.pinned (OpenSpec.ofChange caretFeedsWrong)

/- THE SECOND FORM. 'bulk': how many values and letters a reading holds, each counted each time it is reached (what is shared counts as often as it is met; a slice's spare places count too). A statement '..UptoSaid' is the law's where the arguments, and the package variables that the reading takes, are together of bulk at most 1048576: NARROWER than '..Said'. Prove '..Said' where nothing that the law and all that it calls make is longer than what came in: it says more and counts as full. Else prove '..UptoSaid'. A law counts once. -/
mutual
def uptoBulk {H : Type} : DataW H → Nat
  | .lit (.string bytes) => bytes.length + 1
  | .lit _ => 1
  | .nil => 1
  | .ptr d => uptoBulk d + 1
  | .slice elems spare => uptoBulkAll elems + uptoBulkAll spare + 1
  | .agg parts => uptoBulkAll parts + 1
  | .iface _ d => uptoBulk d + 1
  | .map entries => uptoBulkEntries entries + 1
  | .held _ => 1
def uptoBulkAll {H : Type} : List (DataW H) → Nat
  | [] => 0
  | d :: r => uptoBulk d + uptoBulkAll r
def uptoBulkEntries {H : Type} : List (Lit × DataW H) → Nat
  | [] => 0
  | x :: r => uptoBulkEntry x + uptoBulkEntries r
def uptoBulkEntry {H : Type} : Lit × DataW H → Nat
  | (.string bytes, d) => bytes.length + uptoBulk d + 1
  | (_, d) => uptoBulk d + 1
 end
def uptoSmall : (H : Type) → List (DataW H) → Bool := fun _ ds => decide (uptoBulkAll ds ≤ 1048576)
def OpenSpec.upto (s : _root_.Go.ChangeSpec) : _root_.Go.OpenSpec := { _root_.Go.OpenSpec.ofChange s with cond := some uptoSmall }

/-- 'batonlaw14.CaretAreas', WHERE WHAT IT READS IS OF BULK AT MOST 1048576: true; the input reads as it did. -/
def caretAreasUptoRow : OpenClaim := { program := "ytdcbiknlihfhcaa", sum := "4f388c7106713740c5afbc3a9be1d442478a68563316d198b7754479dccf9cd2", func := "baton/batonlaw14.CaretAreas", spec := "caretAreas", apart := false, narrowed := true }
def CaretAreasUptoSaid : Prop := caretAreasUptoRow.holds Try.pinned (OpenSpec.upto caretAreasSpec)

/-- 'batonlaw14.CaretMoves', WHERE WHAT IT READS IS OF BULK AT MOST 1048576: true; the input reads as it did. -/
def caretMovesUptoRow : OpenClaim := { program := "ytdcbiknlihfhcaa", sum := "4f388c7106713740c5afbc3a9be1d442478a68563316d198b7754479dccf9cd2", func := "baton/batonlaw14.CaretMoves", spec := "caretMoves", apart := false, narrowed := true }
def CaretMovesUptoSaid : Prop := caretMovesUptoRow.holds Try.pinned (OpenSpec.upto caretMovesSpec)

/-- 'batonlaw14.CaretGoes', WHERE WHAT IT READS IS OF BULK AT MOST 1048576: true; the input reads as it did. -/
def caretGoesUptoRow : OpenClaim := { program := "ytdcbiknlihfhcaa", sum := "4f388c7106713740c5afbc3a9be1d442478a68563316d198b7754479dccf9cd2", func := "baton/batonlaw14.CaretGoes", spec := "caretGoes", apart := false, narrowed := true }
def CaretGoesUptoSaid : Prop := caretGoesUptoRow.holds Try.pinned (OpenSpec.upto caretGoesSpec)

/-- 'batonlaw14.CaretFeeds', WHERE WHAT IT READS IS OF BULK AT MOST 1048576: true; the input reads as it did. -/
def caretFeedsUptoRow : OpenClaim := { program := "ytdcbiknlihfhcaa", sum := "4f388c7106713740c5afbc3a9be1d442478a68563316d198b7754479dccf9cd2", func := "baton/batonlaw14.CaretFeeds", spec := "caretFeeds", apart := false, narrowed := true }
def CaretFeedsUptoSaid : Prop := caretFeedsUptoRow.holds Try.pinned (OpenSpec.upto caretFeedsSpec)

end Rows
end Go.Proofs.Ytdcbiknlihfhcaa
