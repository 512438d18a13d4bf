/-
  DERIVED. GIVEN WITH THE SEED: THE CARDS: each row of YtajllkfoaigdlaaDoorRows.lean that lists a variable, with what it lists TIED to the program's text (the seventh form; the later family's looks); each row that meets fmt, with fmt's text TOLD by the authors' own Lean function (tested against real Go, not proved from fmt's source: count such statements apart). THE CARD IS WHAT COUNTS. Prove the row's statement (the work); the ties are given (YtajllkfoaigdlaaDoorTie.lean); close each card by the builder's one call (the guide's Derived/Test/ToyasCard.lean, 'card_holds'). Laid BY PROGRAM, IN A SANDBOX (cutbox-door.mjs). By AI agents, Wed Nov 11 2026. No macro, syntax, notation, axiom, sorry.
-/
import Derived.Test.YtajllkfoaigdlaaDoorRows
import GoSem.ClaimSeven
namespace Go.Proofs.YtajllkfoaigdlaaDoor
namespace Rows

/-- THE TIED CARD OF 'batonlaw12.PenApplies'. -/
def penAppliesCard : Claim7 := { stood := { row := penAppliesRow, standIns := [], harness := (true, "56a27be056d8ff5848051ef752ab74af85ca123ca5f2bec880e30a228be3e359"), looks := false }, kinds := [], alts := [], laidByText := true, laidKinds := [.data, .data], laidTests := true, laidLooks := .later }
def PenAppliesCardSaid : Prop := Claim7.holds Tryd.pinned (.plain (OpenSpec.ofChange penAppliesSpec)) penAppliesCard

/-- THE TIED CARD OF 'batonlaw12.PenCodes'. -/
def penCodesCard : Claim7 := { stood := { row := penCodesRow, standIns := [], harness := (true, "56a27be056d8ff5848051ef752ab74af85ca123ca5f2bec880e30a228be3e359"), looks := false }, kinds := [], alts := [], laidByText := true, laidKinds := [.data, .data], laidTests := true, laidLooks := .later }
def PenCodesCardSaid : Prop := Claim7.holds Tryd.pinned (.plain (OpenSpec.ofChange penCodesSpec)) penCodesCard

/-- THE TIED CARD OF 'batonlaw12.PenColours'. -/
def penColoursCard : Claim7 := { stood := { row := penColoursRow, standIns := [], harness := (true, "56a27be056d8ff5848051ef752ab74af85ca123ca5f2bec880e30a228be3e359"), looks := false }, kinds := [], alts := [], laidByText := true, laidKinds := [.data, .data], laidTests := true, laidLooks := .later }
def PenColoursCardSaid : Prop := Claim7.holds Tryd.pinned (.plain (OpenSpec.ofChange penColoursSpec)) penColoursCard

/-- THE TIED CARD OF 'batonlaw12.PenSteps'. -/
def penStepsCard : Claim7 := { stood := { row := penStepsRow, standIns := [], harness := (true, "56a27be056d8ff5848051ef752ab74af85ca123ca5f2bec880e30a228be3e359"), looks := false }, kinds := [], alts := [], laidByText := true, laidKinds := [.data, .data], laidTests := true, laidLooks := .later }
def PenStepsCardSaid : Prop := Claim7.holds Tryd.pinned (.plain (OpenSpec.ofChange penStepsSpec)) penStepsCard

/-- THE SECOND FORM's CARD OF 'batonlaw12.PenApplies'. -/
def penAppliesUptoCard : Claim7 := { stood := { row := penAppliesUptoRow, standIns := [], harness := (true, "56a27be056d8ff5848051ef752ab74af85ca123ca5f2bec880e30a228be3e359"), looks := false }, kinds := [], alts := [], laidByText := true, laidKinds := [.data, .data], laidTests := true, laidLooks := .later }
def PenAppliesUptoCardSaid : Prop := Claim7.holds Tryd.pinned (.plain (OpenSpec.upto penAppliesSpec)) penAppliesUptoCard

/-- THE SECOND FORM's CARD OF 'batonlaw12.PenCodes'. -/
def penCodesUptoCard : Claim7 := { stood := { row := penCodesUptoRow, standIns := [], harness := (true, "56a27be056d8ff5848051ef752ab74af85ca123ca5f2bec880e30a228be3e359"), looks := false }, kinds := [], alts := [], laidByText := true, laidKinds := [.data, .data], laidTests := true, laidLooks := .later }
def PenCodesUptoCardSaid : Prop := Claim7.holds Tryd.pinned (.plain (OpenSpec.upto penCodesSpec)) penCodesUptoCard

/-- THE SECOND FORM's CARD OF 'batonlaw12.PenColours'. -/
def penColoursUptoCard : Claim7 := { stood := { row := penColoursUptoRow, standIns := [], harness := (true, "56a27be056d8ff5848051ef752ab74af85ca123ca5f2bec880e30a228be3e359"), looks := false }, kinds := [], alts := [], laidByText := true, laidKinds := [.data, .data], laidTests := true, laidLooks := .later }
def PenColoursUptoCardSaid : Prop := Claim7.holds Tryd.pinned (.plain (OpenSpec.upto penColoursSpec)) penColoursUptoCard

/-- THE SECOND FORM's CARD OF 'batonlaw12.PenSteps'. -/
def penStepsUptoCard : Claim7 := { stood := { row := penStepsUptoRow, standIns := [], harness := (true, "56a27be056d8ff5848051ef752ab74af85ca123ca5f2bec880e30a228be3e359"), looks := false }, kinds := [], alts := [], laidByText := true, laidKinds := [.data, .data], laidTests := true, laidLooks := .later }
def PenStepsUptoCardSaid : Prop := Claim7.holds Tryd.pinned (.plain (OpenSpec.upto penStepsSpec)) penStepsUptoCard
end Rows
end Go.Proofs.YtajllkfoaigdlaaDoor
