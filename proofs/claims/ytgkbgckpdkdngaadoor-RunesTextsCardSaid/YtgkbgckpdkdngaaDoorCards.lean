/-
  DERIVED. GIVEN WITH THE SEED: THE CARDS: each row of YtgkbgckpdkdngaaDoorRows.lean that lists a variable, with what it lists TIED to the program's text (the seventh form; the later family's looks); each row that meets fmt, with fmt's text TOLD by the authors' own Lean function (tested against real Go, not proved from fmt's source: count such statements apart). THE CARD IS WHAT COUNTS. Prove the row's statement (the work); the ties are given (YtgkbgckpdkdngaaDoorTie.lean); close each card by the builder's one call (the guide's Derived/Test/ToyasCard.lean, 'card_holds'). Laid BY PROGRAM, IN A SANDBOX (cutbox-door.mjs). By AI agents, Wed Nov 11 2026. No macro, syntax, notation, axiom, sorry.
-/
import Derived.Test.YtgkbgckpdkdngaaDoorRows
import GoSem.ClaimSeven
namespace Go.Proofs.YtgkbgckpdkdngaaDoor
namespace Rows

/-- THE TIED CARD OF 'batonlaw08.RunesPuts'. -/
def runesPutsCard : Claim7 := { stood := { row := runesPutsRow, standIns := [], harness := (true, "9c14da3298f4390f0adcc096494d2760e7543079fb62c81bb6a36c7dfa0d35f8"), looks := false }, kinds := [], alts := [], laidByText := true, laidKinds := [.data, .pinned], laidTests := true, laidLooks := .later }
def RunesPutsCardSaid : Prop := Claim7.holds Tryd.pinned (.plain (OpenSpec.ofChange runesPutsSpec)) runesPutsCard

/-- THE TIED CARD OF 'batonlaw08.RunesBytes'. -/
def runesBytesCard : Claim7 := { stood := { row := runesBytesRow, standIns := [], harness := (true, "9c14da3298f4390f0adcc096494d2760e7543079fb62c81bb6a36c7dfa0d35f8"), looks := false }, kinds := [], alts := [], laidByText := true, laidKinds := [.data, .pinned], laidTests := true, laidLooks := .later }
def RunesBytesCardSaid : Prop := Claim7.holds Tryd.pinned (.plain (OpenSpec.ofChange runesBytesSpec)) runesBytesCard

/-- THE TIED CARD OF 'batonlaw08.RunesTexts'. -/
def runesTextsCard : Claim7 := { stood := { row := runesTextsRow, standIns := [], harness := (true, "9c14da3298f4390f0adcc096494d2760e7543079fb62c81bb6a36c7dfa0d35f8"), looks := false }, kinds := [], alts := [], laidByText := true, laidKinds := [.data, .pinned], laidTests := true, laidLooks := .later }
def RunesTextsCardSaid : Prop := Claim7.holds Tryd.pinned (.plain (OpenSpec.ofChange runesTextsSpec)) runesTextsCard

/-- THE TIED CARD OF 'batonlaw08.RunesPieces'. -/
def runesPiecesCard : Claim7 := { stood := { row := runesPiecesRow, standIns := [], harness := (true, "9c14da3298f4390f0adcc096494d2760e7543079fb62c81bb6a36c7dfa0d35f8"), looks := false }, kinds := [], alts := [], laidByText := true, laidKinds := [.data, .pinned], laidTests := true, laidLooks := .later }
def RunesPiecesCardSaid : Prop := Claim7.holds Tryd.pinned (.plain (OpenSpec.ofChange runesPiecesSpec)) runesPiecesCard

/-- THE SECOND FORM's CARD OF 'batonlaw08.RunesPuts'. -/
def runesPutsUptoCard : Claim7 := { stood := { row := runesPutsUptoRow, standIns := [], harness := (true, "9c14da3298f4390f0adcc096494d2760e7543079fb62c81bb6a36c7dfa0d35f8"), looks := false }, kinds := [], alts := [], laidByText := true, laidKinds := [.data, .pinned], laidTests := true, laidLooks := .later }
def RunesPutsUptoCardSaid : Prop := Claim7.holds Tryd.pinned (.plain (OpenSpec.upto runesPutsSpec)) runesPutsUptoCard

/-- THE SECOND FORM's CARD OF 'batonlaw08.RunesBytes'. -/
def runesBytesUptoCard : Claim7 := { stood := { row := runesBytesUptoRow, standIns := [], harness := (true, "9c14da3298f4390f0adcc096494d2760e7543079fb62c81bb6a36c7dfa0d35f8"), looks := false }, kinds := [], alts := [], laidByText := true, laidKinds := [.data, .pinned], laidTests := true, laidLooks := .later }
def RunesBytesUptoCardSaid : Prop := Claim7.holds Tryd.pinned (.plain (OpenSpec.upto runesBytesSpec)) runesBytesUptoCard

/-- THE SECOND FORM's CARD OF 'batonlaw08.RunesTexts'. -/
def runesTextsUptoCard : Claim7 := { stood := { row := runesTextsUptoRow, standIns := [], harness := (true, "9c14da3298f4390f0adcc096494d2760e7543079fb62c81bb6a36c7dfa0d35f8"), looks := false }, kinds := [], alts := [], laidByText := true, laidKinds := [.data, .pinned], laidTests := true, laidLooks := .later }
def RunesTextsUptoCardSaid : Prop := Claim7.holds Tryd.pinned (.plain (OpenSpec.upto runesTextsSpec)) runesTextsUptoCard

/-- THE SECOND FORM's CARD OF 'batonlaw08.RunesPieces'. -/
def runesPiecesUptoCard : Claim7 := { stood := { row := runesPiecesUptoRow, standIns := [], harness := (true, "9c14da3298f4390f0adcc096494d2760e7543079fb62c81bb6a36c7dfa0d35f8"), looks := false }, kinds := [], alts := [], laidByText := true, laidKinds := [.data, .pinned], laidTests := true, laidLooks := .later }
def RunesPiecesUptoCardSaid : Prop := Claim7.holds Tryd.pinned (.plain (OpenSpec.upto runesPiecesSpec)) runesPiecesUptoCard
end Rows
end Go.Proofs.YtgkbgckpdkdngaaDoor
