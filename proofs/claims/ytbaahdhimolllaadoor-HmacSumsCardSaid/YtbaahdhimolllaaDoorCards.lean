/-
  DERIVED. GIVEN WITH THE SEED: THE CARDS: each row of YtbaahdhimolllaaDoorRows.lean that lists a variable, with what it lists TIED to the program's text (the seventh form; the later family's looks); each row that meets fmt, with fmt's text TOLD by the authors' own Lean function (tested against real Go, not proved from fmt's source: count such statements apart). THE CARD IS WHAT COUNTS. Prove the row's statement (the work); the ties are given (YtbaahdhimolllaaDoorTie.lean); close each card by the builder's one call (the guide's Derived/Test/ToyasCard.lean, 'card_holds'). Laid BY PROGRAM, IN A SANDBOX (cutbox-door.mjs). By AI agents, Wed Nov 11 2026. No macro, syntax, notation, axiom, sorry.
-/
import Derived.Test.YtbaahdhimolllaaDoorRows
import GoSem.ClaimSeven
namespace Go.Proofs.YtbaahdhimolllaaDoor
namespace Rows

/-- THE TIED CARD OF 'batonlaw03.HmacSums'. -/
def hmacSumsCard : Claim7 := { stood := { row := hmacSumsRow, standIns := [], harness := (true, "118dd15b33b510ad56d4be40369cdf06f60ddcb087ff5abfc1cb06a867f0b8d0"), looks := false }, kinds := [], alts := [], laidByText := true, laidKinds := [.data], laidTests := true, laidLooks := .later }
def HmacSumsCardSaid : Prop := Claim7.holds Tryd.pinned (.plain (OpenSpec.ofChange hmacSumsSpec)) hmacSumsCard

/-- THE TIED CARD OF 'batonlaw03.HmacOwn'. -/
def hmacOwnCard : Claim7 := { stood := { row := hmacOwnRow, standIns := [], harness := (true, "118dd15b33b510ad56d4be40369cdf06f60ddcb087ff5abfc1cb06a867f0b8d0"), looks := false }, kinds := [], alts := [], laidByText := true, laidKinds := [.data], laidTests := true, laidLooks := .later }
def HmacOwnCardSaid : Prop := Claim7.holds Tryd.pinned (.plain (OpenSpec.ofChange hmacOwnSpec)) hmacOwnCard

/-- THE TIED CARD OF 'batonlaw03.HmacChecks'. -/
def hmacChecksCard : Claim7 := { stood := { row := hmacChecksRow, standIns := [], harness := (true, "118dd15b33b510ad56d4be40369cdf06f60ddcb087ff5abfc1cb06a867f0b8d0"), looks := false }, kinds := [], alts := [], laidByText := true, laidKinds := [.data], laidTests := true, laidLooks := .later }
def HmacChecksCardSaid : Prop := Claim7.holds Tryd.pinned (.plain (OpenSpec.ofChange hmacChecksSpec)) hmacChecksCard

/-- THE SECOND FORM's CARD OF 'batonlaw03.HmacSums'. -/
def hmacSumsUptoCard : Claim7 := { stood := { row := hmacSumsUptoRow, standIns := [], harness := (true, "118dd15b33b510ad56d4be40369cdf06f60ddcb087ff5abfc1cb06a867f0b8d0"), looks := false }, kinds := [], alts := [], laidByText := true, laidKinds := [.data], laidTests := true, laidLooks := .later }
def HmacSumsUptoCardSaid : Prop := Claim7.holds Tryd.pinned (.plain (OpenSpec.upto hmacSumsSpec)) hmacSumsUptoCard

/-- THE SECOND FORM's CARD OF 'batonlaw03.HmacOwn'. -/
def hmacOwnUptoCard : Claim7 := { stood := { row := hmacOwnUptoRow, standIns := [], harness := (true, "118dd15b33b510ad56d4be40369cdf06f60ddcb087ff5abfc1cb06a867f0b8d0"), looks := false }, kinds := [], alts := [], laidByText := true, laidKinds := [.data], laidTests := true, laidLooks := .later }
def HmacOwnUptoCardSaid : Prop := Claim7.holds Tryd.pinned (.plain (OpenSpec.upto hmacOwnSpec)) hmacOwnUptoCard

/-- THE SECOND FORM's CARD OF 'batonlaw03.HmacChecks'. -/
def hmacChecksUptoCard : Claim7 := { stood := { row := hmacChecksUptoRow, standIns := [], harness := (true, "118dd15b33b510ad56d4be40369cdf06f60ddcb087ff5abfc1cb06a867f0b8d0"), looks := false }, kinds := [], alts := [], laidByText := true, laidKinds := [.data], laidTests := true, laidLooks := .later }
def HmacChecksUptoCardSaid : Prop := Claim7.holds Tryd.pinned (.plain (OpenSpec.upto hmacChecksSpec)) hmacChecksUptoCard
end Rows
end Go.Proofs.YtbaahdhimolllaaDoor
