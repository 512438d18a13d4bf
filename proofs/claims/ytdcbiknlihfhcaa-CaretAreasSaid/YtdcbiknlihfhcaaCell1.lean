/- What the functions of package cell on one cell do, and the reference's, as walks through the translated text. Conditions: the cell's parts fit their types. -/
import Derived.Test.YtdcbiknlihfhcaaCell0
import Derived.Laws.StructEq
import Derived.Test.YtdcbiknlihfhcaaSame
namespace Go.Proofs.Ytdcbiknlihfhcaa
open Go.ChangeShapes Go.WideShapes Go.RowKit
theorem alloc_below' (w : World) (o : Obj) : Below w.heap.size w (w.alloc o) := (Below.refl _ _).alloc (Nat.le_refl _) o
def BoolPost (w : World) (b : Bool) (en : Ending) (w' : World) : Prop := en = .returned (.bool b) ∧ Below w.heap.size w w'
end Go.Proofs.Ytdcbiknlihfhcaa
