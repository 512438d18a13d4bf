/- What the reference's Same returns, for every two rows of bytes, as a walk through the translated text; what the program says of the type byte. Conditions: slices read as lists. -/
import Derived.Test.YtdldffgdipedpaaDoorChecked
import Derived.Test.YtdldffgdipedpaaDoorBase
namespace Go.Proofs.YtdldffgdipedpaaDoor
open Go.ChangeShapes Go.WideShapes Go.RowKit
theorem infoU8 : (Tryd.prog.info? 5).map (fun i => (i.zero, i.size, i.bytes)) = some (some (.int .u8 0), 1, 1) := by kernel_rfl

/-! ### Same -/
theorem take_same_succ {a b : List Nat} {j : Nat} (ha : j < a.length) (hb : j < b.length) (h : a.take j = b.take j) (e : a[j] = b[j]) : a.take (j + 1) = b.take (j + 1) := by
  rw [List.take_succ_eq_append_getElem ha, List.take_succ_eq_append_getElem hb, h, e]
end Go.Proofs.YtdldffgdipedpaaDoor
