/- The two tables of unicode/utf8 in memory, and how they are kept. Conditions: none. -/
import Derived.Test.YtdldffgdipedpaaDoorRuneFeed
import Derived.Test.YtdldffgdipedpaaDoorRegs
import Derived.Test.YtdldffgdipedpaaDoorShelf
namespace Go.Proofs.YtdldffgdipedpaaDoor
open Go.ChangeShapes Go.WideShapes Go.RowKit Go.Lib
/-- The two tables of unicode/utf8. -/
def Tabs (w : World) : Prop := Lib.Utf8Tabs 0 1 w
theorem Tabs.lt {w : World} (h : Tabs w) : 0 < w.heap.size ∧ 1 < w.heap.size := ⟨block_lt_of_cell (h.1 0 (by decide)), block_lt_of_cell (h.2 0 (by decide)).1⟩
theorem Tabs.keep {w w' : World} (h : Tabs w) (hb : Below w.heap.size w w') : Tabs w' :=
  ⟨fun c hc => (hb.cell h.lt.1).trans (h.1 c hc), fun i hi => ⟨(hb.cell h.lt.2).trans (h.2 i hi).1, (hb.cell h.lt.2).trans (h.2 i hi).2⟩⟩
theorem Tabs.of_heap {w w' : World} (h : Tabs w) (e : w'.heap = w.heap) : Tabs w' :=
  ⟨fun c hc => by rw [← h.1 c hc]; exact World.cell?_of_block (by rw [e]), fun i hi => ⟨by rw [← (h.2 i hi).1]; exact World.cell?_of_block (by rw [e]), by rw [← (h.2 i hi).2]; exact World.cell?_of_block (by rw [e])⟩⟩
theorem Tabs.only {w w' : World} {g : Nat} (h : Tabs w) (hg : w.grownBy w' (some g)) (h1 : g ≠ 0) (h2 : g ≠ 1) : Tabs w' := by
  have e1 := hg.block _ h.lt.1 (fun e => h1 (Option.some.inj e).symm)
  have e2 := hg.block _ h.lt.2 (fun e => h2 (Option.some.inj e).symm)
  exact ⟨fun c hc => by rw [← h.1 c hc]; exact World.cell?_of_block e1, fun i hi => ⟨by rw [← (h.2 i hi).1]; exact World.cell?_of_block e2, by rw [← (h.2 i hi).2]; exact World.cell?_of_block e2⟩⟩
end Go.Proofs.YtdldffgdipedpaaDoor
