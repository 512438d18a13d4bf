/- Plain words for the proofs on package cell: cells and runs as tuples of integers, which of them are valid, the runs of a list of cells and the cells of runs, how a run is written and read. Conditions: none; it speaks of no program. -/
import Derived.Test.YtdldffgdipedpaaDoorRec
namespace Go.Proofs.YtdldffgdipedpaaDoor
open Go.RowKit
/-- A cell: its rune, the two colours and the marks. -/
abbrev CellV : Type := Int × Int × Int × Int
/-- A run: how often, and the cell. -/
abbrev RunV : Type := Int × CellV
def penV (p : Int × Int × Int) : List Value := [.int .i64 p.1, .int .i64 p.2.1, .int .i64 p.2.2]
def cellV (c : CellV) : List Value := [.int .i32 c.1, .int .i64 c.2.1, .int .i64 c.2.2.1, .int .i64 c.2.2.2]
def runV (x : RunV) : List Value := [.int .i64 x.1, .int .i32 x.2.1, .int .i64 x.2.2.1, .int .i64 x.2.2.2.1, .int .i64 x.2.2.2.2]
theorem length_cellV (c : CellV) : (cellV c).length = 4 := rfl
theorem length_runV (x : RunV) : (runV x).length = 5 := rfl
theorem one_cellV (c : CellV) : ∀ v ∈ cellV c, v.oneCell' = true := by
  intro v hv
  simp only [cellV, List.mem_cons, List.not_mem_nil, or_false] at hv
  rcases hv with rfl | rfl | rfl | rfl <;> rfl
theorem one_runV (x : RunV) : ∀ v ∈ runV x, v.oneCell' = true := by
  intro v hv
  simp only [runV, List.mem_cons, List.not_mem_nil, or_false] at hv
  rcases hv with rfl | rfl | rfl | rfl | rfl <;> rfl
/-! ### What is valid -/
def penOk (p : Int × Int × Int) : Bool := decide (0 ≤ p.1 ∧ p.1 ≤ 256 ∧ 0 ≤ p.2.1 ∧ p.2.1 ≤ 256 ∧ 0 ≤ p.2.2 ∧ p.2.2 ≤ 127)
def signOk (r : Int) : Bool := decide (0 ≤ r ∧ r ≤ 1114111 ∧ (r < 55296 ∨ 57343 < r))
def runeOk (r : Int) : Bool := decide ((32 ≤ r ∧ r ≤ 126 ∨ 160 ≤ r) ∧ 0 ≤ r ∧ r ≤ 1114111 ∧ (r < 55296 ∨ 57343 < r))
def okC (c : CellV) : Bool := penOk c.2 && runeOk c.1
/-- Its parts fit their types. -/
def fitC (c : CellV) : Prop := (-2147483648 ≤ c.1 ∧ c.1 ≤ 2147483647) ∧ (-9223372036854775808 ≤ c.2.1 ∧ c.2.1 ≤ 9223372036854775807) ∧ (-9223372036854775808 ≤ c.2.2.1 ∧ c.2.2.1 ≤ 9223372036854775807) ∧ (-9223372036854775808 ≤ c.2.2.2 ∧ c.2.2.2 ≤ 9223372036854775807)
end Go.Proofs.YtdldffgdipedpaaDoor
