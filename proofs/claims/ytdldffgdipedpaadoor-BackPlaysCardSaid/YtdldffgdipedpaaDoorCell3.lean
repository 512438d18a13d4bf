/- The cells of runs, as a walk through the translated text. Conditions: slices read as lists of runs, at most 2^40 cells are made. -/
import Derived.Test.YtdldffgdipedpaaDoorCell2
namespace Go.Proofs.YtdldffgdipedpaaDoor
open Go.ChangeShapes Go.WideShapes Go.RowKit
/-- The five cells of a run, as walks spell them. -/
theorem five {w : World} {p : Addr} {x : RunV} (h : ∀ j u, (runV x)[j]? = some u → w.cell? (p.add j) = some u) :
    w.cell? p = some (.int .i64 x.1) ∧ w.cell? ⟨p.block, p.off + 1, none⟩ = some (.int .i32 x.2.1) ∧ w.cell? ⟨p.block, p.off + 2, none⟩ = some (.int .i64 x.2.2.1) ∧ w.cell? ⟨p.block, p.off + 3, none⟩ = some (.int .i64 x.2.2.2.1) ∧ w.cell? ⟨p.block, p.off + 4, none⟩ = some (.int .i64 x.2.2.2.2) :=
  ⟨h 0 _ rfl, h 1 _ rfl, h 2 _ rfl, h 3 _ rfl, h 4 _ rfl⟩
theorem fiveB {w : World} {g : Nat} {t : TypeId} {x : RunV} (h : Blk w g t (runV x)) :
    w.cell? ⟨g, 0, none⟩ = some (.int .i64 x.1) ∧ w.cell? ⟨g, 1, none⟩ = some (.int .i32 x.2.1) ∧ w.cell? ⟨g, 2, none⟩ = some (.int .i64 x.2.2.1) ∧ w.cell? ⟨g, 3, none⟩ = some (.int .i64 x.2.2.2.1) ∧ w.cell? ⟨g, 4, none⟩ = some (.int .i64 x.2.2.2.2) :=
  ⟨h.cell 0, h.cell 1, h.cell 2, h.cell 3, h.cell 4⟩
theorem fourB {w : World} {g : Nat} {t : TypeId} {x : CellV} (h : Blk w g t (cellV x)) :
    w.cell? ⟨g, 0, none⟩ = some (.int .i32 x.1) ∧ w.cell? ⟨g, 1, none⟩ = some (.int .i64 x.2.1) ∧ w.cell? ⟨g, 2, none⟩ = some (.int .i64 x.2.2.1) ∧ w.cell? ⟨g, 3, none⟩ = some (.int .i64 x.2.2.2) :=
  ⟨h.cell 0, h.cell 1, h.cell 2, h.cell 3⟩
theorem cellsL_take (rs : List RunV) (j : Nat) (h : j < rs.length) : cellsL (rs.take (j + 1)) = cellsL (rs.take j) ++ List.replicate rs[j].1.toNat rs[j].2 := by
  rw [List.take_succ_eq_append_getElem h, cellsL_snoc]
theorem cellsL_take_le (rs : List RunV) (j : Nat) : (cellsL (rs.take j)).length ≤ (cellsL rs).length := by
  have h : cellsL rs = cellsL (rs.take j) ++ cellsL (rs.drop j) := by
    unfold cellsL
    rw [← List.flatMap_append, List.take_append_drop]
  rw [h, List.length_append]; omega
end Go.Proofs.YtdldffgdipedpaaDoor
