/- Plain words for the proofs on package cell: the runs of a list of cells and the cells of runs. Conditions: none; it speaks of no program. -/
import Derived.Test.YtdldffgdipedpaaDoorCell0
namespace Go.Proofs.YtdldffgdipedpaaDoor
open Go.RowKit
/-! ### Runs of cells, cells of runs -/
/-- One more cell behind the cells of some runs. -/
def addRun (rs : List RunV) (c : CellV) : List RunV :=
  match rs.getLast? with
  | some x => if x.2 = c then rs.dropLast ++ [(x.1 + 1, c)] else rs ++ [(1, c)]
  | none => [(1, c)]
theorem addRun_nil (c : CellV) : addRun [] c = [(1, c)] := rfl
theorem addRun_same (rs : List RunV) (n : Int) (c : CellV) : addRun (rs ++ [(n, c)]) c = rs ++ [(n + 1, c)] := by simp [addRun]
theorem addRun_other (rs : List RunV) (n : Int) (c d : CellV) (h : d ≠ c) : addRun (rs ++ [(n, d)]) c = rs ++ [(n, d)] ++ [(1, c)] := by simp [addRun, h]
/-- The shortest list of runs of the cells l. -/
def runsL (l : List CellV) : List RunV := l.foldl addRun []
theorem runsL_snoc (l : List CellV) (c : CellV) : runsL (l ++ [c]) = addRun (runsL l) c := by simp [runsL]
theorem runsL_end (l : List CellV) (c : CellV) : ∃ rs, ∃ n : Nat, runsL (l ++ [c]) = rs ++ [((n : Int), c)] ∧ 1 ≤ n ∧ n ≤ l.length + 1 := by
  have key : ∀ k, ∀ l : List CellV, l.length = k → ∀ c, ∃ rs, ∃ n : Nat, runsL (l ++ [c]) = rs ++ [((n : Int), c)] ∧ 1 ≤ n ∧ n ≤ l.length + 1 := by
    intro k
    induction k with
    | zero =>
      intro l hl c
      have : l = [] := List.eq_nil_of_length_eq_zero hl
      subst this
      exact ⟨[], 1, rfl, by omega, by simp⟩
    | succ k ih =>
      intro l hl c
      obtain ⟨m, b, rfl⟩ : ∃ m b, l = m ++ [b] := ⟨l.dropLast, l.getLast (by intro e; subst e; simp at hl), (List.dropLast_concat_getLast _).symm⟩
      have hm : m.length = k := by simpa using hl
      obtain ⟨rs, n, e, h1, h2⟩ := ih m hm b
      rw [runsL_snoc, e]
      by_cases hbc : b = c
      · subst hbc
        rw [addRun_same]
        exact ⟨rs, n + 1, by simp, by omega, by simp; omega⟩
      · rw [addRun_other _ _ _ _ hbc]
        exact ⟨_, 1, rfl, by omega, by simp⟩
  exact key _ l rfl c
theorem runsL_len (l : List CellV) : (runsL l).length ≤ l.length := by
  have key : ∀ (l : List CellV) (rs : List RunV), (l.foldl addRun rs).length ≤ rs.length + l.length := by
    intro l
    induction l with
    | nil => intro rs; simp
    | cons c l ih =>
      intro rs
      rw [List.foldl_cons, List.length_cons]
      have h1 := ih (addRun rs c)
      have h2 : (addRun rs c).length ≤ rs.length + 1 := by
        unfold addRun
        cases h : rs.getLast? with
        | none => simp
        | some x =>
          simp only
          split
          · simp
          · simp
      omega
  have := key l []
  simpa [runsL] using this
/-- The cells of runs. -/
def cellsL (rs : List RunV) : List CellV := rs.flatMap fun x => List.replicate x.1.toNat x.2
theorem cellsL_snoc (rs : List RunV) (x : RunV) : cellsL (rs ++ [x]) = cellsL rs ++ List.replicate x.1.toNat x.2 := by simp [cellsL]
theorem cells_runs (l : List CellV) : cellsL (runsL l) = l := by
  have key : ∀ k, ∀ l : List CellV, l.length = k → cellsL (runsL l) = l := by
    intro k
    induction k with
    | zero =>
      intro l hl
      have : l = [] := List.eq_nil_of_length_eq_zero hl
      subst this
      rfl
    | succ k ih =>
      intro l hl
      obtain ⟨m, c, rfl⟩ : ∃ m b, l = m ++ [b] := ⟨l.dropLast, l.getLast (by intro e; subst e; simp at hl), (List.dropLast_concat_getLast _).symm⟩
      have hm : m.length = k := by simpa using hl
      have h0 := ih m hm
      rw [runsL_snoc]
      rcases List.eq_nil_or_concat m with rfl | ⟨m', b, rfl⟩
      · rfl
      · rw [List.concat_eq_append] at *
        obtain ⟨rs, n, e, h1, h2⟩ := runsL_end m' b
        rw [e] at h0 ⊢
        by_cases hbc : b = c
        · subst hbc
          rw [addRun_same, cellsL_snoc]
          rw [cellsL_snoc] at h0
          rw [← h0, List.append_assoc]
          congr 1
          rw [show ((n : Int) + 1).toNat = (n : Int).toNat + 1 by omega, List.replicate_succ']
        · rw [addRun_other _ _ _ _ hbc, cellsL_snoc, h0]
          rfl
  exact key _ l rfl
end Go.Proofs.YtdldffgdipedpaaDoor
