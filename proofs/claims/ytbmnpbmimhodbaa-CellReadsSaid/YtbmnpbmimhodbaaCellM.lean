/- Plain words for the proofs on package cell: no two runs side by side are of one cell, and where the cells of a run lie. Conditions: none; it speaks of no program. -/
import Derived.Test.YtbmnpbmimhodbaaCellL
namespace Go.Proofs.Ytbmnpbmimhodbaa
open Go.RowKit
/-! ### No two runs side by side are of one cell -/
/-- The cell of the last run, or p where there is none. -/
def lastC (p : Option CellV) (xs : List RunV) : Option CellV := match xs.getLast? with | some x => some x.2 | none => p
/-- No run has the cell of the one before it; p: the cell before them all. -/
def chainP : Option CellV → List RunV → Prop
  | _, [] => True
  | p, x :: xs => p ≠ some x.2 ∧ chainP (some x.2) xs
theorem lastC_nil (p : Option CellV) : lastC p [] = p := rfl
theorem lastC_snoc (p : Option CellV) (xs : List RunV) (x : RunV) : lastC p (xs ++ [x]) = some x.2 := by simp [lastC]
theorem lastC_cons (p : Option CellV) (x : RunV) (xs : List RunV) : lastC p (x :: xs) = lastC (some x.2) xs := by
  cases xs with
  | nil => rfl
  | cons y ys =>
    unfold lastC
    rw [List.getLast?_cons_cons]
    cases h : (y :: ys).getLast? with
    | none => simp at h
    | some z => rfl
theorem chain_append (p : Option CellV) (xs ys : List RunV) : chainP p (xs ++ ys) ↔ chainP p xs ∧ chainP (lastC p xs) ys := by
  induction xs generalizing p with
  | nil => simp [chainP, lastC]
  | cons x xs ih => rw [List.cons_append, chainP, chainP, ih, lastC_cons, and_assoc]
theorem chain_one (p : Option CellV) (x : RunV) : chainP p [x] ↔ p ≠ some x.2 := by simp [chainP]
theorem runs_good (l : List CellV) : (∀ x ∈ runsL l, 1 ≤ x.1) ∧ chainP none (runsL l) := by
  have step : ∀ (rs : List RunV) (c : CellV), ((∀ x ∈ rs, 1 ≤ x.1) ∧ chainP none rs) → ((∀ x ∈ addRun rs c, 1 ≤ x.1) ∧ chainP none (addRun rs c)) := by
    intro rs c ⟨h1, h2⟩
    rcases List.eq_nil_or_concat rs with rfl | ⟨m, b, rfl⟩
    · rw [addRun_nil]
      exact ⟨by simp, by simp [chainP]⟩
    · rw [List.concat_eq_append] at *
      obtain ⟨k, d⟩ := b
      by_cases hd : d = c
      · subst hd
        rw [addRun_same]
        rw [chain_append, chain_one] at h2 ⊢
        refine ⟨fun x hx => ?_, h2⟩
        rcases List.mem_append.1 hx with hx | hx
        · exact h1 x (List.mem_append_left _ hx)
        · have h3 := h1 (k, d) (by simp)
          simp only [List.mem_singleton] at hx
          subst hx
          simp only at h3 ⊢
          omega
      · rw [addRun_other _ _ _ _ hd]
        refine ⟨fun x hx => ?_, ?_⟩
        · rcases List.mem_append.1 hx with hx | hx
          · exact h1 x hx
          · simp only [List.mem_singleton] at hx
            subst hx
            simp
        · rw [chain_append, chain_one, lastC_snoc]
          exact ⟨h2, fun e => hd (Option.some.inj e)⟩
  have key : ∀ (l : List CellV) (rs : List RunV), ((∀ x ∈ rs, 1 ≤ x.1) ∧ chainP none rs) → ((∀ x ∈ l.foldl addRun rs, 1 ≤ x.1) ∧ chainP none (l.foldl addRun rs)) := by
    intro l
    induction l with
    | nil => intro rs h; exact h
    | cons c l ih => intro rs h; exact ih _ (step rs c h)
  exact key l [] ⟨by simp, trivial⟩
theorem chain_at {rs : List RunV} (h : chainP none rs) (i : Nat) (hi : i + 1 < rs.length) : rs[i + 1].2 ≠ rs[i].2 := by
  have e : rs = rs.take (i + 1) ++ (rs[i + 1] :: rs.drop (i + 1 + 1)) := by
    rw [← List.drop_eq_getElem_cons hi, List.take_append_drop]
  rw [e, chain_append, chainP] at h
  have h2 := h.2.1
  rw [List.take_succ_eq_append_getElem (show i < rs.length by omega), lastC_snoc] at h2
  exact fun e => h2 (by rw [e])
theorem cellsL_append (a b : List RunV) : cellsL (a ++ b) = cellsL a ++ cellsL b := by simp [cellsL]
theorem cellsL_cons (x : RunV) (b : List RunV) : cellsL (x :: b) = List.replicate x.1.toNat x.2 ++ cellsL b := by simp [cellsL]
/-- The cells of run i of the runs of l lie one behind the other in l. -/
theorem cellsL_split (rs : List RunV) (i : Nat) (hi : i < rs.length) : cellsL rs = cellsL (rs.take i) ++ (List.replicate rs[i].1.toNat rs[i].2 ++ cellsL (rs.drop (i + 1))) := by
  rw [← cellsL_cons, ← List.drop_eq_getElem_cons hi, ← cellsL_append, List.take_append_drop]
theorem cellsL_at (rs : List RunV) (i k : Nat) (hi : i < rs.length) (hk : k < rs[i].1.toNat) : (cellsL rs)[(cellsL (rs.take i)).length + k]? = some rs[i].2 := by
  rw [cellsL_split rs i hi, List.getElem?_append_right (by omega), Nat.add_sub_cancel_left, List.getElem?_append_left (by simpa using hk), List.getElem?_replicate, if_pos hk]
theorem cellsL_room (rs : List RunV) (i : Nat) (hi : i < rs.length) : (cellsL (rs.take i)).length + rs[i].1.toNat ≤ (cellsL rs).length := by
  have h := congrArg List.length (cellsL_split rs i hi)
  simp only [List.length_append, List.length_replicate] at h
  omega
end Go.Proofs.Ytbmnpbmimhodbaa
