/- Plain words for the proofs on the reference's Read of layer 9: the five numbers of a run one by one. Conditions: none; what it says of the program is what the texts before say. -/
import Derived.Test.YtbmnpbmimhodbaaCellR2
import Derived.Test.YtbmnpbmimhodbaaCodecR
namespace Go.Proofs.Ytbmnpbmimhodbaa
open Go.RowKit
/-- What is left behind t numbers. -/
def stN : Nat → List Nat × Int → List Nat × Int
  | 0, s => s
  | t + 1, s => (numberR (stN t s)).2
def numN (t : Nat) (s : List Nat × Int) : Nat := (numberR (stN t s)).1
def fiveN (s : List Nat × Int) : List Nat := [numN 0 s, numN 1 s, numN 2 s, numN 3 s, numN 4 s]
theorem readRunR_stN (s : List Nat × Int) : readRunR s = (((numN 0 s : Int), min (numN 1 s : Int) 1114112, (numN 2 s : Int), (numN 3 s : Int), (numN 4 s : Int)), stN 5 s) := rfl
theorem fiveN_at (s : List Nat × Int) (t : Nat) (h : t < 5) : (fiveN s)[t]'h = numN t s := by
  match t, h with
  | 0, _ => rfl
  | 1, _ => rfl
  | 2, _ => rfl
  | 3, _ => rfl
  | 4, _ => rfl
theorem stN_err (s : List Nat × Int) (t k : Nat) (h : (stN t s).2 ≠ 0) : stN (t + k) s = stN t s := by
  induction k with
  | zero => rfl
  | succ k ih =>
    show (numberR (stN (t + k) s)).2 = _
    rw [ih]
    unfold numberR
    rw [if_neg h]
theorem numberR_of {b : List Nat} {E N : Nat} {r : List Nat} (h : readL b = (E, N, r)) : numberR (b, 0) = (N, (r, (E : Int))) := by
  unfold numberR
  rw [if_pos rfl, h]
/-- The last cell of runs, none of which is empty. -/
theorem cells_last (acc : List RunV) (h : ∀ x ∈ acc, 1 ≤ x.1) : (cellsL acc).getLast? = lastC none acc := by
  rcases List.eq_nil_or_concat acc with rfl | ⟨m, y, rfl⟩
  · rfl
  · rw [List.concat_eq_append] at *
    have h1 := h y (by simp)
    obtain ⟨k, hk⟩ : ∃ k, y.1.toNat = k + 1 := ⟨y.1.toNat - 1, by omega⟩
    rw [cellsL_snoc, lastC_snoc, hk, List.replicate_succ', ← List.append_assoc]
    simp
theorem readL_err_rest (b : List Nat) (E N : Nat) (r : List Nat) (h : readL b = (E, N, r)) (hE : E ≠ 0) : r = [] := by
  have := numR_err 8 0 0 b (by show (readL b).1 ≠ 0; rw [h]; exact hE)
  have h2 : (readL b).2 = (0, []) := this
  rw [h] at h2
  exact (Prod.mk.inj h2).2
end Go.Proofs.Ytbmnpbmimhodbaa
