/- Plain words for the proofs on package cell: what Write writes is read back by Read, whatever follows. Conditions: the cells are valid. -/
import Derived.Test.YtbmnpbmimhodbaaCellW
import Derived.Test.YtbmnpbmimhodbaaCellR2
namespace Go.Proofs.Ytbmnpbmimhodbaa
open Go.RowKit
theorem numberR_back (m : Nat) (r : List Nat) (h : m < 72057594037927936) : numberR (numL m ++ r, 0) = (m, (r, 0)) := by
  unfold numberR
  rw [if_pos rfl, readL_back m r h]
  rfl
theorem readRunR_back {x : RunV} (h : okR x) (h1 : x.2.1 ≤ 1114112) (r : List Nat) : readRunR (runB x ++ r, 0) = (x, (r, 0)) := by
  have e : ∀ n ∈ numsR x, n.toNat < 72057594037927936 ∧ ((n.toNat : Nat) : Int) = n := fun n hn => ⟨by have := (h n hn).2; have := (h n hn).1; omega, Int.toNat_of_nonneg (h n hn).1⟩
  simp only [numsR, List.mem_cons, List.not_mem_nil, or_false, forall_eq_or_imp, forall_eq] at e
  obtain ⟨e0, e1, e2, e3, e4⟩ := e
  unfold readRunR
  rw [runB_eq]
  simp only [List.append_assoc]
  rw [numberR_back _ _ e0.1]
  simp only
  rw [numberR_back _ _ e1.1]
  simp only
  rw [numberR_back _ _ e2.1]
  simp only
  rw [numberR_back _ _ e3.1]
  simp only
  rw [numberR_back _ _ e4.1]
  simp only [e0.2, e1.2, e2.2, e3.2, e4.2]
  rw [Int.min_eq_left h1]
theorem readC_back : ∀ (rs : List RunV) (acc : List RunV) (k : Nat) (n : Int) (b : List Nat), chainP (lastC none acc) rs → (∀ x ∈ rs, okR x ∧ okC x.2 = true ∧ 1 ≤ x.1) → n = ((cellsL rs).length : Int) → n.toNat ≤ k →
    readC k n acc (rs.flatMap runB ++ b, 0) = (acc ++ rs, (b, 0)) := by
  intro rs
  induction rs with
  | nil =>
    intro acc k n b _ _ hn _
    rw [readC_end k n acc _ (by rw [hn]; simp [cellsL])]
    simp
  | cons x rs ih =>
    intro acc k n b hc hok hn hk
    obtain ⟨h1, h2, h3⟩ := hok x (by simp)
    rw [cellsL_cons, List.length_append, List.length_replicate] at hn
    have hn0 : 0 < n := by omega
    obtain ⟨k, rfl⟩ : ∃ q, k = q + 1 := ⟨k - 1, by omega⟩
    have hr := readRunR_back h1 (by simp only [okC, runeOk, Bool.and_eq_true, decide_eq_true_eq] at h2; omega) (rs.flatMap runB ++ b)
    rw [← List.append_assoc, ← List.flatMap_cons] at hr
    have hb : badR n acc x = false := by
      simp only [badR, h2, Bool.not_true, Bool.or_false, Bool.or_eq_false_iff, beq_eq_false_iff_ne, decide_eq_false_iff_not]
      exact ⟨⟨by omega, by omega⟩, hc.1⟩
    rw [readC_next k n acc _ hn0 (by rw [hr]) (by rw [hr]; exact hb), hr]
    simp only
    rw [ih (acc ++ [x]) k (n - x.1) b (by rw [lastC_snoc]; exact hc.2) (fun y hy => hok y (by simp [hy])) (by omega) (by omega), List.append_assoc]
    rfl
theorem readC_cells (l : List CellV) (b : List Nat) (h : l.all okC = true) (hl : l.length ≤ 1073741824) : readC (l.length : Int).toNat (l.length : Int) [] ((runsL l).flatMap runB ++ b, 0) = (runsL l, (b, 0)) := by
  have hg := runs_good l
  have := readC_back (runsL l) [] (l.length : Int).toNat (l.length : Int) b hg.2 (fun x hx => ?_) (by rw [cells_runs]) (Nat.le_refl _)
  · simpa using this
  · rcases runs_cell l x hx with ⟨h1, h2⟩ | h1
    · have h3 := List.all_eq_true.1 h _ h1
      exact ⟨okR_of h2 h3, h3, hg.1 x hx⟩
    · omega
end Go.Proofs.Ytbmnpbmimhodbaa
