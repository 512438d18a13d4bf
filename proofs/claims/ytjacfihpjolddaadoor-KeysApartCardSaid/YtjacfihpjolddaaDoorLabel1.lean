/- Plain words on the encoding of lists of strings, and what few and same of the statements of layer 4 and firstLength of package label return, as a walk through the translated text. Conditions: slices read as lists, slices of slices as lists of lists. -/
import Derived.Test.YtjacfihpjolddaaDoorWordB
import Derived.Test.YtjacfihpjolddaaDoorRegs
namespace Go.Proofs.YtjacfihpjolddaaDoor
open Go.ChangeShapes Go.WideShapes Go.RowKit

/-! ### The encoding -/
/-- Each part behind its length. -/
def bodyL (ls : List (List Nat)) : List Nat := ls.flatMap fun l => bytes4 l.length ++ l
/-- Join. -/
def joinL (ls : List (List Nat)) : List Nat := ls.length % 256 :: bodyL ls
theorem bodyL_cons (l : List Nat) (ls : List (List Nat)) : bodyL (l :: ls) = bytes4 l.length ++ (l ++ bodyL ls) := by simp [bodyL]
theorem bodyL_succ (ls : List (List Nat)) (j : Nat) (h : j < ls.length) : bodyL (ls.take (j + 1)) = bodyL (ls.take j) ++ bytes4 ls[j].length ++ ls[j] := by
  rw [List.take_succ_eq_append_getElem h, bodyL, List.flatMap_append]; simp [bodyL]
theorem bodyL_take_le (ls : List (List Nat)) (j : Nat) : (bodyL (ls.take j)).length ≤ (bodyL ls).length := by
  have h : bodyL ls = bodyL (ls.take j) ++ bodyL (ls.drop j) := by unfold bodyL; rw [← List.flatMap_append, List.take_append_drop]
  rw [h, List.length_append]; omega
theorem bodyL_len (ls : List (List Nat)) (m : Nat) (h : ∀ l ∈ ls, l.length ≤ m) : (bodyL ls).length ≤ ls.length * (4 + m) := by
  induction ls with
  | nil => simp [bodyL]
  | cons l ls ih =>
    have h1 := ih (fun x hx => h x (by simp [hx]))
    have h2 := h l (by simp)
    rw [bodyL_cons, List.length_append, List.length_append, length_bytes4, List.length_cons, Nat.succ_mul]
    omega
theorem bodyL_lt (ls : List (List Nat)) (h : ∀ l ∈ ls, ∀ x ∈ l, x < 256) : ∀ x ∈ bodyL ls, x < 256 := by
  intro x hx
  obtain ⟨l, hl, hx⟩ := List.mem_flatMap.1 hx
  rcases List.mem_append.1 hx with hx | hx
  · exact bytes4_lt _ x hx
  · exact h l hl x hx
theorem joinL_lt (ls : List (List Nat)) (h : ∀ l ∈ ls, ∀ x ∈ l, x < 256) : ∀ x ∈ joinL ls, x < 256 := by
  intro x hx
  rcases List.mem_cons.1 hx with rfl | hx
  · exact Nat.mod_lt _ (by decide)
  · exact bodyL_lt ls h x hx
theorem putL4 (x : Nat) : putL x 4 = bytes4 x := by
  simp [putL, bytes4, List.range_succ]

/-- One part more ahead of what has been split. -/
def consS (l : List Nat) (r : Nat × List (List Nat)) : Nat × List (List Nat) := if r.1 = 0 then (0, l :: r.2) else (r.1, [])
/-- The parts done, ahead of what has been split. -/
def preS (d : List (List Nat)) (r : Nat × List (List Nat)) : Nat × List (List Nat) := if r.1 = 0 then (0, d ++ r.2) else (r.1, [])
/-- The length of the part that stands first, and 0 or the error. -/
def firstL (b : List Nat) : Nat × Nat := if b.length < 4 then (0, 4) else if 1048576 < be (b.take 4) then (0, 22) else if b.length - 4 < be (b.take 4) then (0, 4) else (be (b.take 4), 0)
def splitB : Nat → List Nat → Nat × List (List Nat)
  | 0, b => if b.length = 0 then (0, []) else (5, [])
  | n + 1, b => if (firstL b).2 ≠ 0 then ((firstL b).2, []) else consS ((b.drop 4).take (firstL b).1) (splitB n (b.drop (4 + (firstL b).1)))
/-- Split: 0 and the parts, or the error. -/
def splitL : List Nat → Nat × List (List Nat)
  | [] => (4, [])
  | x :: b => if 64 < x then (2, []) else splitB x b
theorem preS_cons (d : List (List Nat)) (l : List Nat) (r : Nat × List (List Nat)) : preS d (consS l r) = preS (d ++ [l]) r := by
  unfold preS consS
  by_cases h : r.1 = 0 <;> simp [h]
theorem splitB_err (n : Nat) (b : List Nat) : (splitB n b).1 ≠ 0 → (splitB n b).2 = [] := by
  cases n with
  | zero => unfold splitB; split <;> simp
  | succ n => unfold splitB consS; repeat' split
              all_goals simp
theorem preS_nil (n : Nat) (b : List Nat) : preS [] (splitB n b) = splitB n b := by
  unfold preS
  by_cases h : (splitB n b).1 = 0
  · rw [if_pos h]; exact Prod.ext h.symm rfl
  · rw [if_neg h]; exact Prod.ext rfl (splitB_err n b h).symm
theorem preS_err (d : List (List Nat)) (n : Nat) (b : List Nat) (e : Nat) (he : (firstL b).2 = e) (h0 : e ≠ 0) : preS d (splitB (n + 1) b) = (e, []) := by
  subst he
  rw [splitB, if_pos h0, preS, if_neg h0]
theorem preS_next (d : List (List Nat)) (n : Nat) (b : List Nat) (m : Nat) (h : firstL b = (m, 0)) : preS d (splitB (n + 1) b) = preS (d ++ [(b.drop 4).take m]) (splitB n (b.drop (4 + m))) := by
  rw [splitB, h, if_neg (by simp), preS_cons]
theorem preS_end (d : List (List Nat)) (b : List Nat) (h : b.length = 0) : preS d (splitB 0 b) = (0, d) := by
  rw [splitB, if_pos h, preS, if_pos rfl, List.append_nil]
theorem preS_long (d : List (List Nat)) (b : List Nat) (h : b.length ≠ 0) : preS d (splitB 0 b) = (5, []) := by
  rw [splitB, if_neg h, preS, if_neg (by decide)]
theorem firstL_ok {b : List Nat} {m : Nat} (h : firstL b = (m, 0)) : 4 + m ≤ b.length ∧ m ≤ 1048576 ∧ be (b.take 4) = m := by
  unfold firstL at h
  split at h
  · simp at h
  · split at h
    · simp at h
    · split at h
      · simp at h
      · simp only [Prod.mk.injEq, and_true] at h
        omega
theorem splitB_body (ls : List (List Nat)) (h : ∀ l ∈ ls, l.length ≤ 1048576) : splitB ls.length (bodyL ls) = (0, ls) := by
  induction ls with
  | nil => rfl
  | cons l ls ih =>
    have h2 := h l (by simp)
    have ht : (bodyL (l :: ls)).take 4 = bytes4 l.length := by
      rw [bodyL_cons, List.take_append_of_le_length (Nat.le_of_eq (length_bytes4 _).symm), List.take_of_length_le (Nat.le_of_eq (length_bytes4 _))]
    have hb := be_bytes4 l.length (by omega)
    have hlen : (bodyL (l :: ls)).length = 4 + l.length + (bodyL ls).length := by
      rw [bodyL_cons, List.length_append, List.length_append, length_bytes4]; omega
    have hf : firstL (bodyL (l :: ls)) = (l.length, 0) := by
      unfold firstL
      rw [ht, hb, if_neg (by omega), if_neg (by omega), if_neg (by omega)]
    have hd : (bodyL (l :: ls)).drop 4 = l ++ bodyL ls := by
      rw [bodyL_cons, List.drop_append_of_le_length (Nat.le_of_eq (length_bytes4 _).symm), List.drop_of_length_le (Nat.le_of_eq (length_bytes4 _)), List.nil_append]
    have hd2 : (bodyL (l :: ls)).drop (4 + l.length) = bodyL ls := by
      rw [← List.drop_drop, hd, List.drop_left]
    rw [List.length_cons, splitB, hf, if_neg (by simp)]
    simp only
    rw [hd2, hd, List.take_left, ih (fun x hx => h x (by simp [hx]))]
    rfl
theorem split_join (ls : List (List Nat)) (hn : ls.length ≤ 64) (h : ∀ l ∈ ls, l.length ≤ 1048576) : splitL (joinL ls) = (0, ls) := by
  rw [joinL, splitL, Nat.mod_eq_of_lt (by omega), if_neg (by omega), splitB_body ls h]
theorem joinL_inj (a b : List (List Nat)) (ha : a.length ≤ 64) (hb : b.length ≤ 64) (hla : ∀ l ∈ a, l.length ≤ 1048576) (hlb : ∀ l ∈ b, l.length ≤ 1048576) : joinL a = joinL b ↔ a = b := by
  constructor
  · intro e
    have h1 := split_join a ha hla
    rw [e, split_join b hb hlb] at h1
    exact (Prod.mk.inj h1).2.symm
  · rintro rfl; rfl
theorem body_split (n : Nat) : ∀ (b : List Nat) (ls : List (List Nat)), (∀ x ∈ b, x < 256) → splitB n b = (0, ls) → bodyL ls = b ∧ ls.length = n ∧ ∀ l ∈ ls, l.length ≤ 1048576 := by
  induction n with
  | zero =>
    intro b ls _ h
    unfold splitB at h
    split at h
    · rename_i hb
      simp only [Prod.mk.injEq, true_and] at h
      subst h
      exact ⟨(List.eq_nil_of_length_eq_zero hb).symm, rfl, by simp⟩
    · simp at h
  | succ n ih =>
    intro b ls hx h
    unfold splitB at h
    split at h
    · rename_i hne
      simp only [Prod.mk.injEq] at h
      exact absurd h.1 hne
    · rename_i hz
      have hz' : (firstL b).2 = 0 := by omega
      obtain ⟨m, hm⟩ : ∃ m, firstL b = (m, 0) := ⟨_, Prod.ext rfl hz'⟩
      rw [hm] at h
      simp only at h
      obtain ⟨h1, h2, h3⟩ := firstL_ok hm
      unfold consS at h
      split at h
      · rename_i h0
        simp only [Prod.mk.injEq, true_and] at h
        subst h
        obtain ⟨r1, r2, r3⟩ := ih (b.drop (4 + m)) (splitB n (b.drop (4 + m))).2 (fun x hx' => hx x (List.mem_of_mem_drop hx')) (Prod.ext h0 rfl)
        have hl : ((b.drop 4).take m).length = m := by rw [List.length_take, List.length_drop]; omega
        refine ⟨?_, by simp [r2], ?_⟩
        · rw [bodyL_cons, hl, r1, ← List.drop_drop, List.take_append_drop]
          have h4 : bytes4 m = b.take 4 := by
            rcases b with _ | ⟨p, _ | ⟨q, _ | ⟨r, _ | ⟨s, t⟩⟩⟩⟩
            · simp at h1
            · simp at h1; omega
            · simp at h1; omega
            · simp at h1; omega
            · rw [← h3]
              exact bytes4_be p q r s (hx p (by simp)) (hx q (by simp)) (hx r (by simp)) (hx s (by simp))
          rw [h4, List.take_append_drop]
        · intro l hl'
          rcases List.mem_cons.1 hl' with rfl | hl'
          · omega
          · exact r3 l hl'
      · rename_i h0
        simp only [Prod.mk.injEq] at h
        exact absurd h.1 h0
theorem join_split (b : List Nat) (ls : List (List Nat)) (hx : ∀ x ∈ b, x < 256) (h : splitL b = (0, ls)) : joinL ls = b ∧ ls.length ≤ 64 ∧ ∀ l ∈ ls, l.length ≤ 1048576 := by
  cases b with
  | nil => simp [splitL] at h
  | cons x b =>
    rw [splitL] at h
    split at h
    · simp at h
    · obtain ⟨h1, h2, h3⟩ := body_split x b ls (fun y hy => hx y (by simp [hy])) h
      refine ⟨?_, by omega, h3⟩
      rw [joinL, h1, h2, Nat.mod_eq_of_lt (by omega)]
theorem splitB_len (n : Nat) : ∀ b : List Nat, (splitB n b).2.length ≤ n := by
  induction n with
  | zero => intro b; unfold splitB; split <;> simp
  | succ n ih =>
    intro b
    unfold splitB consS
    split
    · simp
    · split
      · simp only [List.length_cons]; have := ih (b.drop (4 + (firstL b).1)); omega
      · simp

/-! ### few, same -/
/-! ### firstLength -/
end Go.Proofs.YtjacfihpjolddaaDoor
