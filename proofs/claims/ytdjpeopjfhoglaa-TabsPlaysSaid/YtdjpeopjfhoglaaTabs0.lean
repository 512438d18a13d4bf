/- Plain words for tab stops, the columns below a number at which a predicate holds, and plain lemmas on them: how they are cut, changed, counted, and what one stop on or back is. Conditions: none; it speaks of no program. -/
import Derived.Test.YtdjpeopjfhoglaaBase
namespace Go.Proofs.Ytdjpeopjfhoglaa
open Go.RowKit
/-- The stops below n, and those from a on below b. -/
def stp (n : Nat) (p : Nat → Bool) : List Nat := (List.range n).filter p
def stpR (a b : Nat) (p : Nat → Bool) : List Nat := (List.range' a (b - a)).filter p
theorem stp_mem {n x : Nat} {p : Nat → Bool} : x ∈ stp n p ↔ x < n ∧ p x = true := by simp [stp, List.mem_filter]
theorem stpR_mem {a b x : Nat} {p : Nat → Bool} : x ∈ stpR a b p ↔ (a ≤ x ∧ x < b) ∧ p x = true := by
  simp only [stpR, List.mem_filter, List.mem_range'_1]
  constructor
  · rintro ⟨⟨h1, h2⟩, h3⟩
    exact ⟨⟨h1, by omega⟩, h3⟩
  · rintro ⟨⟨h1, h2⟩, h3⟩
    exact ⟨⟨h1, by omega⟩, h3⟩
theorem stp_split {a b : Nat} (p : Nat → Bool) (h : a ≤ b) : stp b p = stp a p ++ stpR a b p := by
  unfold stp stpR
  rw [← List.filter_append, List.range_eq_range', List.range_eq_range']
  congr 1
  have := List.range'_append_1 (s := 0) (m := a) (n := b - a)
  rw [Nat.zero_add] at this
  rw [this]
  congr 1
  omega
theorem stp_length (n : Nat) (p : Nat → Bool) : (stp n p).length ≤ n := by
  have := List.length_filter_le p (List.range n)
  rwa [List.length_range] at this
theorem stpR_length (a b : Nat) (p : Nat → Bool) : (stpR a b p).length ≤ b - a := by
  have := List.length_filter_le p (List.range' a (b - a))
  rwa [List.length_range'] at this
theorem stp_sorted (n : Nat) (p : Nat → Bool) : (stp n p).Pairwise (· < ·) := List.Pairwise.filter _ List.pairwise_lt_range
theorem stp_congr {n : Nat} {p q : Nat → Bool} (h : ∀ i, i < n → p i = q i) : stp n p = stp n q :=
  List.filter_congr fun x hx => h x (List.mem_range.1 hx)
theorem stpR_congr {a b : Nat} {p q : Nat → Bool} (h : ∀ i, a ≤ i → i < b → p i = q i) : stpR a b p = stpR a b q :=
  List.filter_congr fun x hx => h x (List.mem_range'_1.1 hx).1 (by have := (List.mem_range'_1.1 hx); omega)
theorem stp_zero (p : Nat → Bool) : stp 0 p = [] := rfl
theorem stp_succ (n : Nat) (p : Nat → Bool) : stp (n + 1) p = stp n p ++ if p n = true then [n] else [] := by
  unfold stp
  rw [List.range_succ, List.filter_append]
  congr 1
  by_cases h : p n = true
  · rw [if_pos h]; simp [h]
  · rw [if_neg h]; simp [h]
theorem stpR_nil {a b : Nat} (p : Nat → Bool) (h : b ≤ a) : stpR a b p = [] := by
  unfold stpR
  rw [Nat.sub_eq_zero_of_le h]
  rfl
theorem stpR_cons {a b : Nat} (p : Nat → Bool) (h : a < b) : stpR a b p = if p a = true then a :: stpR (a + 1) b p else stpR (a + 1) b p := by
  unfold stpR
  rw [show b - a = (b - (a + 1)) + 1 by omega, List.range'_succ, List.filter_cons]
theorem stp_take {a b : Nat} (p : Nat → Bool) (h : a ≤ b) : (stp b p).take (stp a p).length = stp a p := by
  rw [stp_split p h, List.take_left]
theorem stp_drop {a b : Nat} (p : Nat → Bool) (h : a ≤ b) : (stp b p).drop (stp a p).length = stpR a b p := by
  rw [stp_split p h, List.drop_left]
theorem stp_none (n : Nat) : stp n (fun _ => false) = [] := by simp [stp]

/-! ### Changes -/
def setP (c : Nat) (p : Nat → Bool) : Nat → Bool := fun i => p i || i == c
def clrP (c : Nat) (p : Nat → Bool) : Nat → Bool := fun i => p i && i != c
def sizeP (n : Nat) (p : Nat → Bool) : Nat → Bool := fun i => if i < n then p i else decide (0 < i ∧ i % 8 = 0)
theorem setP_old {c : Nat} {p : Nat → Bool} (h : p c = true) (n : Nat) : stp n (setP c p) = stp n p :=
  stp_congr fun i _ => by
    unfold setP
    by_cases e : i = c
    · subst e; simp [h]
    · simp [e]
theorem clrP_old {n c : Nat} {p : Nat → Bool} (h : ¬ (c < n ∧ p c = true)) : stp n (clrP c p) = stp n p :=
  stp_congr fun i hi => by
    unfold clrP
    by_cases e : i = c
    · subst e
      have : p i = false := by
        cases hp : p i with
        | false => rfl
        | true => exact absurd ⟨hi, hp⟩ h
      simp [this]
    · simp [e]
theorem stp_set {n c : Nat} {p : Nat → Bool} (hc : c < n) (h : p c = false) : stp n (setP c p) = (stp n p).take (stp c p).length ++ c :: (stp n p).drop (stp c p).length := by
  have hle : c ≤ n := by omega
  rw [stp_take p hle, stp_drop p hle, stp_split (setP c p) hle, stpR_cons (setP c p) hc, stpR_cons p hc, if_pos (by simp [setP]), if_neg (by simp [h])]
  congr 1
  · exact stp_congr fun i hi => by unfold setP; simp [show i ≠ c by omega]
  · congr 1
    exact stpR_congr fun i hi _ => by unfold setP; simp [show i ≠ c by omega]
theorem stp_clr {n c : Nat} {p : Nat → Bool} (hc : c < n) (h : p c = true) : stp n (clrP c p) = (stp n p).take (stp c p).length ++ (stp n p).drop ((stp c p).length + 1) := by
  have hle : c ≤ n := by omega
  rw [stp_take p hle, ← List.drop_drop, stp_drop p hle, stp_split (clrP c p) hle, stpR_cons (clrP c p) hc, stpR_cons p hc, if_pos h, if_neg (by simp [clrP])]
  congr 1
  · exact stp_congr fun i hi => by unfold clrP; simp [show i ≠ c by omega]
  · exact stpR_congr fun i hi _ => by unfold clrP; simp [show i ≠ c by omega]
theorem stp_below {n m : Nat} (p : Nat → Bool) : (stp n p).filter (fun x => !decide (m ≤ x)) = stp (min m n) p := by
  by_cases h : m ≤ n
  · rw [Nat.min_eq_left h, stp_split p h, List.filter_append]
    rw [List.filter_eq_self.2 (fun x hx => by have := (stp_mem.1 hx).1; simp; omega), List.filter_eq_nil_iff.2 (fun x hx => by have := (stpR_mem.1 hx).1.1; simp; omega), List.append_nil]
  · rw [Nat.min_eq_right (by omega)]
    exact List.filter_eq_self.2 (fun x hx => by have := (stp_mem.1 hx).1; simp; omega)
theorem stp_size_lo {n m : Nat} (p : Nat → Bool) : stp (min m n) (sizeP n p) = stp (min m n) p := stp_congr fun i hi => by unfold sizeP; rw [if_pos (by omega)]
theorem sizeP_new (n : Nat) (p : Nat → Bool) (h : 0 < n) (i : Nat) (hi : n ≤ i) : sizeP n p i = decide (i % 8 = 0) := by
  unfold sizeP
  rw [if_neg (by omega)]
  exact decide_eq_decide.2 ⟨fun h => h.2, fun h' => ⟨by omega, h'⟩⟩

/-! ### Counting -/
/-- The list in the model's whole numbers. -/
def zi (l : List Nat) : List Int := l.map fun x : Nat => (x : Int)
theorem zi_length (l : List Nat) : (zi l).length = l.length := by simp [zi]
theorem zi_sorted (n : Nat) (p : Nat → Bool) : (zi (stp n p)).Pairwise (· ≤ ·) := by
  unfold zi
  rw [List.pairwise_map]
  exact (stp_sorted n p).imp fun h => by omega
theorem zi_getD (l : List Nat) (j : Nat) (h : j < l.length) : (zi l).getD j 0 = ((l[j] : Nat) : Int) := by
  simp [zi, List.getD_eq_getElem?_getD, h]
theorem zi_count (n : Nat) (p : Nat → Bool) (x : Int) : (zi (stp n p)).countP (· < x) = (stp (min x.toNat n) p).length := by
  unfold zi
  rw [List.countP_map, List.countP_eq_length_filter]
  congr 1
  rw [← stp_below p]
  apply List.filter_congr
  intro a _
  show decide ((a : Int) < x) = !decide (x.toNat ≤ a)
  by_cases h : (a : Int) < x
  · rw [decide_eq_true h, decide_eq_false (by omega)]; rfl
  · rw [decide_eq_false h, decide_eq_true (by omega)]; rfl
theorem zi_has (n : Nat) (p : Nat → Bool) (x : Int) : (zi (stp n p)).contains x = (decide (0 ≤ x ∧ x < n) && p x.toNat) := by
  by_cases h : 0 ≤ x ∧ x < n
  · rw [decide_eq_true h, Bool.true_and]
    cases hp : p x.toNat with
    | true =>
      rw [List.contains_iff_mem]
      unfold zi
      exact List.mem_map.2 ⟨x.toNat, stp_mem.2 ⟨by omega, hp⟩, by omega⟩
    | false =>
      cases hc : (zi (stp n p)).contains x with
      | false => rfl
      | true =>
        rw [List.contains_iff_mem] at hc
        unfold zi at hc
        obtain ⟨y, hy, rfl⟩ := List.mem_map.1 hc
        have := (stp_mem.1 hy).2
        rw [show ((y : Int)).toNat = y by omega] at hp
        rw [hp] at this; cases this
  · rw [decide_eq_false h, Bool.false_and]
    cases hc : (zi (stp n p)).contains x with
    | false => rfl
    | true =>
      rw [List.contains_iff_mem] at hc
      unfold zi at hc
      obtain ⟨y, hy, rfl⟩ := List.mem_map.1 hc
      have := (stp_mem.1 hy).1
      exact absurd ⟨by omega, by omega⟩ h

/-! ### One stop on, one stop back -/
def nxP (n : Nat) (p : Nat → Bool) (c : Nat) : Nat := (stpR (c + 1) n p).headD (n - 1)
def bkP (p : Nat → Bool) (c : Nat) : Nat := (stp c p).getLastD 0
/-- k stops on, k stops back. -/
def onP (n : Nat) (p : Nat → Bool) (c k : Nat) : Nat := if k = 0 then c else (stpR (c + 1) n p).getD (k - 1) (n - 1)
def upP (p : Nat → Bool) (c k : Nat) : Nat := if k = 0 then c else if k ≤ (stp c p).length then (stp c p).getD ((stp c p).length - k) 0 else 0
theorem onP_zero (n : Nat) (p : Nat → Bool) (c : Nat) : onP n p c 0 = c := rfl
theorem upP_zero (p : Nat → Bool) (c : Nat) : upP p c 0 = c := rfl
theorem nxP_lt {n : Nat} (p : Nat → Bool) {c : Nat} (h : c < n) : nxP n p c < n := by
  unfold nxP
  cases e : stpR (c + 1) n p with
  | nil => show n - 1 < n; omega
  | cons x t =>
    show x < n
    exact (stpR_mem.1 (show x ∈ stpR (c + 1) n p by rw [e]; exact List.mem_cons_self)).1.2
theorem bkP_lt {n : Nat} (p : Nat → Bool) {c : Nat} (h : c < n) : bkP p c < n := by
  unfold bkP
  cases e : (stp c p).getLast? with
  | none => rw [List.getLastD_eq_getLast?, e]; show 0 < n; omega
  | some x =>
    rw [List.getLastD_eq_getLast?, e]
    show x < n
    have := (stp_mem.1 (List.mem_of_getLast? e)).1
    omega
/-- Right of a stop that is the first behind c. -/
theorem stpR_rest {n c x : Nat} {p : Nat → Bool} {t : List Nat} (h : stpR (c + 1) n p = x :: t) : stpR (x + 1) n p = t := by
  have hx := stpR_mem.1 (show x ∈ stpR (c + 1) n p by rw [h]; exact List.mem_cons_self)
  have e : stpR (c + 1) n p = stpR (c + 1) x p ++ stpR x n p := by
    have h1 := stp_split p (show c + 1 ≤ n by omega)
    have h2 := stp_split p (show x ≤ n by omega)
    have h3 := stp_split p (show c + 1 ≤ x by omega)
    rw [h1, h3, List.append_assoc] at h2
    exact List.append_cancel_left h2
  rw [stpR_cons p hx.1.2, if_pos hx.2] at e
  cases e2 : stpR (c + 1) x p with
  | nil =>
    rw [e2, h, List.nil_append] at e
    exact ((List.cons.inj e).2).symm
  | cons y s =>
    exfalso
    rw [e2, h] at e
    have hy := stpR_mem.1 (show y ∈ stpR (c + 1) x p by rw [e2]; exact List.mem_cons_self)
    have := (List.cons.inj e).1
    omega
theorem onP_succ (n : Nat) (p : Nat → Bool) (c : Nat) (k : Nat) : onP n p c (k + 1) = onP n p (nxP n p c) k := by
  show (stpR (c + 1) n p).getD k (n - 1) = _
  unfold onP nxP
  cases e : stpR (c + 1) n p with
  | nil =>
    show n - 1 = _
    by_cases hk : k = 0
    · rw [if_pos hk]; rfl
    · rw [if_neg hk, stpR_nil p (by show n ≤ n - 1 + 1; omega)]; rfl
  | cons x t =>
    show (x :: t).getD k (n - 1) = if k = 0 then x else (stpR (x + 1) n p).getD (k - 1) (n - 1)
    rw [stpR_rest e]
    cases k with
    | zero => rfl
    | succ k => rfl
theorem onP_many {n : Nat} (p : Nat → Bool) {c k m : Nat} (h : c < n) (hk : n ≤ k) (hm : n ≤ m) : onP n p c k = onP n p c m := by
  have hl := stpR_length (c + 1) n p
  unfold onP
  rw [if_neg (by omega), if_neg (by omega), List.getD_eq_getElem?_getD, List.getD_eq_getElem?_getD, List.getElem?_eq_none (by omega), List.getElem?_eq_none (by omega)]
theorem upP_many {n : Nat} (p : Nat → Bool) {c k m : Nat} (h : c < n) (hk : n ≤ k) (hm : n ≤ m) : upP p c k = upP p c m := by
  have hl := stp_length c p
  unfold upP
  rw [if_neg (by omega), if_neg (by omega), if_neg (by omega), if_neg (by omega)]
/-- Left of a stop that is the last ahead of c. -/
theorem stp_rest {c x : Nat} {p : Nat → Bool} {t : List Nat} (h : stp c p = t ++ [x]) : stp x p = t := by
  have hx := stp_mem.1 (show x ∈ stp c p by rw [h]; simp)
  have e := stp_split p (show x ≤ c by omega)
  have e3 : stpR (x + 1) c p = [] := by
    cases e2 : stpR (x + 1) c p with
    | nil => rfl
    | cons y s =>
      exfalso
      rw [stpR_cons p hx.1, if_pos hx.2, e2, h] at e
      have hs := stp_sorted c p
      have hy := stpR_mem.1 (show y ∈ stpR (x + 1) c p by rw [e2]; exact List.mem_cons_self)
      have hm : y ∈ stp c p := stp_mem.2 ⟨hy.1.2, hy.2⟩
      rw [h] at hs hm
      rcases List.mem_append.1 hm with hm | hm
      · have := (List.pairwise_append.1 hs).2.2 y hm x (List.mem_singleton.2 rfl)
        omega
      · have := List.mem_singleton.1 hm
        omega
  rw [stpR_cons p hx.1, if_pos hx.2, e3, h] at e
  exact (List.append_inj_left' e rfl).symm
theorem upP_succ (p : Nat → Bool) (c k : Nat) : upP p c (k + 1) = upP p (bkP p c) k := by
  unfold upP bkP
  rcases List.eq_nil_or_concat (stp c p) with e | ⟨t, x, e⟩
  · rw [e]
    show (if k + 1 = 0 then c else if k + 1 ≤ 0 then _ else 0) = _
    rw [if_neg (by omega), if_neg (by omega)]
    show 0 = if k = 0 then 0 else if k ≤ (stp 0 p).length then (stp 0 p).getD ((stp 0 p).length - k) 0 else 0
    rw [stp_zero]
    split
    · rfl
    · split <;> rfl
  · rw [List.concat_eq_append] at e
    have ht := stp_rest e
    rw [e, List.getLastD_concat, ht, List.length_append, List.length_singleton, if_neg (by omega)]
    by_cases hk : k = 0
    · subst hk
      rw [if_pos rfl, if_pos (by omega), show t.length + 1 - (0 + 1) = t.length by omega]
      simp
    · rw [if_neg hk]
      by_cases hle : k ≤ t.length
      · rw [if_pos (by omega), if_pos hle, show t.length + 1 - (k + 1) = t.length - k by omega]
        simp only [List.getD_eq_getElem?_getD]
        rw [List.getElem?_append_left (by omega)]
      · rw [if_neg (by omega), if_neg hle]
end Go.Proofs.Ytdjpeopjfhoglaa
