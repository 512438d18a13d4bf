/- Plain words for the proofs on package crc: the register of 32 bits, one step of it, bytes moved through it, and what a table of the effects on single bits does. Conditions: none; it speaks of no program. -/
import Derived.Test.YtnfjghihjpdpiaaShaMath
namespace Go.Proofs.Ytnfjghihjpdpiaa
open Go.RowKit

/-! ### The register -/
def polyW : BitVec 32 := BitVec.ofNat 32 2197175160
/-- One bit moved out. -/
def stepW (c : BitVec 32) : BitVec 32 := (c >>> 1) ^^^ (if c.getLsbD 0 then polyW else 0#32)
def stepsW : Nat → BitVec 32 → BitVec 32
  | 0, c => c
  | n + 1, c => stepsW n (stepW c)
/-- The bytes l moved through the register c. -/
def runW (c : BitVec 32) (l : List Nat) : BitVec 32 := l.foldl (fun c x => stepsW 8 (c ^^^ BitVec.ofNat 32 x)) c
/-- The sum behind the sum s, of the bytes l. -/
def moreW (s : BitVec 32) (l : List Nat) : BitVec 32 := ~~~(runW (~~~s) l)

theorem xor_four (a b p q : BitVec 32) : (a ^^^ b) ^^^ (p ^^^ q) = (a ^^^ p) ^^^ (b ^^^ q) := by
  ext i hi
  simp only [BitVec.getElem_xor]
  cases a[i] <;> cases b[i] <;> cases p[i] <;> cases q[i] <;> rfl
theorem stepW_xor (a b : BitVec 32) : stepW (a ^^^ b) = stepW a ^^^ stepW b := by
  unfold stepW
  rw [BitVec.ushiftRight_xor_distrib, BitVec.getLsbD_xor, ← xor_four]
  congr 1
  cases a.getLsbD 0 <;> cases b.getLsbD 0 <;> simp
theorem stepW_zero : stepW 0#32 = 0#32 := by decide
theorem stepW_ne (c : BitVec 32) (h : stepW c = 0#32) : c = 0#32 := by
  unfold stepW at h
  cases hb : c.getLsbD 0 with
  | true =>
    exfalso
    rw [hb, if_pos rfl] at h
    have h1 : (c >>> 1 ^^^ polyW).getLsbD 31 = (0#32).getLsbD 31 := by rw [h]
    rw [BitVec.getLsbD_xor, BitVec.getLsbD_ushiftRight, BitVec.getLsbD_of_ge _ _ (by decide)] at h1
    revert h1; decide
  | false =>
    rw [hb, if_neg (by decide), BitVec.xor_zero] at h
    apply BitVec.eq_of_getLsbD_eq
    intro i hi
    rw [BitVec.getLsbD_zero]
    cases i with
    | zero => exact hb
    | succ i =>
      have h1 : (c >>> 1).getLsbD i = (0#32).getLsbD i := by rw [h]
      rw [BitVec.getLsbD_ushiftRight, BitVec.getLsbD_zero, Nat.add_comm] at h1
      exact h1

theorem stepsW_xor (n : Nat) : ∀ a b : BitVec 32, stepsW n (a ^^^ b) = stepsW n a ^^^ stepsW n b := by
  induction n with
  | zero => intro a b; rfl
  | succ n ih => intro a b; simp only [stepsW]; rw [stepW_xor, ih]
theorem stepsW_zero (n : Nat) : stepsW n 0#32 = 0#32 := by
  induction n with
  | zero => rfl
  | succ n ih => simp only [stepsW]; rw [stepW_zero, ih]
theorem stepsW_ne (n : Nat) : ∀ c : BitVec 32, stepsW n c = 0#32 → c = 0#32 := by
  induction n with
  | zero => intro c h; exact h
  | succ n ih => intro c h; exact stepW_ne c (ih _ h)
theorem stepsW_add (m n : Nat) : ∀ c : BitVec 32, stepsW (m + n) c = stepsW n (stepsW m c) := by
  induction m with
  | zero => intro c; rw [Nat.zero_add]; rfl
  | succ m ih => intro c; rw [Nat.succ_add]; simp only [stepsW]; exact ih _
theorem stepsW_succ (n : Nat) (c : BitVec 32) : stepsW (n + 1) c = stepW (stepsW n c) := stepsW_add n 1 c

theorem runW_nil (c : BitVec 32) : runW c [] = c := rfl
theorem runW_cons (c : BitVec 32) (x : Nat) (l : List Nat) : runW c (x :: l) = runW (stepsW 8 (c ^^^ BitVec.ofNat 32 x)) l := rfl
theorem runW_append (c : BitVec 32) (l m : List Nat) : runW c (l ++ m) = runW (runW c l) m := List.foldl_append ..
theorem runW_take (c : BitVec 32) (l : List Nat) (k : Nat) (h : k < l.length) : runW c (l.take (k + 1)) = stepsW 8 (runW c (l.take k) ^^^ BitVec.ofNat 32 l[k]) := by
  rw [List.take_succ_eq_append_getElem h, runW_append]; rfl
theorem runW_xor (l : List Nat) : ∀ c d : BitVec 32, runW (c ^^^ d) l = runW c l ^^^ stepsW (8 * l.length) d := by
  induction l with
  | nil => intro c d; rfl
  | cons x l ih =>
    intro c d
    rw [runW_cons, runW_cons, List.length_cons, Nat.mul_succ, Nat.add_comm, stepsW_add, ← ih, ← stepsW_xor]
    congr 2
    rw [BitVec.xor_assoc, BitVec.xor_comm d, ← BitVec.xor_assoc]
theorem runW_zeros (n : Nat) : ∀ c : BitVec 32, runW c (List.replicate n 0) = stepsW (8 * n) c := by
  induction n with
  | zero => intro c; rfl
  | succ n ih =>
    intro c
    rw [List.replicate_succ, runW_cons, ih, Nat.mul_succ, Nat.add_comm, stepsW_add]
    congr 2
    exact BitVec.xor_zero

/-- The sum of both texts, from their sums. -/
theorem moreW_join (a b : List Nat) : moreW 0#32 (a ++ b) = stepsW (8 * b.length) (moreW 0#32 a) ^^^ moreW 0#32 b := by
  unfold moreW
  rw [runW_append]
  generalize runW (~~~0#32) a = r
  have e : r = ~~~0#32 ^^^ ~~~r := by
    rw [show ~~~0#32 = BitVec.allOnes 32 from by decide, BitVec.allOnes_xor, BitVec.not_not]
  have e2 : runW r b = runW (~~~0#32) b ^^^ stepsW (8 * b.length) (~~~r) := by
    conv => lhs; rw [e]
    exact runW_xor b _ _
  rw [e2, BitVec.not_xor_left, BitVec.xor_comm]
theorem moreW_zeros (s : BitVec 32) (n : Nat) : ~~~(stepsW (8 * n) (~~~s)) = moreW s (List.replicate n 0) := by
  unfold moreW; rw [runW_zeros]

/-! ### Single bits -/
def unitW (i : Nat) : BitVec 32 := BitVec.ofNat 32 (2 ^ i)
theorem unitW_down : ∀ i < 32, stepsW i (unitW i) = 1#32 := by decide +kernel
theorem stepsW_unit (n i : Nat) (hi : i < 32) (h : i ≤ n) : stepsW n (unitW i) = stepsW (n - i) 1#32 := by
  conv => lhs; rw [show n = i + (n - i) from by omega]
  rw [stepsW_add, unitW_down i hi]
theorem getLsbD_unitW (i j : Nat) (hi : i < 32) : (unitW i).getLsbD j = decide (i = j) := by
  unfold unitW
  rw [BitVec.getLsbD_ofNat, Nat.testBit_two_pow]
  by_cases h : i = j
  · subst h; simp [hi]
  · simp [h]
/-- One bit of one byte is turned. -/
theorem runW_flip (c : BitVec 32) (l : List Nat) (j r : Nat) (hj : j < l.length) (hr : r < 8) :
    runW c (l.set j (l[j] ^^^ 2 ^ r)) = runW c l ^^^ stepsW (8 * l.length - (8 * j + r)) 1#32 := by
  have e0 : l.set j (l[j] ^^^ 2 ^ r) = l.take j ++ (l[j] ^^^ 2 ^ r) :: l.drop (j + 1) := List.set_eq_take_append_cons_drop .. |>.trans (by rw [if_pos hj])
  have e1 : l = l.take j ++ l[j] :: l.drop (j + 1) := by rw [List.getElem_cons_drop, List.take_append_drop]
  rw [e0]
  conv => rhs; lhs; rw [e1]
  rw [runW_append, runW_append, runW_cons, runW_cons]
  generalize runW c (l.take j) = c'
  have e2 : BitVec.ofNat 32 (l[j] ^^^ 2 ^ r) = BitVec.ofNat 32 l[j] ^^^ unitW r := by
    unfold unitW; exact BitVec.ofNat_xor
  rw [e2, ← BitVec.xor_assoc, stepsW_xor, runW_xor, List.length_drop]
  congr 1
  rw [stepsW_unit 8 r (by omega) (by omega), ← stepsW_add]
  congr 1
  omega
/-- A burst: the bit i of it, at the place k of l, is turned. -/
theorem runW_burst (c : BitVec 32) (l : List Nat) (k i : Nat) (hi : i < 32) (hk : (k + i) / 8 < l.length) :
    runW c (l.set ((k + i) / 8) (l[(k + i) / 8] ^^^ 2 ^ ((k + i) % 8))) = runW c l ^^^ stepsW (8 * l.length - k) (unitW i) := by
  rw [runW_flip c l _ _ hk (Nat.mod_lt _ (by decide)), stepsW_unit _ i hi (by omega)]
  congr 2
  omega

/-! ### A table of what becomes of single bits -/
/-- The lowest n bits of c. -/
def lowW (c : BitVec 32) (n : Nat) : BitVec 32 := BitVec.ofNat 32 (c.toNat % 2 ^ n)
theorem lowW_zero (c : BitVec 32) : lowW c 0 = 0#32 := by unfold lowW; rw [Nat.pow_zero, Nat.mod_one]
theorem lowW_all (c : BitVec 32) : lowW c 32 = c := by
  unfold lowW; rw [Nat.mod_eq_of_lt c.isLt, BitVec.ofNat_toNat, BitVec.setWidth_eq]
theorem lowW_succ (c : BitVec 32) (n : Nat) (hn : n < 32) : lowW c (n + 1) = lowW c n ^^^ (if c.getLsbD n then unitW n else 0#32) := by
  apply BitVec.eq_of_getLsbD_eq
  intro i hi
  unfold lowW
  rw [BitVec.getLsbD_xor, BitVec.getLsbD_ofNat, BitVec.getLsbD_ofNat, Nat.testBit_mod_two_pow, Nat.testBit_mod_two_pow, BitVec.testBit_toNat]
  by_cases h : i = n
  · subst h
    cases hc : c.getLsbD i with
    | true => rw [if_pos rfl, getLsbD_unitW _ _ hn]; simp [hi]
    | false => rw [if_neg (by decide)]; simp
  · have e : (if c.getLsbD n = true then unitW n else 0#32).getLsbD i = false := by
      split
      · rw [getLsbD_unitW _ _ hn]; simp [Ne.symm h]
      · simp
    have e2 : decide (i < n + 1) = decide (i < n) := by
      apply decide_eq_decide.2; omega
    rw [e, e2, Bool.xor_false]
/-- What becomes of the lowest n bits of c. -/
def ofE (E : List (BitVec 32)) (c : BitVec 32) : Nat → BitVec 32
  | 0 => 0#32
  | n + 1 => ofE E c n ^^^ (if c.getLsbD n then E.getD n 0#32 else 0#32)
/-- The effects of k steps. -/
def effW (k : Nat) : List (BitVec 32) := (List.range 32).map fun i => stepsW k (unitW i)
theorem length_effW (k : Nat) : (effW k).length = 32 := by simp [effW]
theorem effW_get (k i : Nat) (h : i < 32) : (effW k).getD i 0#32 = stepsW k (unitW i) := by
  simp [effW, List.getD, List.getElem?_map, List.getElem?_range h]
theorem ofE_eff (k : Nat) (c : BitVec 32) (n : Nat) (hn : n ≤ 32) : ofE (effW k) c n = stepsW k (lowW c n) := by
  induction n with
  | zero => rw [lowW_zero, stepsW_zero]; rfl
  | succ n ih =>
    rw [lowW_succ c n hn, stepsW_xor, ofE, ih (by omega), effW_get k n hn]
    congr 1
    split
    · rfl
    · rw [stepsW_zero]
theorem ofE_all (k : Nat) (c : BitVec 32) : ofE (effW k) c 32 = stepsW k c := by
  rw [ofE_eff k c 32 (Nat.le_refl _), lowW_all]
theorem effW_twice (k : Nat) : (List.range 32).map (fun i => ofE (effW k) ((effW k).getD i 0#32) 32) = effW (k + k) := by
  unfold effW
  refine List.map_congr_left fun i hi => ?_
  have h : i < 32 := List.mem_range.1 hi
  have e := effW_get k i h
  have e2 := ofE_all k ((effW k).getD i 0#32)
  unfold effW at e e2
  rw [e2, e, stepsW_add]
/-- One round of the way through the bits of n. -/
theorem bits_round (n i : Nat) (c : BitVec 32) :
    stepsW (8 * (n % 2 ^ (i + 1))) c = if n / 2 ^ i % 2 = 1 then stepsW (8 * 2 ^ i) (stepsW (8 * (n % 2 ^ i)) c) else stepsW (8 * (n % 2 ^ i)) c := by
  rw [Nat.mod_pow_succ]
  rcases Nat.mod_two_eq_zero_or_one (n / 2 ^ i) with h | h
  · rw [h, if_neg (by decide), Nat.mul_zero, Nat.add_zero]
  · rw [h, if_pos rfl, Nat.mul_one, Nat.mul_add, stepsW_add]
theorem bits_twice (i : Nat) : 8 * 2 ^ i + 8 * 2 ^ i = 8 * 2 ^ (i + 1) := by rw [Nat.pow_succ]; omega
theorem sum_example : moreW 0#32 [49, 50, 51, 52, 53, 54, 55, 56, 57] = BitVec.ofNat 32 0xe3069283 := by decide +kernel
end Go.Proofs.Ytnfjghihjpdpiaa
