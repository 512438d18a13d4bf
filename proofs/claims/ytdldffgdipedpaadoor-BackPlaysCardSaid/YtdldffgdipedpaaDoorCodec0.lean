/- Plain words for the proofs on package codec: a number's bytes in groups of seven bits and how they are read, what a writer holds after each item, worlds that differ in some blocks alone, append with the block of its result. Conditions: none; it speaks of no program. -/
import Derived.Test.YtdldffgdipedpaaDoorRegs
namespace Go.Proofs.YtdldffgdipedpaaDoor
open Go.ChangeShapes Go.WideShapes Go.RowKit

/-! ### Numbers in groups of seven bits -/
/-- The bytes of a number. -/
def numL (n : Nat) : List Nat := if n < 128 then [n] else (n % 128 + 128) :: numL (n / 128)
termination_by n
decreasing_by omega
theorem numL_lt (n : Nat) (h : n < 128) : numL n = [n] := by rw [numL, if_pos h]
theorem numL_ge (n : Nat) (h : ¬ n < 128) : numL n = (n % 128 + 128) :: numL (n / 128) := by rw [numL, if_neg h]
theorem numL_byte : ∀ (n : Nat), ∀ x ∈ numL n, x < 256 := by
  intro n
  induction n using Nat.strongRecOn with
  | _ n ih =>
    by_cases h : n < 128
    · rw [numL_lt n h]; intro x hx; simp at hx; omega
    · rw [numL_ge n h]
      intro x hx
      rcases List.mem_cons.1 hx with rfl | hx
      · omega
      · exact ih (n / 128) (by omega) x hx
theorem numL_len : ∀ (k n : Nat), n < 128 ^ (k + 1) → (numL n).length ≤ k + 1 := by
  intro k
  induction k with
  | zero => intro n h; rw [numL_lt n (by simpa using h)]; simp
  | succ k ih =>
    intro n h
    by_cases h1 : n < 128
    · rw [numL_lt n h1]; simp
    · rw [numL_ge n h1, List.length_cons]
      have := ih (n / 128) (by rw [Nat.pow_succ] at h; omega)
      omega
/-- What is read of b as a number, i bytes of which (acc their number) are read and k may still come: the error, the number, what is left. -/
def numR : Nat → Nat → Nat → List Nat → Nat × Nat × List Nat
  | 0, _, _, _ => (5, 0, [])
  | _ + 1, _, _, [] => (4, 0, [])
  | k + 1, i, acc, x :: r => if x = 0 ∧ 0 < i then (6, 0, []) else if x < 128 then (0, acc + x * 128 ^ i, r) else numR k (i + 1) (acc + x % 128 * 128 ^ i) r
def readL (b : List Nat) : Nat × Nat × List Nat := numR 8 0 0 b
theorem numR_end (i acc : Nat) (b : List Nat) : numR 0 i acc b = (5, 0, []) := rfl
theorem numR_nil (k i acc : Nat) : numR (k + 1) i acc [] = (4, 0, []) := rfl
theorem numR_form (k i acc : Nat) (r : List Nat) (h : 0 < i) : numR (k + 1) i acc (0 :: r) = (6, 0, []) := by rw [numR, if_pos ⟨rfl, h⟩]
theorem numR_last (k i acc x : Nat) (r : List Nat) (h : ¬ (x = 0 ∧ 0 < i)) (hx : x < 128) : numR (k + 1) i acc (x :: r) = (0, acc + x * 128 ^ i, r) := by rw [numR, if_neg h, if_pos hx]
theorem numR_more (k i acc x : Nat) (r : List Nat) (hx : ¬ x < 128) : numR (k + 1) i acc (x :: r) = numR k (i + 1) (acc + x % 128 * 128 ^ i) r := by
  rw [numR, if_neg (by omega), if_neg hx]
theorem numR_back : ∀ (k i acc m : Nat) (r : List Nat), m < 128 ^ k → (0 < i → m ≠ 0) → 0 < i + k → numR k i acc (numL m ++ r) = (0, acc + m * 128 ^ i, r) := by
  intro k
  induction k with
  | zero =>
    intro i acc m r hm h0 hk
    exact absurd (show m = 0 by simpa using hm) (h0 hk)
  | succ k ih =>
    intro i acc m r hm h0 _
    by_cases h : m < 128
    · rw [numL_lt m h]
      exact numR_last k i acc m r (fun ⟨a, b⟩ => h0 b a) h
    · rw [numL_ge m h, List.cons_append, numR_more _ _ _ _ _ (by omega), ih (i + 1) _ (m / 128) r (by rw [Nat.pow_succ] at hm; omega) (by omega) (by omega), show (m % 128 + 128) % 128 = m % 128 by omega]
      congr 2
      rw [Nat.pow_succ, Nat.add_assoc, ← Nat.mul_assoc, Nat.mul_right_comm, ← Nat.add_mul]
      congr 2
      omega
theorem numR_one : ∀ (k i acc n : Nat) (b r : List Nat), (∀ x ∈ b, x < 256) → numR k i acc b = (0, n, r) → ∃ m, n = acc + m * 128 ^ i ∧ b = numL m ++ r ∧ m < 128 ^ k ∧ (0 < i → m ≠ 0) := by
  intro k
  induction k with
  | zero => intro i acc n b r _ h; simp [numR] at h
  | succ k ih =>
    intro i acc n b r hb h
    cases b with
    | nil => simp [numR] at h
    | cons x b =>
      have hx : x < 256 := hb x (by simp)
      by_cases h1 : x = 0 ∧ 0 < i
      · rw [numR, if_pos h1] at h; simp at h
      · by_cases h2 : x < 128
        · rw [numR_last _ _ _ _ _ h1 h2] at h
          simp only [Prod.mk.injEq, true_and] at h
          refine ⟨x, h.1.symm, by rw [numL_lt x h2, h.2]; rfl, ?_, fun h3 h4 => h1 ⟨h4, h3⟩⟩
          rw [Nat.pow_succ]
          have : 1 ≤ 128 ^ k := Nat.one_le_pow _ _ (by decide)
          omega
        · rw [numR_more _ _ _ _ _ h2] at h
          obtain ⟨m, e1, e2, e3, e4⟩ := ih _ _ _ _ _ (fun y hy => hb y (by simp [hy])) h
          have hm := e4 (by omega)
          refine ⟨x % 128 + 128 * m, ?_, ?_, by rw [Nat.pow_succ]; omega, by omega⟩
          · rw [e1, Nat.pow_succ, Nat.add_assoc, ← Nat.mul_assoc, Nat.mul_right_comm, ← Nat.add_mul]
            congr 2
            omega
          · rw [numL_ge _ (by omega), e2, List.cons_append]
            congr 2
            · omega
            · congr 1; omega
theorem readL_back (m : Nat) (r : List Nat) (h : m < 72057594037927936) : readL (numL m ++ r) = (0, m, r) := by
  have := numR_back 8 0 0 m r h (by omega) (by omega)
  simpa [readL] using this
theorem readL_one (n : Nat) (b r : List Nat) (hb : ∀ x ∈ b, x < 256) (h : readL b = (0, n, r)) : b = numL n ++ r ∧ n < 72057594037927936 := by
  obtain ⟨m, e1, e2, e3, _⟩ := numR_one 8 0 0 n b r hb h
  have : n = m := by simpa using e1
  subst this
  exact ⟨e2, e3⟩
/-- What is read is 0 where there is an error, and nothing is left then. -/
theorem numR_err : ∀ (k i acc : Nat) (b : List Nat), (numR k i acc b).1 ≠ 0 → (numR k i acc b).2 = (0, []) := by
  intro k
  induction k with
  | zero => intro i acc b _; rfl
  | succ k ih =>
    intro i acc b h
    cases b with
    | nil => rfl
    | cons x b =>
      by_cases h1 : x = 0 ∧ 0 < i
      · rw [numR, if_pos h1]
      · by_cases h2 : x < 128
        · rw [numR_last _ _ _ _ _ h1 h2] at h; simp at h
        · rw [numR_more _ _ _ _ _ h2] at h ⊢; exact ih _ _ _ h
/-- What is left is the end of what there was. -/
theorem numR_rest : ∀ (k i acc : Nat) (b : List Nat), (numR k i acc b).1 = 0 → ∃ j, 0 < j ∧ j ≤ b.length ∧ (numR k i acc b).2.2 = b.drop j := by
  intro k
  induction k with
  | zero => intro i acc b h; simp [numR] at h
  | succ k ih =>
    intro i acc b h
    cases b with
    | nil => simp [numR] at h
    | cons x b =>
      by_cases h1 : x = 0 ∧ 0 < i
      · rw [numR, if_pos h1] at h; simp at h
      · by_cases h2 : x < 128
        · rw [numR_last _ _ _ _ _ h1 h2]; exact ⟨1, by omega, by simp, rfl⟩
        · rw [numR_more _ _ _ _ _ h2] at h ⊢
          obtain ⟨j, h3, h4, h5⟩ := ih _ _ _ h
          exact ⟨j + 1, by omega, by simpa using h4, by simpa using h5⟩
theorem numR_lt (k i acc : Nat) (b : List Nat) (hb : ∀ x ∈ b, x < 256) (h : acc < 128 ^ i) : (numR k i acc b).2.1 < 128 ^ (i + k) := by
  by_cases h0 : (numR k i acc b).1 = 0
  · obtain ⟨m, e1, e2, e3, e4⟩ := numR_one k i acc (numR k i acc b).2.1 b (numR k i acc b).2.2 hb (by rw [← h0])
    rw [e1, Nat.pow_add]
    have := Nat.mul_le_mul_right (128 ^ i) (show m + 1 ≤ 128 ^ k from e3)
    rw [Nat.add_mul, Nat.one_mul, Nat.mul_comm (128 ^ k)] at this
    omega
  · rw [numR_err _ _ _ _ h0]
    exact Nat.pow_pos (by decide)
theorem readL_lt (b : List Nat) (hb : ∀ x ∈ b, x < 256) : (readL b).2.1 < 72057594037927936 := numR_lt 8 0 0 b hb (by decide)

/-! ### A number that may be below 0 -/
def sgnN (n : Int) : Nat := if n < 0 then (-1 - 2 * n).toNat else (2 * n).toNat
def sgnR (n : Nat) : Int := if n % 2 = 0 then ((n / 2 : Nat) : Int) else -(((n + 1) / 2 : Nat) : Int)
theorem sgnR_sgnN (n : Int) : sgnR (sgnN n) = n := by unfold sgnR sgnN; split <;> split <;> omega
theorem sgnN_sgnR (n : Nat) : sgnN (sgnR n) = n := by unfold sgnR sgnN; split <;> split <;> omega
theorem sgnN_lt (n : Int) (h0 : -36028797018963968 ≤ n) (h1 : n ≤ 36028797018963967) : sgnN n < 72057594037927936 := by unfold sgnN; split <;> omega

/-! ### What a writer holds -/
/-- The bytes and the error behind one more item, told by its error and its bytes. -/
def wrote (s : List Nat × Int) (r : Int × List Nat) : List Nat × Int := if s.2 = 0 then (if r.1 = 0 then (s.1 ++ r.2, 0) else ([], r.1)) else s
def encN (n : Int) : Int × List Nat := if 0 ≤ n ∧ n ≤ 72057594037927935 then (0, numL n.toNat) else (1, [])
def encS (n : Int) : Int × List Nat := if -36028797018963968 ≤ n ∧ n ≤ 36028797018963967 then (0, numL (sgnN n)) else (1, [])
theorem wrote_ok (s : List Nat × Int) (b : List Nat) (h : s.2 = 0) : wrote s (0, b) = (s.1 ++ b, 0) := by rw [wrote, if_pos h, if_pos rfl]
theorem wrote_err (s : List Nat × Int) (r : Int × List Nat) (h : s.2 ≠ 0) : wrote s r = s := by rw [wrote, if_neg h]
theorem wrote_fail (s : List Nat × Int) (e : Int) (h : s.2 = 0) (he : e ≠ 0) : wrote s (e, []) = ([], e) := by rw [wrote, if_pos h, if_neg he]
theorem wrote_none (s : List Nat × Int) : wrote s (0, []) = s := by
  by_cases h : s.2 = 0
  · rw [wrote_ok _ _ h, List.append_nil]; exact Prod.ext rfl h.symm
  · exact wrote_err _ _ h
theorem wrote_two (s : List Nat × Int) (a b : List Nat) : wrote (wrote s (0, a)) (0, b) = wrote s (0, a ++ b) := by
  by_cases h : s.2 = 0
  · rw [wrote_ok _ _ h, wrote_ok _ _ rfl, wrote_ok _ _ h, List.append_assoc]
  · rw [wrote_err _ _ h, wrote_err _ _ h, wrote_err _ _ h]
theorem wrote_len (s : List Nat × Int) (r : Int × List Nat) : (wrote s r).1.length ≤ s.1.length + r.2.length := by
  unfold wrote; split
  · split <;> simp
  · omega

/-! ### Worlds that differ in some blocks alone -/
/-- Of the blocks of w none has turned but those in F. -/
structure Chg (F : Nat → Prop) (w w' : World) : Prop where
  os : w'.os = w.os
  tape : w'.tape = w.tape
  output : w'.output = w.output
  size : w.heap.size ≤ w'.heap.size
  block : ∀ i, i < w.heap.size → ¬ F i → w'.heap[i]? = w.heap[i]?
/-- F, and what is new since w. -/
def orNew (F : Nat → Prop) (w : World) (i : Nat) : Prop := F i ∨ w.heap.size ≤ i
section
variable {F G : Nat → Prop} {w w' w'' : World}
theorem Chg.refl (F : Nat → Prop) (w : World) : Chg F w w := ⟨rfl, rfl, rfl, Nat.le_refl _, fun _ _ _ => rfl⟩
theorem Chg.mono (h : Chg F w w') (hG : ∀ i, F i → G i) : Chg G w w' := ⟨h.os, h.tape, h.output, h.size, fun i hi hn => h.block i hi (fun hf => hn (hG i hf))⟩
theorem Chg.of_below (h : Below w.heap.size w w') : Chg F w w' := ⟨h.os, h.tape, h.output, h.size, fun i hi _ => h.block i hi⟩
theorem Chg.of_only {row : Option Nat} (h : w.grownBy w' row) (hF : ∀ g, row = some g → F g) : Chg F w w' :=
  ⟨h.os, h.tape, h.output, h.size, fun i hi hn => h.block i hi (fun e => hn (hF i e.symm))⟩
theorem Chg.trans (h : Chg F w w') (k : Chg (orNew F w) w' w'') : Chg F w w'' :=
  ⟨k.os.trans h.os, k.tape.trans h.tape, k.output.trans h.output, Nat.le_trans h.size k.size,
    fun i hi hn => (k.block i (Nat.lt_of_lt_of_le hi h.size) (fun hf => hf.elim hn (fun hge => absurd hge (by omega)))).trans (h.block i hi hn)⟩
theorem Chg.trans' (h : Chg F w w') (k : Chg F w' w'') : Chg F w w'' := h.trans (k.mono fun _ hf => .inl hf)
theorem Chg.below {B : Nat} {w0 : World} (h : Chg F w w') (hb : Below B w0 w) (hB : B ≤ w.heap.size) (hF : ∀ i, F i → B ≤ i) : Below B w0 w' :=
  hb.trans ⟨h.os, h.tape, h.output, h.size, fun i hi => h.block i (Nat.lt_of_lt_of_le hi hB) (fun hf => by have := hF i hf; omega)⟩
theorem orNew_mono (h : w.heap.size ≤ w'.heap.size) : ∀ i, orNew (orNew F w) w' i → orNew F w i := fun _ hi => hi.elim id (fun hge => .inr (by omega))
theorem Blk.chg {g : Nat} {t : TypeId} {cs : List Value} (h : Blk w g t cs) (k : Chg F w w') (hn : ¬ F g) : Blk w' g t cs := h.move (k.block g h.lt hn)
theorem own_chg {base : Nat} {e : TypeId} {v : Value} {n : Nat} {xs : List Value} (h : w.ownsRow base e 1 v n xs) (k : Chg F w w') (hn : ∀ g, v.ownBlock = some g → ¬ F g) : w'.ownsRow base e 1 v n xs := by
  refine ⟨h.1, ?_⟩
  rcases h.2 with h0 | ⟨g, cap, cur, rfl, h1, h2, h3⟩
  · exact .inl h0
  · refine .inr ⟨g, cap, cur, rfl, h1, ?_, h3⟩
    rw [k.block g (by rcases Nat.lt_or_ge g w.heap.size with hlt | hge; exact hlt; rw [Array.getElem?_eq_none hge] at h2; cases h2) (hn g rfl)]
    exact h2
theorem Reads.chg {kd : IntKind} {A : Option Addr} {n c : Nat} {l : List Nat} (h : Reads kd w A n c l) (k : Chg F w w') (hn : 0 < n → ∀ ad, A = some ad → ¬ F ad.block) : Reads kd w' A n c l :=
  ⟨h.len, h.room, h.cap, h.wf, fun i hi => by
    obtain ⟨ad, e, hlt, hc⟩ := h.cell i hi
    refine ⟨ad, e, Nat.lt_of_lt_of_le hlt k.size, ?_⟩
    rw [← hc]
    exact World.cell?_of_block (k.block _ (by rw [block_add]; exact hlt) (by rw [block_add]; exact hn (by have := h.len; omega) ad e))⟩
end
/-- append onto a row of the call's own, from whatever slice of integers, with the block that the result lies in. -/
theorem wpList_appB {P : Program} {w : World} {ops : Array Oper} {rest : List Oper} {o : Oper} {a : Act} {Q : Exit → Act → World → Prop} (hgd : o.guard = none) (s x : Operand) (t : TypeId)
    (ho : o.op = .call { callee := .builtin .append, args := #[s, x], argTypes := #[t, t] })
    (base : Nat) (e : TypeId) (i : TypeInfo) (z : Value) (bytes : Nat) (ht : P.underlying t = some (.slice e)) (hi : P.info? e = some i) (hz : i.zero = some z)
    (hsize : i.size = 1) (hby : i.bytes = bytes) (hzs : z.cells.size = 1)
    (v : Value) (n : Nat) (xs : List Value) (hs : a.eval s = v) (hown : w.ownsRow base e 1 v n xs)
    (k : IntKind) (A : Option Addr) (m c : Nat) (l : List Nat) (hx : a.eval x = .slice A m c) (hr : Reads k w A m c l)
    (h63 : n + m ≤ maxLen) (hbytes : (n + m) * bytes ≤ 140737488355328) (hbase : base ≤ w.heap.size)
    (h : ∀ v' w', w'.ownsRow base e 1 v' (n + m) (xs ++ ints k l) → w.grownBy w' v.ownBlock → (v'.ownBlock = v.ownBlock ∨ v'.ownBlock = some w.heap.size) → wpList P ops Q rest (a.put o.dst v') w') : wpList P ops Q (o :: rest) a w := by
  cases A with
  | none =>
    have hm : m = 0 := by
      rcases Nat.eq_zero_or_pos m with h0 | h0
      · exact h0
      · obtain ⟨ad, e', _⟩ := hr.cell 0 (by rw [hr.len]; exact h0)
        cases e'
    subst hm
    have hl : l = [] := List.eq_nil_of_length_eq_zero hr.len
    subst hl
    have hrun : (Builtin.append_ #[t, t] o.type #[v, .slice none 0 c]).run P w = .ok v w := by
      rcases hown.2 with ⟨rfl, rfl⟩ | ⟨g, cap, cur, rfl, _, _, hnc, _⟩
      · simp [Builtin.append_, run_underlying ht, sizeOf, typeInfo, hi, Builtin.lenOf, Builtin.firstCells]
      · simp [Builtin.append_, run_underlying ht, sizeOf, typeInfo, hi, Builtin.lenOf, Builtin.firstCells, hnc, storeCells]
    refine wpList_plain hgd fun K hK => ?_
    have := hK _ _ (h v w (by simpa [ints] using hown) (World.grownBy.refl w _) (.inl rfl))
    unfold Oper.wp execOp
    simp only [ho, resolve, invoke, builtin, Sem.run_bind, Sem.run_pure, Result.andThen_ok, List.map_toArray, List.map_cons, List.map_nil, hs, hx, hrun]
    exact this
  | some ad =>
    refine wpList_append_own_at w hgd s x t ho base e i z 1 bytes ht hi hz hsize hby hzs (by decide) v n xs hs hown ad m c (ints k l) hx (by rw [length_ints, hr.len]; omega) (fun j u hu => ?_) (ints_oneCell _ _) h63 hbytes hbase (fun v' w' h1 h2 _ h4 => h v' w' h1 h2 h4)
    have hj : j < l.length := by
      rcases Nat.lt_or_ge j l.length with h | h
      · exact h
      · rw [List.getElem?_eq_none (by rw [length_ints]; exact h)] at hu; cases hu
    obtain ⟨ad', e', _, hc⟩ := hr.cell j hj
    cases e'
    rw [hc, ← hu]
    simp [ints, hj]
/-- The same as one step of a region that draws. -/
theorem step_appB {P : Program} {w : World} {ops : Array Oper} {o : Oper} {a : Act} {K : Act → World → Prop} {Q : Exit → Act → World → Prop} {E : Prop} (hgd : o.guard = none) (s x : Operand) (t : TypeId)
    (ho : o.op = .call { callee := .builtin .append, args := #[s, x], argTypes := #[t, t] })
    (base : Nat) (e : TypeId) (i : TypeInfo) (z : Value) (bytes : Nat) (ht : P.underlying t = some (.slice e)) (hi : P.info? e = some i) (hz : i.zero = some z)
    (hsize : i.size = 1) (hby : i.bytes = bytes) (hzs : z.cells.size = 1)
    (v : Value) (n : Nat) (xs : List Value) (hs : a.eval s = v) (hown : w.ownsRow base e 1 v n xs)
    (k : IntKind) (A : Option Addr) (m c : Nat) (l : List Nat) (hx : a.eval x = .slice A m c) (hr : Reads k w A m c l)
    (h63 : n + m ≤ maxLen) (hbytes : (n + m) * bytes ≤ 140737488355328) (hbase : base ≤ w.heap.size)
    (h : ∀ v' w', w'.ownsRow base e 1 v' (n + m) (xs ++ ints k l) → w.grownBy w' v.ownBlock → (v'.ownBlock = v.ownBlock ∨ v'.ownBlock = some w.heap.size) → K (a.put o.dst v') w') :
    if Region.wanted o (yielded ops a.tmps) = true then Oper.wp P o a w K Q else E := by
  have hw : Region.wanted o (yielded ops a.tmps) = true := by simp [Region.wanted, hgd]
  rw [if_pos hw]
  cases A with
  | none =>
    have hm : m = 0 := by
      rcases Nat.eq_zero_or_pos m with h0 | h0
      · exact h0
      · obtain ⟨ad, e', _⟩ := hr.cell 0 (by rw [hr.len]; exact h0)
        cases e'
    subst hm
    have hl : l = [] := List.eq_nil_of_length_eq_zero hr.len
    subst hl
    have hrun : (Builtin.append_ #[t, t] o.type #[v, .slice none 0 c]).run P w = .ok v w := by
      rcases hown.2 with ⟨rfl, rfl⟩ | ⟨g, cap, cur, rfl, _, _, hnc, _⟩
      · simp [Builtin.append_, run_underlying ht, sizeOf, typeInfo, hi, Builtin.lenOf, Builtin.firstCells]
      · simp [Builtin.append_, run_underlying ht, sizeOf, typeInfo, hi, Builtin.lenOf, Builtin.firstCells, hnc, storeCells]
    have := h v w (by simpa [ints] using hown) (World.grownBy.refl w _) (.inl rfl)
    unfold Oper.wp execOp
    simp only [ho, resolve, invoke, builtin, Sem.run_bind, Sem.run_pure, Result.andThen_ok, List.map_toArray, List.map_cons, List.map_nil, hs, hx, hrun]
    exact this
  | some ad =>
    obtain ⟨v', w', hr', h2, h3, h4, h5⟩ := run_append_own_at (P := P) w base t o.type e i z 1 bytes ht hi hz hsize hby hzs (by decide) v n xs hown ad m c (ints k l) (by rw [length_ints, hr.len]; omega) (fun j u hu => by
      have hj : j < l.length := by
        rcases Nat.lt_or_ge j l.length with h | h
        · exact h
        · rw [List.getElem?_eq_none (by rw [length_ints]; exact h)] at hu; cases hu
      obtain ⟨ad', e', _, hc⟩ := hr.cell j hj
      cases e'
      rw [hc, ← hu]
      simp [ints, hj]) (ints_oneCell _ _) h63 hbytes hbase
    have := h v' w' h2 h3 h5
    unfold Oper.wp execOp
    simp only [ho, resolve, invoke, builtin, Sem.run_bind, Sem.run_pure, Result.andThen_ok, List.map_toArray, List.map_cons, List.map_nil, hs, hx, hr']
    exact this
end Go.Proofs.YtdldffgdipedpaaDoor
