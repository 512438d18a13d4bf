/- Plain words for pens (three whole numbers: the two colours and the attributes) that are changed by numbers: one number, the colours told by several, lists of numbers, the numbers of a pen; and that the latter make the pen of any pen. Conditions: none; it speaks of no program. -/
import Derived.Test.YtajllkfoaigdlaaDoorBase
namespace Go.Proofs.YtajllkfoaigdlaaDoor
open Go.RowKit
/-- The two colours, and the attributes as a number. -/
abbrev PenN := Nat × Nat × Nat
def PenN.ok (p : PenN) : Prop := p.1 ≤ 256 ∧ p.2.1 ≤ 256 ∧ p.2.2 < 128
def penW (p : PenN) : List Value := [.int .i64 (p.1 : Int), .int .i64 (p.2.1 : Int), .int .i64 (p.2.2 : Int)]
/-- What a number below 10 sets, what a number below 30 clears. -/
def setsN : List Nat := [0, 1, 2, 4, 8, 16, 0, 32, 0, 64]
def clrsN : List Nat := [0, 0, 0, 0, 0, 0, 0, 0, 0, 0, 0, 0, 0, 0, 0, 0, 0, 0, 0, 0, 0, 0, 3, 4, 8, 16, 0, 32, 0, 64]
def setM (j m : Nat) : Nat := m ||| setsN.getD j 0
def clrM (j m : Nat) : Nat := m &&& (127 - clrsN.getD j 0)
def hasM (j m : Nat) : Nat := m &&& setsN.getD j 0
theorem or_all : ∀ m : Nat, m < 128 → ∀ j, j < 10 → bits .or .i64 (m : Int) ((setsN.getD j 0 : Nat) : Int) = (setM j m : Nat) := by decide +kernel
theorem and_all : ∀ m : Nat, m < 128 → ∀ j, j < 10 → bits .and .i64 (m : Int) ((setsN.getD j 0 : Nat) : Int) = (hasM j m : Nat) := by decide +kernel
theorem not_all : ∀ m : Nat, m < 128 → ∀ j, j < 30 → bits .andNot .i64 (m : Int) ((clrsN.getD j 0 : Nat) : Int) = (clrM j m : Nat) := by decide +kernel
theorem setM_lt : ∀ m, m < 128 → ∀ j, j < 10 → setM j m < 128 := by decide +kernel
theorem clrM_lt : ∀ m, m < 128 → ∀ j, j < 30 → clrM j m < 128 := by decide +kernel

/-! ### One number -/
def recol (c : Nat) (n : Int) : Nat := if 30 ≤ n ∧ n ≤ 37 then (n - 29).toNat else if 90 ≤ n ∧ n ≤ 97 then (n - 81).toNat else if n = 39 then 0 else c
theorem recol_le {c : Nat} {n : Int} (h : c ≤ 256) : recol c n ≤ 256 := by
  unfold recol; split
  · omega
  · split
    · omega
    · split <;> omega
def change (p : PenN) (n : Int) : PenN :=
  if n ≤ 0 then (0, 0, 0) else if n < 10 then (p.1, p.2.1, setM n.toNat p.2.2) else if n < 30 then (p.1, p.2.1, clrM n.toNat p.2.2) else (recol p.1 n, recol p.2.1 (n - 10), p.2.2)
theorem change_ok {p : PenN} (n : Int) (h : p.ok) : (change p n).ok := by
  obtain ⟨h1, h2, h3⟩ := h
  unfold change; split
  · exact ⟨by decide, by decide, by decide⟩
  · split
    · exact ⟨h1, h2, setM_lt _ h3 _ (by omega)⟩
    · split
      · exact ⟨h1, h2, clrM_lt _ h3 _ (by omega)⟩
      · exact ⟨recol_le h1, recol_le h2, h3⟩

/-! ### Colours told by several -/
def colZ : List Int → Int × Nat
  | [] => (-1, 0)
  | [x] => if x = 2 then (-1, 1) else (-1, 1)
  | x :: y :: r => if x = 2 then (-1, min 4 (r.length + 2)) else if x = 5 then (if y < 0 ∨ 255 < y then (-1, 2) else (y, 2)) else (-1, 1)
theorem colZ_nil : colZ [] = (-1, 0) := rfl
theorem colZ_two (r : List Int) : colZ (2 :: r) = (-1, min 4 (r.length + 1)) := by
  cases r with
  | nil => rfl
  | cons y r => simp [colZ]
theorem colZ_other {x : Int} (r : List Int) (h2 : x ≠ 2) (h5 : x ≠ 5 ∨ r = []) : colZ (x :: r) = (-1, 1) := by
  cases r with
  | nil => simp [colZ]
  | cons y r =>
    have : x ≠ 5 := h5.resolve_right (by simp)
    simp [colZ, h2, this]
theorem colZ_bad {y : Int} (r : List Int) (h : y < 0 ∨ 255 < y) : colZ (5 :: y :: r) = (-1, 2) := by simp [colZ, h]
theorem colZ_hit {y : Int} (r : List Int) (h0 : 0 ≤ y) (h1 : y ≤ 255) : colZ (5 :: y :: r) = (y, 2) := by
  have : ¬ (y < 0 ∨ 255 < y) := by omega
  simp [colZ, this]
theorem colZ_le (l : List Int) : (colZ l).2 ≤ l.length := by
  match l with
  | [] => simp [colZ]
  | [x] => simp [colZ]
  | x :: y :: r =>
    simp only [colZ, List.length_cons]
    split
    · show min 4 (r.length + 2) ≤ _; omega
    · split
      · split <;> simp
      · simp
theorem colZ_range (l : List Int) : (colZ l).1 = -1 ∨ (0 ≤ (colZ l).1 ∧ (colZ l).1 ≤ 255) := by
  match l with
  | [] => simp [colZ]
  | [x] => simp [colZ]
  | x :: y :: r =>
    simp only [colZ]
    split
    · simp
    · split
      · split
        · simp
        · right; simp only; omega
      · simp

/-! ### Lists of numbers -/
def paint (p : PenN) (n c : Int) : PenN := if c < 0 then p else if n = 38 then ((c + 1).toNat, p.2.1, p.2.2) else (p.1, (c + 1).toNat, p.2.2)
def applyL (p : PenN) : List Int → PenN
  | [] => p
  | n :: r => if n = 38 ∨ n = 48 then applyL (paint p n (colZ r).1) (r.drop (colZ r).2) else applyL (change p n) r
termination_by l => l.length
decreasing_by
  · simp only [List.length_drop, List.length_cons]; omega
  · simp
def applyA (p : PenN) (l : List Int) : PenN := if l = [] then (0, 0, 0) else applyL p l
theorem applyL_nil (p : PenN) : applyL p [] = p := by rw [applyL]
theorem applyL_one (p : PenN) {n : Int} (r : List Int) (h : ¬ (n = 38 ∨ n = 48)) : applyL p (n :: r) = applyL (change p n) r := by rw [applyL, if_neg h]
theorem applyL_col (p : PenN) {n : Int} (r : List Int) (h : n = 38 ∨ n = 48) : applyL p (n :: r) = applyL (paint p n (colZ r).1) (r.drop (colZ r).2) := by rw [applyL, if_pos h]
theorem paint_ok {p : PenN} (n : Int) {c : Int} (h : p.ok) (hc : c ≤ 255) : (paint p n c).ok := by
  obtain ⟨h1, h2, h3⟩ := h
  unfold paint; split
  · exact ⟨h1, h2, h3⟩
  · split
    · exact ⟨by show (c + 1).toNat ≤ 256; omega, h2, h3⟩
    · exact ⟨h1, by show (c + 1).toNat ≤ 256; omega, h3⟩
theorem colZ_le255 (l : List Int) : (colZ l).1 ≤ 255 := by have := colZ_range l; omega
theorem applyL_ok : ∀ (k : Nat) (p : PenN) (l : List Int), l.length ≤ k → p.ok → (applyL p l).ok := by
  intro k
  induction k with
  | zero =>
    intro p l hl h
    rw [List.eq_nil_of_length_eq_zero (Nat.le_zero.1 hl), applyL_nil]; exact h
  | succ k ih =>
    intro p l hl h
    cases l with
    | nil => rw [applyL_nil]; exact h
    | cons n r =>
      have hr : r.length ≤ k := by simpa using hl
      by_cases hn : n = 38 ∨ n = 48
      · rw [applyL_col p r hn]
        exact ih _ _ (by rw [List.length_drop]; omega) (paint_ok _ h (colZ_le255 r))
      · rw [applyL_one p r hn]
        exact ih _ _ hr (change_ok n h)
theorem applyA_ok {p : PenN} (l : List Int) (h : p.ok) : (applyA p l).ok := by
  unfold applyA; split
  · exact ⟨by decide, by decide, by decide⟩
  · exact applyL_ok _ p l (Nat.le_refl _) h
/-- Numbers that belong to no others are told one by one. -/
theorem applyL_snoc : ∀ (l : List Int) (p : PenN) (n : Int), (∀ x ∈ l, ¬ (x = 38 ∨ x = 48)) → ¬ (n = 38 ∨ n = 48) → applyL p (l ++ [n]) = change (applyL p l) n
  | [], p, n, _, hn => by rw [List.nil_append, applyL_one _ _ hn, applyL_nil, applyL_nil]
  | x :: l, p, n, h, hn => by
    have hx := h x (by simp)
    rw [List.cons_append, applyL_one _ _ hx, applyL_one _ _ hx]
    exact applyL_snoc l _ n (fun y hy => h y (by simp [hy])) hn

/-! ### The numbers of a pen -/
/-- Those of the attributes that are told by numbers below j. -/
def markL (m j : Nat) : List Int := ((List.range j).filter fun i => hasM i m != 0).map fun i : Nat => (i : Int)
def colL (c k : Nat) : List Int := if c = 0 then [] else if c < 9 then [((c + 29 + k : Nat) : Int)] else if c < 17 then [((c + 81 + k : Nat) : Int)] else [((38 + k : Nat) : Int), 5, ((c - 1 : Nat) : Int)]
def codesL (p : PenN) : List Int := (0 :: markL p.2.2 10) ++ (colL p.1 0 ++ colL p.2.1 10)
theorem markL_zero (m : Nat) : markL m 0 = [] := rfl
theorem markL_succ (m j : Nat) : markL m (j + 1) = markL m j ++ if (hasM j m != 0) = true then [(j : Int)] else [] := by
  unfold markL
  rw [List.range_succ, List.filter_append, List.map_append]
  congr 1
  by_cases h : (hasM j m != 0) = true
  · rw [if_pos h]; simp [h]
  · rw [if_neg h]; simp [h]
theorem markL_length (m j : Nat) : (markL m j).length ≤ j := by
  unfold markL
  rw [List.length_map]
  have := List.length_filter_le (fun i => hasM i m != 0) (List.range j)
  rwa [List.length_range] at this
theorem colL_length (c k : Nat) : (colL c k).length ≤ 3 := by
  unfold colL; split
  · simp
  · split
    · simp
    · split <;> simp
theorem applyL_marks : ∀ (l : List Int) (f b m : Nat) (r : List Int), (∀ x ∈ l, 0 < x ∧ x < 10) → applyL (f, b, m) (l ++ r) = applyL (f, b, l.foldl (fun m x => setM x.toNat m) m) r
  | [], _, _, _, _, _ => rfl
  | x :: l, f, b, m, r, h => by
    have hx := h x (by simp)
    rw [List.cons_append, applyL_one _ _ (by omega), List.foldl_cons]
    have : change (f, b, m) x = (f, b, setM x.toNat m) := by unfold change; rw [if_neg (by omega), if_pos (by omega)]
    rw [this]
    exact applyL_marks l f b _ r (fun y hy => h y (by simp [hy]))
theorem marks_all : ∀ m, m < 128 → (∀ x ∈ markL m 10, 0 < x ∧ x < 10) ∧ (markL m 10).foldl (fun m x => setM x.toNat m) 0 = m := by decide +kernel
theorem applyL_fg {c b m : Nat} (r : List Int) (hc : c ≤ 256) : applyL (0, b, m) (colL c 0 ++ r) = applyL (c, b, m) r := by
  unfold colL
  split
  · next h => subst h; rfl
  · split
    · rw [List.cons_append, List.nil_append, applyL_one _ _ (by omega)]
      congr 1
      unfold change recol
      rw [if_neg (by omega), if_neg (by omega), if_neg (by omega), if_pos (by omega), if_neg (by omega), if_neg (by omega), if_neg (by omega)]
      congr 1
      omega
    · split
      · rw [List.cons_append, List.nil_append, applyL_one _ _ (by omega)]
        congr 1
        unfold change recol
        rw [if_neg (by omega), if_neg (by omega), if_neg (by omega), if_neg (by omega), if_pos (by omega), if_neg (by omega), if_neg (by omega), if_neg (by omega)]
        congr 1
        omega
      · rw [List.cons_append, List.cons_append, List.cons_append, List.nil_append, applyL_col _ _ (by omega), colZ_hit _ (by omega) (by omega)]
        congr 1
        unfold paint
        rw [if_neg (by omega), if_pos (by omega)]
        congr 1
        omega
theorem applyL_bg {c f m : Nat} (r : List Int) (hc : c ≤ 256) : applyL (f, 0, m) (colL c 10 ++ r) = applyL (f, c, m) r := by
  unfold colL
  split
  · next h => subst h; rfl
  · split
    · rw [List.cons_append, List.nil_append, applyL_one _ _ (by omega)]
      congr 1
      unfold change recol
      rw [if_neg (by omega), if_neg (by omega), if_neg (by omega), if_neg (by omega), if_neg (by omega), if_neg (by omega), if_pos (by omega)]
      congr 2
      omega
    · split
      · rw [List.cons_append, List.nil_append, applyL_one _ _ (by omega)]
        congr 1
        unfold change recol
        rw [if_neg (by omega), if_neg (by omega), if_neg (by omega), if_neg (by omega), if_neg (by omega), if_neg (by omega), if_neg (by omega), if_pos (by omega)]
        congr 2
        omega
      · rw [List.cons_append, List.cons_append, List.cons_append, List.nil_append, applyL_col _ _ (by omega), colZ_hit _ (by omega) (by omega)]
        congr 1
        unfold paint
        rw [if_neg (by omega), if_neg (by omega)]
        congr 2
        omega
/-- The numbers of a pen make it of any other one. -/
theorem codes_make (p q : PenN) (h : p.ok) : applyA q (codesL p) = p := by
  obtain ⟨f, b, m⟩ := p
  obtain ⟨h1, h2, h3⟩ := h
  have hm := marks_all m h3
  unfold applyA codesL
  rw [if_neg (by simp), List.cons_append, applyL_one _ _ (by omega), show change q 0 = (0, 0, 0) from rfl, applyL_marks _ _ _ _ _ hm.1, hm.2, applyL_fg _ h1]
  have := applyL_bg (f := f) (m := m) [] h2
  rw [List.append_nil] at this
  rw [this, applyL_nil]
theorem codes_length (p : PenN) : (codesL p).length ≤ 17 := by
  unfold codesL
  have h1 := markL_length p.2.2 10
  have h2 := colL_length p.1 0
  have h3 := colL_length p.2.1 10
  simp only [List.length_append, List.length_cons]
  omega

/-! ### The document's answer, mark by mark -/
def kMark (i : Nat) : Nat := [1, 2, 3, 4, 5, 7, 9].getD i 0
def bMark (i : Nat) : Nat := [1, 2, 4, 8, 16, 32, 64].getD i 0
def hasN (m b : Nat) : Bool := m / b % 2 == 1
def setN (m b : Nat) (is : Bool) : Nat := if hasN m b = is then m else if is = true then m + b else m - b
def onN (n : Int) (i m : Nat) : Nat := if n = (kMark i : Int) then setN m (bMark i) true else m
def offT (n : Int) (i : Nat) : Bool := decide ((n = (kMark i : Int) + 20 ∧ 22 < n) ∨ (n = 22 ∧ kMark i ≤ 2))
def offN (n : Int) (i m : Nat) : Nat := if offT n i = true then setN m (bMark i) false else m
/-- The attributes behind the first i marks. -/
def refM (n : Int) : Nat → Nat → Nat
  | 0, m => m
  | i + 1, m => offN n i (onN n i (refM n i m))
theorem setN_lt : ∀ m, m < 128 → ∀ i, i < 7 → setN m (bMark i) true < 128 ∧ setN m (bMark i) false < 128 ∧ (hasN m (bMark i) = true → bMark i ≤ m) := by decide +kernel
theorem onN_lt {m : Nat} (n : Int) {i : Nat} (h : m < 128) (hi : i < 7) : onN n i m < 128 := by
  unfold onN; split
  · exact (setN_lt m h i hi).1
  · exact h
theorem offN_lt {m : Nat} (n : Int) {i : Nat} (h : m < 128) (hi : i < 7) : offN n i m < 128 := by
  unfold offN; split
  · exact (setN_lt m h i hi).2.1
  · exact h
theorem refM_lt (n : Int) {m : Nat} (h : m < 128) : ∀ i, i ≤ 7 → refM n i m < 128
  | 0, _ => h
  | i + 1, hi => offN_lt n (onN_lt n (refM_lt n h i (by omega)) (by omega)) (by omega)
theorem refM_small : ∀ m, m < 128 → ∀ n, n < 30 → 0 < n → refM (n : Nat) 7 m = if n < 10 then setM n m else clrM n m := by decide +kernel
theorem refM_big {n : Int} (hn : 30 ≤ n) (m : Nat) : ∀ i, i ≤ 7 → refM n i m = m
  | 0, _ => rfl
  | i + 1, hi => by
    have hk : kMark i ≤ 9 := by
      have : ∀ i, i < 7 → kMark i ≤ 9 := by decide
      exact this i (by omega)
    show offN n i (onN n i (refM n i m)) = m
    rw [refM_big hn m i (by omega)]
    unfold offN onN
    rw [if_neg (by unfold offT; rw [decide_eq_true_eq]; omega), if_neg (by omega)]
def colN (n a : Int) : Int := if a ≤ n ∧ n ≤ a + 7 then n - a + 1 else if a + 60 ≤ n ∧ n ≤ a + 67 then n - a - 51 else if n = a + 9 then 0 else -1
theorem colN_range (n a : Int) : -1 ≤ colN n a ∧ colN n a ≤ 16 := by
  unfold colN; split
  · omega
  · split
    · omega
    · split <;> omega
def keepN (c : Nat) (x : Int) : Nat := if 0 ≤ x then x.toNat else c
theorem change_ref {p : PenN} {n : Int} (hp : p.ok) (h : 0 < n) : change p n = (keepN p.1 (colN n 30), keepN p.2.1 (colN n 40), refM n 7 p.2.2) := by
  unfold change
  rw [if_neg (by omega)]
  by_cases h30 : n < 30
  · obtain ⟨k, rfl⟩ : ∃ k : Nat, n = k := ⟨n.toNat, by omega⟩
    rw [refM_small _ hp.2.2 k (by omega) (by omega)]
    have e1 : keepN p.1 (colN k 30) = p.1 := by unfold keepN colN; rw [if_neg]; rw [if_neg (by omega), if_neg (by omega), if_neg (by omega)]; omega
    have e2 : keepN p.2.1 (colN k 40) = p.2.1 := by unfold keepN colN; rw [if_neg]; rw [if_neg (by omega), if_neg (by omega), if_neg (by omega)]; omega
    rw [e1, e2, Int.toNat_natCast]
    by_cases h10 : (k : Int) < 10
    · rw [if_pos h10, if_pos (by omega)]
    · rw [if_neg h10, if_pos h30, if_neg (by omega)]
  · rw [if_neg (by omega), if_neg h30, refM_big (by omega) _ 7 (Nat.le_refl _)]
    have e1 : recol p.1 n = keepN p.1 (colN n 30) := by
      unfold recol keepN colN
      by_cases h1 : 30 ≤ n ∧ n ≤ 37
      · rw [if_pos h1, if_pos (show 30 ≤ n ∧ n ≤ 30 + 7 by omega), if_pos (by omega)]; omega
      · rw [if_neg h1, if_neg (show ¬ (30 ≤ n ∧ n ≤ 30 + 7) by omega)]
        by_cases h2 : 90 ≤ n ∧ n ≤ 97
        · rw [if_pos h2, if_pos (show (30 : Int) + 60 ≤ n ∧ n ≤ 30 + 67 by omega), if_pos (by omega)]; omega
        · rw [if_neg h2, if_neg (show ¬ ((30 : Int) + 60 ≤ n ∧ n ≤ 30 + 67) by omega)]
          by_cases h3 : n = 39
          · rw [if_pos h3, if_pos (show n = 30 + 9 by omega), if_pos (by omega)]; rfl
          · rw [if_neg h3, if_neg (show ¬ n = 30 + 9 by omega), if_neg (by omega)]
    have e2 : recol p.2.1 (n - 10) = keepN p.2.1 (colN n 40) := by
      unfold recol keepN colN
      by_cases h1 : 40 ≤ n ∧ n ≤ 47
      · rw [if_pos (show 30 ≤ n - 10 ∧ n - 10 ≤ 37 by omega), if_pos (show 40 ≤ n ∧ n ≤ 40 + 7 by omega), if_pos (by omega)]; omega
      · rw [if_neg (show ¬ (30 ≤ n - 10 ∧ n - 10 ≤ 37) by omega), if_neg (show ¬ (40 ≤ n ∧ n ≤ 40 + 7) by omega)]
        by_cases h2 : 100 ≤ n ∧ n ≤ 107
        · rw [if_pos (show 90 ≤ n - 10 ∧ n - 10 ≤ 97 by omega), if_pos (show (40 : Int) + 60 ≤ n ∧ n ≤ 40 + 67 by omega), if_pos (by omega)]; omega
        · rw [if_neg (show ¬ (90 ≤ n - 10 ∧ n - 10 ≤ 97) by omega), if_neg (show ¬ ((40 : Int) + 60 ≤ n ∧ n ≤ 40 + 67) by omega)]
          by_cases h3 : n = 49
          · rw [if_pos (show n - 10 = 39 by omega), if_pos (show n = 40 + 9 by omega), if_pos (by omega)]; rfl
          · rw [if_neg (show ¬ n - 10 = 39 by omega), if_neg (show ¬ n = 40 + 9 by omega), if_neg (by omega)]
    rw [e1, e2]
/-- The numbers of the attributes, by the document's marks. -/
def refL (m i : Nat) : List Int := ((List.range i).filter fun j => hasN m (bMark j)).map fun j : Nat => (kMark j : Int)
theorem refL_zero (m : Nat) : refL m 0 = [] := rfl
theorem refL_succ (m j : Nat) : refL m (j + 1) = refL m j ++ if hasN m (bMark j) = true then [(kMark j : Int)] else [] := by
  unfold refL
  rw [List.range_succ, List.filter_append, List.map_append]
  congr 1
  by_cases h : hasN m (bMark j) = true
  · rw [if_pos h]; simp [h]
  · rw [if_neg h]; simp [h]
theorem refL_all : ∀ m, m < 128 → refL m 7 = markL m 10 := by decide +kernel
/-- What follows a colour's number, as the document's answer skips it. -/
theorem drop_two (r : List Int) : r.drop (min 4 r.length) = r.drop 4 := by
  by_cases h : 4 ≤ r.length
  · rw [Nat.min_eq_left h]
  · rw [Nat.min_eq_right (by omega), List.drop_length, List.drop_eq_nil_of_le (by omega)]
/-- 38 or 48, behind which no colour is told, or one is. -/
theorem told_none {p q : PenN} {x : Int} {r r' : List Int} (hx : x = 38 ∨ x = 48) (h : applyL p (x :: r) = q) (hc : (colZ r).1 = -1) (hd : r.drop (colZ r).2 = r') : applyL p r' = q := by
  rw [applyL_col _ _ hx, hc, hd] at h
  rw [← h]
  unfold paint
  rw [if_pos (by decide)]
theorem told_fg {p q : PenN} {r r' : List Int} {k : Nat} (h : applyL p (38 :: r) = q) (hc : (colZ r).1 = (k : Int)) (hd : r.drop (colZ r).2 = r') : applyL (k + 1, p.2.1, p.2.2) r' = q := by
  rw [applyL_col _ _ (.inl rfl), hc, hd] at h
  rw [← h]
  unfold paint
  rw [if_neg (by omega), if_pos rfl]
  congr 1
theorem told_bg {p q : PenN} {r r' : List Int} {k : Nat} (h : applyL p (48 :: r) = q) (hc : (colZ r).1 = (k : Int)) (hd : r.drop (colZ r).2 = r') : applyL (p.1, k + 1, p.2.2) r' = q := by
  rw [applyL_col _ _ (.inr rfl), hc, hd] at h
  rw [← h]
  unfold paint
  rw [if_neg (by omega), if_neg (by decide)]
  congr 1
end Go.Proofs.YtajllkfoaigdlaaDoor
