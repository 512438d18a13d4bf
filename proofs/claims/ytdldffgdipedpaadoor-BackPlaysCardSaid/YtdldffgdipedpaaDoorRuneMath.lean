/- The encodings of code points and their decoding, as functions of lists of numbers: no program. Conditions: none. -/
import Derived.Test.YtdldffgdipedpaaDoorStr
import Derived.Lib.DecodeN
set_option linter.unusedVariables false
namespace Go.Proofs.YtdldffgdipedpaaDoor
open Go.Lib
/-- Are the bytes the encoding of a code point? -/
def okL : List Nat → Bool
  | [a] => decide (a < 128)
  | [a, b] => decide (194 ≤ a ∧ a ≤ 223 ∧ 128 ≤ b ∧ b ≤ 191)
  | [a, b, c] => decide (224 ≤ a ∧ a ≤ 239 ∧ (128 ≤ b ∧ b ≤ 191) ∧ (128 ≤ c ∧ c ≤ 191) ∧ (a = 224 → 160 ≤ b) ∧ (a = 237 → b ≤ 159))
  | [a, b, c, d] => decide (240 ≤ a ∧ a ≤ 244 ∧ (128 ≤ b ∧ b ≤ 191) ∧ (128 ≤ c ∧ c ≤ 191) ∧ (128 ≤ d ∧ d ≤ 191) ∧ (a = 240 → 144 ≤ b) ∧ (a = 244 → b ≤ 143))
  | _ => false
/-- Are the bytes, one or more, a proper beginning of an encoding? -/
def preL : List Nat → Bool
  | [a] => decide (194 ≤ a ∧ a ≤ 244)
  | [a, b] => decide (224 ≤ a ∧ a ≤ 244 ∧ (128 ≤ b ∧ b ≤ 191) ∧ (a = 224 → 160 ≤ b) ∧ (a = 237 → b ≤ 159) ∧ (a = 240 → 144 ≤ b) ∧ (a = 244 → b ≤ 143))
  | [a, b, c] => decide (240 ≤ a ∧ a ≤ 244 ∧ (128 ≤ b ∧ b ≤ 191) ∧ (128 ≤ c ∧ c ≤ 191) ∧ (a = 240 → 144 ≤ b) ∧ (a = 244 → b ≤ 143))
  | _ => false
/-- The code point of an encoding. -/
def valL : List Nat → Nat
  | [a] => a
  | [a, b] => a % 32 * 64 + b % 64
  | [a, b, c] => a % 16 * 4096 + b % 64 * 64 + c % 64
  | [a, b, c, d] => a % 8 * 262144 + b % 64 * 4096 + c % 64 * 64 + d % 64
  | _ => 0
def signZ (c : Int) : Bool := decide ((0 ≤ c ∧ c ≤ 1114111) ∧ (c < 55296 ∨ 57343 < c))
def uniN (c : Nat) : List Nat :=
  if c < 128 then [c] else if c < 2048 then [192 + c / 64, 128 + c % 64] else if c < 65536 then [224 + c / 4096, 128 + c / 64 % 64, 128 + c % 64] else [240 + c / 262144, 128 + c / 4096 % 64, 128 + c / 64 % 64, 128 + c % 64]
/-- What stands for a number: itself, or the broken one. -/
def fixZ (c : Int) : Nat := if signZ c then c.toNat else 65533
def uniZ (c : Int) : List Nat := uniN (fixZ c)
theorem fixZ_sign (c : Int) : signZ (fixZ c : Int) = true := by
  unfold fixZ
  split
  · rename_i h
    simp only [signZ, decide_eq_true_eq] at h ⊢
    omega
  · decide
theorem fixZ_fix (c : Nat) (h : signZ (c : Int) = true) : fixZ (c : Int) = c := by rw [fixZ, if_pos h]; rfl
theorem uniN_1 (c : Nat) (h : c < 128) : uniN c = [c] := by rw [uniN, if_pos h]
theorem uniN_2 (c : Nat) (h : 128 ≤ c) (h' : c < 2048) : uniN c = [192 + c / 64, 128 + c % 64] := by rw [uniN, if_neg (by omega), if_pos h']
theorem uniN_3 (c : Nat) (h : 2048 ≤ c) (h' : c < 65536) : uniN c = [224 + c / 4096, 128 + c / 64 % 64, 128 + c % 64] := by rw [uniN, if_neg (by omega), if_neg (by omega), if_pos h']
theorem uniN_4 (c : Nat) (h : 65536 ≤ c) : uniN c = [240 + c / 262144, 128 + c / 4096 % 64, 128 + c / 64 % 64, 128 + c % 64] := by rw [uniN, if_neg (by omega), if_neg (by omega), if_neg (by omega)]
/-- The shapes of encodings. -/
theorem uniN_ok (c : Nat) (h : signZ (c : Int) = true) : okL (uniN c) = true ∧ valL (uniN c) = c := by
  simp only [signZ, decide_eq_true_eq] at h
  by_cases h1 : c < 128
  · rw [uniN_1 c h1]; simp only [okL, valL, decide_eq_true_eq]; exact ⟨h1, trivial⟩
  · by_cases h2 : c < 2048
    · rw [uniN_2 c (by omega) h2]; simp only [okL, valL, decide_eq_true_eq]; omega
    · by_cases h3 : c < 65536
      · rw [uniN_3 c (by omega) h3]; simp only [okL, valL, decide_eq_true_eq]; omega
      · rw [uniN_4 c (by omega)]; simp only [okL, valL, decide_eq_true_eq]; omega
theorem ok_enc (l : List Nat) (h : okL l = true) : uniN (valL l) = l ∧ signZ (valL l : Int) = true := by
  match l with
  | [] => simp [okL] at h
  | [a] =>
    simp only [okL, decide_eq_true_eq] at h
    rw [show valL [a] = a from rfl, uniN_1 a h]
    refine ⟨rfl, ?_⟩
    simp only [signZ, decide_eq_true_eq]
    omega
  | [a, b] =>
    simp only [okL, decide_eq_true_eq] at h
    rw [show valL [a, b] = a % 32 * 64 + b % 64 from rfl, uniN_2 _ (by omega) (by omega)]
    simp only [signZ, decide_eq_true_eq, List.cons.injEq, and_true]
    omega
  | [a, b, c] =>
    simp only [okL, decide_eq_true_eq] at h
    rw [show valL [a, b, c] = a % 16 * 4096 + b % 64 * 64 + c % 64 from rfl, uniN_3 _ (by omega) (by omega)]
    simp only [signZ, decide_eq_true_eq, List.cons.injEq, and_true]
    omega
  | [a, b, c, d] =>
    simp only [okL, decide_eq_true_eq] at h
    rw [show valL [a, b, c, d] = a % 8 * 262144 + b % 64 * 4096 + c % 64 * 64 + d % 64 from rfl, uniN_4 _ (by omega)]
    simp only [signZ, decide_eq_true_eq, List.cons.injEq, and_true]
    omega
  | a :: b :: c :: d :: e :: r => simp [okL] at h
theorem ok_byte (l : List Nat) (h : okL l = true) : ∀ x ∈ l, x < 256 := by
  match l with
  | [] => simp
  | [a] => simp only [okL, decide_eq_true_eq] at h; simp; omega
  | [a, b] => simp only [okL, decide_eq_true_eq] at h; simp; omega
  | [a, b, c] => simp only [okL, decide_eq_true_eq] at h; simp; omega
  | [a, b, c, d] => simp only [okL, decide_eq_true_eq] at h; simp; omega
  | a :: b :: c :: d :: e :: r => simp [okL] at h
theorem uniZ_byte (c : Int) : ∀ x ∈ uniZ c, x < 256 := ok_byte _ (uniN_ok _ (fixZ_sign c)).1
theorem uniZ_len (c : Int) : 1 ≤ (uniZ c).length ∧ (uniZ c).length ≤ 4 := by
  unfold uniZ uniN
  repeat' split
  all_goals simp
theorem ok_len (l : List Nat) (h : okL l = true) : 1 ≤ l.length ∧ l.length ≤ 4 := by
  match l with
  | [] => simp [okL] at h
  | [a] => simp
  | [a, b] => simp
  | [a, b, c] => simp
  | [a, b, c, d] => simp
  | a :: b :: c :: d :: e :: r => simp [okL] at h
theorem pre_len (l : List Nat) (h : preL l = true) : 1 ≤ l.length ∧ l.length ≤ 3 := by
  match l with
  | [] => simp [preL] at h
  | [a] => simp
  | [a, b] => simp
  | [a, b, c] => simp
  | a :: b :: c :: d :: r => simp [preL] at h
theorem ok_pre (l : List Nat) (h : okL l = true) : preL l = false := by
  match l with
  | [] => rfl
  | [a] => simp only [okL, decide_eq_true_eq] at h; simp only [preL, decide_eq_false_iff_not]; omega
  | [a, b] => simp only [okL, decide_eq_true_eq] at h; simp only [preL, decide_eq_false_iff_not]; omega
  | [a, b, c] => simp only [okL, decide_eq_true_eq] at h; simp only [preL, decide_eq_false_iff_not]; omega
  | [a, b, c, d] => rfl
  | a :: b :: c :: d :: e :: r => simp [okL] at h
/-! ### the reference's Whole and Begins -/
def accZ (c : Int) (l : List Nat) : Int := l.foldl (fun c (b : Nat) => c * 64 + (b : Int) - 128) c
def offsZ (n : Nat) : Int := if n ≤ 1 then 0 else if n = 2 then 192 else if n = 3 then 224 else 240
def numZ : List Nat → Int
  | [] => 0
  | a :: r => accZ ((a : Int) - offsZ (r.length + 1)) r
def wholeZ (l : List Nat) : Int := if okL l then (valL l : Int) else -1
theorem whole_yes (l : List Nat) (h : okL l = true) : numZ l = (valL l : Int) ∧ signZ (numZ l) = true ∧ uniZ (numZ l) = l := by
  have h2 := ok_enc l h
  have h1 : numZ l = (valL l : Int) := by
    match l with
    | [] => simp [okL] at h
    | [a] => simp [numZ, accZ, offsZ, valL]
    | [a, b] => simp only [okL, decide_eq_true_eq] at h; simp only [numZ, accZ, offsZ, valL, List.length, List.foldl]; simp only [show ¬ (0 + 1 + 1 ≤ 1) by decide, if_false, if_true]; omega
    | [a, b, c] => simp only [okL, decide_eq_true_eq] at h; simp only [numZ, accZ, offsZ, valL, List.length, List.foldl]; simp only [show ¬ (0 + 1 + 1 + 1 ≤ 1) by decide, show ¬ (0 + 1 + 1 + 1 = 2) by decide, if_false, if_true]; omega
    | [a, b, c, d] => simp only [okL, decide_eq_true_eq] at h; simp only [numZ, accZ, offsZ, valL, List.length, List.foldl]; simp only [show ¬ (0 + 1 + 1 + 1 + 1 ≤ 1) by decide, show ¬ (0 + 1 + 1 + 1 + 1 = 2) by decide, show ¬ (0 + 1 + 1 + 1 + 1 = 3) by decide, if_false]; omega
    | a :: b :: c :: d :: e :: r => simp [okL] at h
  refine ⟨h1, by rw [h1]; exact h2.2, ?_⟩
  rw [h1, uniZ, fixZ_fix _ h2.2]
  exact h2.1
theorem whole_no (l : List Nat) (h : okL l = false) : ¬ (signZ (numZ l) = true ∧ uniZ (numZ l) = l) := by
  rintro ⟨h1, h2⟩
  have := (uniN_ok (fixZ (numZ l)) (fixZ_sign _)).1
  rw [uniZ] at h2
  rw [h2] at this
  rw [this] at h
  cases h
/-! ### Go's FullRune and decode -/
def fullB (l : List Nat) : Bool :=
  decide (l.length ≠ 0 ∧ (firstT (l.getD 0 0) % 8 ≤ l.length
    ∨ (1 < l.length ∧ (l.getD 1 0 < accLo (firstT (l.getD 0 0) / 16) ∨ accHi (firstT (l.getD 0 0) / 16) < l.getD 1 0))
    ∨ (2 < l.length ∧ (l.getD 2 0 < 128 ∨ 191 < l.getD 2 0))))
def decL (l : List Nat) : Nat × Nat := decodeN l.length (l.getD 0 0) (l.getD 1 0) (l.getD 2 0) (l.getD 3 0)
theorem firstT_eq (a : Nat) : firstT a = if a < 128 then 240 else if a < 194 then 241 else if a < 224 then 2 else if a = 224 then 19 else if a < 237 then 3 else if a = 237 then 35 else if a < 240 then 3 else if a = 240 then 52 else if a < 244 then 4 else if a = 244 then 68 else 241 := rfl
theorem firstT_cl (a : Nat) :
    ((a < 194 ∨ 244 < a) ∧ firstT a % 8 ≤ 1) ∨ ((194 ≤ a ∧ a ≤ 223) ∧ firstT a = 2) ∨ (a = 224 ∧ firstT a = 19) ∨ (((225 ≤ a ∧ a ≤ 236) ∨ a = 238 ∨ a = 239) ∧ firstT a = 3)
    ∨ (a = 237 ∧ firstT a = 35) ∨ (a = 240 ∧ firstT a = 52) ∨ ((241 ≤ a ∧ a ≤ 243) ∧ firstT a = 4) ∨ (a = 244 ∧ firstT a = 68) := by
  rw [firstT_eq]
  repeat' split
  all_goals omega
theorem first_cl (a : Nat) :
    ((a < 194 ∨ 244 < a) ∧ firstT a % 8 ≤ 1) ∨ ((194 ≤ a ∧ a ≤ 223) ∧ firstT a % 8 = 2 ∧ accLo (firstT a / 16) = 128 ∧ accHi (firstT a / 16) = 191) ∨ (a = 224 ∧ firstT a % 8 = 3 ∧ accLo (firstT a / 16) = 160 ∧ accHi (firstT a / 16) = 191)
    ∨ (((225 ≤ a ∧ a ≤ 236) ∨ a = 238 ∨ a = 239) ∧ firstT a % 8 = 3 ∧ accLo (firstT a / 16) = 128 ∧ accHi (firstT a / 16) = 191) ∨ (a = 237 ∧ firstT a % 8 = 3 ∧ accLo (firstT a / 16) = 128 ∧ accHi (firstT a / 16) = 159)
    ∨ (a = 240 ∧ firstT a % 8 = 4 ∧ accLo (firstT a / 16) = 144 ∧ accHi (firstT a / 16) = 191) ∨ ((241 ≤ a ∧ a ≤ 243) ∧ firstT a % 8 = 4 ∧ accLo (firstT a / 16) = 128 ∧ accHi (firstT a / 16) = 191) ∨ (a = 244 ∧ firstT a % 8 = 4 ∧ accLo (firstT a / 16) = 128 ∧ accHi (firstT a / 16) = 143) := by
  rcases firstT_cl a with h | ⟨h, e⟩ | ⟨h, e⟩ | ⟨h, e⟩ | ⟨h, e⟩ | ⟨h, e⟩ | ⟨h, e⟩ | ⟨h, e⟩
  · exact .inl h
  · rw [e]; exact .inr (.inl ⟨h, rfl, rfl, rfl⟩)
  · rw [e]; exact .inr (.inr (.inl ⟨h, rfl, rfl, rfl⟩))
  · rw [e]; exact .inr (.inr (.inr (.inl ⟨h, rfl, rfl, rfl⟩)))
  · rw [e]; exact .inr (.inr (.inr (.inr (.inl ⟨h, rfl, rfl, rfl⟩))))
  · rw [e]; exact .inr (.inr (.inr (.inr (.inr (.inl ⟨h, rfl, rfl, rfl⟩)))))
  · rw [e]; exact .inr (.inr (.inr (.inr (.inr (.inr (.inl ⟨h, rfl, rfl, rfl⟩))))))
  · rw [e]; exact .inr (.inr (.inr (.inr (.inr (.inr (.inr ⟨h, rfl, rfl, rfl⟩))))))
theorem full_pre (l : List Nat) (h : 0 < l.length) : fullB l = !preL l := by
  have hc := first_cl (l.getD 0 0)
  unfold fullB
  generalize firstT (l.getD 0 0) % 8 = k at *
  generalize accLo (firstT (l.getD 0 0) / 16) = lo at *
  generalize accHi (firstT (l.getD 0 0) / 16) = hi at *
  match l with
  | [] => simp at h
  | [a] =>
    rw [Bool.eq_iff_iff]
    simp only [preL, List.length_cons, List.length_nil, List.getD_cons_zero, List.getD_cons_succ, Bool.not_eq_true', decide_eq_false_iff_not, decide_eq_true_eq] at hc ⊢
    omega
  | [a, b] =>
    rw [Bool.eq_iff_iff]
    simp only [preL, List.length_cons, List.length_nil, List.getD_cons_zero, List.getD_cons_succ, Bool.not_eq_true', decide_eq_false_iff_not, decide_eq_true_eq] at hc ⊢
    omega
  | [a, b, c] =>
    rw [Bool.eq_iff_iff]
    simp only [preL, List.length_cons, List.length_nil, List.getD_cons_zero, List.getD_cons_succ, Bool.not_eq_true', decide_eq_false_iff_not, decide_eq_true_eq] at hc ⊢
    omega
  | a :: b :: c :: d :: r =>
    rw [show preL (a :: b :: c :: d :: r) = false from rfl, Bool.not_false, decide_eq_true_eq]
    simp only [List.length_cons, List.getD_cons_zero] at hc ⊢
    omega
/-! ### decode -/
theorem decN_2 (n a b c d : Nat) (hn : 2 ≤ n) (h : 194 ≤ a ∧ a ≤ 223 ∧ 128 ≤ b ∧ b ≤ 191) : decodeN n a b c d = (a % 32 * 64 + b % 64, 2) := by
  rw [decodeN, if_neg (by omega), if_pos (by omega), if_pos (by omega)]
theorem decN_3 (n a b c d : Nat) (hn : 3 ≤ n) (h : 224 ≤ a ∧ a ≤ 239 ∧ (128 ≤ b ∧ b ≤ 191) ∧ (128 ≤ c ∧ c ≤ 191) ∧ (a = 224 → 160 ≤ b) ∧ (a = 237 → b ≤ 159)) : decodeN n a b c d = (a % 16 * 4096 + b % 64 * 64 + c % 64, 3) := by
  rw [decodeN, if_neg (by omega), if_neg (by omega), if_pos (by omega), if_pos (by omega)]
theorem decN_4 (n a b c d : Nat) (hn : 4 ≤ n) (h : 240 ≤ a ∧ a ≤ 244 ∧ (128 ≤ b ∧ b ≤ 191) ∧ (128 ≤ c ∧ c ≤ 191) ∧ (128 ≤ d ∧ d ≤ 191) ∧ (a = 240 → 144 ≤ b) ∧ (a = 244 → b ≤ 143)) : decodeN n a b c d = (a % 8 * 262144 + b % 64 * 4096 + c % 64 * 64 + d % 64, 4) := by
  rw [decodeN, if_neg (by omega), if_neg (by omega), if_neg (by omega), if_pos (by omega), if_pos (by omega)]
set_option maxRecDepth 100000 in
theorem decN_bad (n a b c d : Nat) (ha : a < 256) (h1 : ¬ a < 128) (h2 : ¬ (2 ≤ n ∧ 194 ≤ a ∧ a ≤ 223 ∧ 128 ≤ b ∧ b ≤ 191))
    (h3 : ¬ (3 ≤ n ∧ 224 ≤ a ∧ a ≤ 239 ∧ (128 ≤ b ∧ b ≤ 191) ∧ (128 ≤ c ∧ c ≤ 191) ∧ (a = 224 → 160 ≤ b) ∧ (a = 237 → b ≤ 159)))
    (h4 : ¬ (4 ≤ n ∧ 240 ≤ a ∧ a ≤ 244 ∧ (128 ≤ b ∧ b ≤ 191) ∧ (128 ≤ c ∧ c ≤ 191) ∧ (128 ≤ d ∧ d ≤ 191) ∧ (a = 240 → 144 ≤ b) ∧ (a = 244 → b ≤ 143))) : decodeN n a b c d = (65533, 1) := by
  unfold decodeN
  repeat' split
  all_goals first | rfl | (exfalso; omega)
/-- An encoding ahead is decoded. -/
theorem dec_ok (e r : List Nat) (h : okL e = true) : decL (e ++ r) = (valL e, e.length) := by
  unfold decL
  match e with
  | [] => simp [okL] at h
  | [a] =>
    simp only [okL, decide_eq_true_eq] at h
    simp only [List.cons_append, List.nil_append, List.getD_cons_zero, decodeN, if_pos h, valL, List.length_singleton]
  | [a, b] =>
    simp only [okL, decide_eq_true_eq] at h
    simp only [List.cons_append, List.nil_append, List.getD_cons_zero, List.getD_cons_succ, valL, List.length_cons, List.length_nil]
    exact decN_2 _ _ _ _ _ (by omega) h
  | [a, b, c] =>
    simp only [okL, decide_eq_true_eq] at h
    simp only [List.cons_append, List.nil_append, List.getD_cons_zero, List.getD_cons_succ, valL, List.length_cons, List.length_nil]
    exact decN_3 _ _ _ _ _ (by omega) h
  | [a, b, c, d] =>
    simp only [okL, decide_eq_true_eq] at h
    simp only [List.cons_append, List.nil_append, List.getD_cons_zero, List.getD_cons_succ, valL, List.length_cons, List.length_nil]
    exact decN_4 _ _ _ _ _ (by omega) h
  | a :: b :: c :: d :: e :: r => simp [okL] at h
/-- No encoding ahead: the broken one, of one byte. -/
theorem dec_bad (l : List Nat) (h0 : 0 < l.length) (hb : ∀ x ∈ l, x < 256) (h : ∀ k, okL (l.take k) = false) : decL l = (65533, 1) := by
  have h1 := h 1
  have h2 := h 2
  have h3 := h 3
  have h4 := h 4
  unfold decL
  match l with
  | [] => simp at h0
  | [a] =>
    have := hb a (by simp)
    simp only [List.take_succ_cons, List.take_nil, okL, decide_eq_false_iff_not] at h1
    simp only [List.getD_cons_zero, List.length_cons, List.length_nil]
    exact decN_bad _ _ _ _ _ this h1 (by omega) (by omega) (by omega)
  | [a, b] =>
    have := hb a (by simp)
    simp only [List.take_succ_cons, List.take_nil, List.take_zero, okL, decide_eq_false_iff_not] at h1 h2
    simp only [List.getD_cons_zero, List.getD_cons_succ, List.length_cons, List.length_nil]
    exact decN_bad _ _ _ _ _ this h1 (by omega) (by omega) (by omega)
  | [a, b, c] =>
    have := hb a (by simp)
    simp only [List.take_succ_cons, List.take_nil, List.take_zero, okL, decide_eq_false_iff_not] at h1 h2 h3
    simp only [List.getD_cons_zero, List.getD_cons_succ, List.length_cons, List.length_nil]
    exact decN_bad _ _ _ _ _ this h1 (by omega) (by omega) (by omega)
  | a :: b :: c :: d :: r =>
    have := hb a (by simp)
    simp only [List.take_succ_cons, List.take_zero, okL, decide_eq_false_iff_not] at h1 h2 h3 h4
    simp only [List.getD_cons_zero, List.getD_cons_succ, List.length_cons]
    exact decN_bad _ _ _ _ _ this h1 (by omega) (by omega) (by omega)
/-- Bytes that begin an encoding, with one that does not go on. -/
theorem pre_take (l : List Nat) (h : preL l = true) (k : Nat) : okL (l.take k) = false := by
  match l with
  | [] => simp [preL] at h
  | [a] =>
    simp only [preL, decide_eq_true_eq] at h
    match k with
    | 0 => rfl
    | k + 1 => simp only [List.take_succ_cons, List.take_nil, okL, decide_eq_false_iff_not]; omega
  | [a, b] =>
    simp only [preL, decide_eq_true_eq] at h
    match k with
    | 0 => rfl
    | 1 => simp only [List.take_succ_cons, List.take_zero, okL, decide_eq_false_iff_not]; omega
    | k + 2 => simp only [List.take_succ_cons, List.take_nil, okL, decide_eq_false_iff_not]; omega
  | [a, b, c] =>
    simp only [preL, decide_eq_true_eq] at h
    match k with
    | 0 => rfl
    | 1 => simp only [List.take_succ_cons, List.take_zero, okL, decide_eq_false_iff_not]; omega
    | 2 => simp only [List.take_succ_cons, List.take_zero, okL, decide_eq_false_iff_not]; omega
    | k + 3 => simp only [List.take_succ_cons, List.take_nil, okL, decide_eq_false_iff_not]; omega
  | a :: b :: c :: d :: r => simp [preL] at h
theorem dec_pre (h : List Nat) (b : Nat) (hp : preL h = true ∨ h = []) (hb : ∀ x ∈ h ++ [b], x < 256) (hn : okL (h ++ [b]) = false) : decL (h ++ [b]) = (65533, 1) := by
  refine dec_bad _ (by simp) hb fun k => ?_
  by_cases hk : k ≤ h.length
  · rw [List.take_append_of_le_length hk]
    rcases hp with hp | rfl
    · exact pre_take h hp k
    · simp [okL]
  · rw [List.take_of_length_le (by simp; omega)]
    exact hn
end Go.Proofs.YtdldffgdipedpaaDoor
