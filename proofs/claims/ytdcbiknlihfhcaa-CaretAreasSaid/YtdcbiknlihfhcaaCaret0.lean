/- Plain words for the proofs on package caret: which areas may be, which places fit, where the moves lead, and steps taken one by one. Conditions: none; it speaks of no program. -/
import Derived.Test.YtdcbiknlihfhcaaRec
namespace Go.Proofs.Ytdcbiknlihfhcaa
/-- An area: rows, columns, top, bottom. -/
abbrev AreaZ : Type := Int × Int × Int × Int
def areaOk (R C T B : Int) : Bool := decide ((1 ≤ R ∧ R ≤ 60 ∧ 1 ≤ C ∧ C ≤ 132) ∧ (0 ≤ T ∧ B < R ∧ T < B ∨ R = 1 ∧ T = 0 ∧ B = 0))
theorem areaOk_iff {R C T B : Int} : areaOk R C T B = true ↔ (1 ≤ R ∧ R ≤ 60 ∧ 1 ≤ C ∧ C ≤ 132) ∧ (0 ≤ T ∧ B < R ∧ T < B ∨ R = 1 ∧ T = 0 ∧ B = 0) := by simp only [areaOk, decide_eq_true_eq]
/-- What holds of an area that may be. -/
theorem areaOk_of {R C T B : Int} (h : areaOk R C T B = true) : 1 ≤ R ∧ R ≤ 60 ∧ 1 ≤ C ∧ C ≤ 132 ∧ 0 ≤ T ∧ T ≤ B ∧ B < R := by
  obtain ⟨h1, h2⟩ := areaOk_iff.1 h
  omega
def fitsZ (R C r c : Int) (q : Bool) : Bool := decide (0 ≤ r ∧ r < R ∧ 0 ≤ c ∧ c < C ∧ (q = true → c = C - 1))
theorem fitsZ_iff {R C r c : Int} {q : Bool} : fitsZ R C r c q = true ↔ 0 ≤ r ∧ r < R ∧ 0 ≤ c ∧ c < C ∧ (q = true → c = C - 1) := by simp only [fitsZ, decide_eq_true_eq]
/-! ### Steps -/
/-- Nearest to n from a to b. -/
def holdZ (n a b : Int) : Int := if n < a then a else if b < n then b else n
/-- A row n times up. -/
def upZ (T r : Int) (n : Nat) : Int := if T ≤ r then max (r - n) T else max (r - n) 0
/-- A row n times down. -/
def downZ (R B r : Int) (n : Nat) : Int := if r ≤ B then min (r + n) B else min (r + n) (R - 1)
theorem upZ_succ {T r : Int} {n : Nat} (h1 : upZ T r n ≠ T) (h2 : upZ T r n ≠ 0) : upZ T r (n + 1) = upZ T r n - 1 := by
  unfold upZ at *; split at h1 <;> simp_all <;> omega
theorem upZ_stop {T r : Int} {n : Nat} (hT : 0 ≤ T) (h : upZ T r n = T ∨ upZ T r n = 0) (m : Nat) (hm : n ≤ m) : upZ T r m = upZ T r n := by
  unfold upZ at *; split at h <;> simp_all <;> omega
theorem downZ_succ {R B r : Int} {n : Nat} (hB : B < R) (h1 : downZ R B r n ≠ B) (h2 : downZ R B r n ≠ R - 1) : downZ R B r (n + 1) = downZ R B r n + 1 := by
  unfold downZ at *; split at h1 <;> simp_all <;> omega
theorem downZ_stop {R B r : Int} {n : Nat} (hB : B < R) (h : downZ R B r n = B ∨ downZ R B r n = R - 1) (m : Nat) (hm : n ≤ m) : downZ R B r m = downZ R B r n := by
  unfold downZ at *; split at h <;> simp_all <;> omega
theorem upZ_low {T r : Int} {n : Nat} (hT : 0 ≤ T) (hr : 0 ≤ r) : 0 ≤ upZ T r n ∧ upZ T r n ≤ r := by unfold upZ; split <;> omega
theorem downZ_high {R B r : Int} {n : Nat} (hB : B < R) (hr : r < R) : r ≤ downZ R B r n ∧ downZ R B r n < R := by unfold downZ; split <;> omega
end Go.Proofs.Ytdcbiknlihfhcaa
