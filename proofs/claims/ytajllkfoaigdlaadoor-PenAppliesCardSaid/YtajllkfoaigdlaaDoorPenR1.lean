/- What the small functions of the document's answer of layer 12 (has, set, marks, colour) return, as walks through the translated text. Conditions: the attributes are below 128. -/
import Derived.Test.YtajllkfoaigdlaaDoorChecked
import Derived.Test.YtajllkfoaigdlaaDoorPen0
import Derived.Test.YtajllkfoaigdlaaDoorCutI
import Derived.Laws.ResultCell
namespace Go.Proofs.YtajllkfoaigdlaaDoor
open Go.ChangeShapes Go.WideShapes Go.RowKit
theorem tdiv_nat (a b : Nat) : ((a : Int).tdiv (b : Int)) = ((a / b : Nat) : Int) := by
  rw [Int.tdiv_eq_ediv_of_nonneg (by omega)]; exact (Int.natCast_ediv a b).symm
theorem tmod_two (a : Nat) : ((a : Int).tmod 2) = ((a % 2 : Nat) : Int) := by
  rw [Int.tmod_eq_emod_of_nonneg (by omega)]; omega
theorem bMark_pos : ∀ i, i < 7 → 0 < bMark i ∧ bMark i ≤ 64 := by decide
set_option maxHeartbeats 800000 in
theorem pHas_c (m b : Nat) (w : World) (hm : m < 128) (hb : 0 < b) (hb2 : b ≤ 64) : Calls Tryd.prog 20 #[.int .i64 (m : Int), .int .i64 (b : Int)] w fun en w' => en = .returned (.bool (hasN m b)) ∧ w = w' := by
  have hb0 : ¬ ((b : Int) = 0) := by omega
  have hq : Hid (wrap64 ((m : Int) / (b : Int)) = ((m / b : Nat) : Int)) := by
    show _ = _
    have hle : m / b ≤ 127 := Nat.le_trans (Nat.div_le_self m b) (by omega)
    rw [show (m : Int) / (b : Int) = ((m / b : Nat) : Int) from (Int.natCast_ediv m b).symm]
    generalize m / b = q at *
    exact IntWalk.wrap64_in _ (by omega)
  have e : Hid (hasN m b = (((m / b % 2 : Nat) : Int) == 1)) := by
    show _ = _
    unfold hasN
    rw [Bool.eq_iff_iff, beq_iff_eq, beq_iff_eq]; omega
  rw [e.out]
  go_enter Tryd.func20, Tryd.ntmps20
  go_wp2
  go_ret
  refine ⟨ret_bool ?_, rfl⟩
  rw [hq.out, tmod_two]
set_option maxHeartbeats 1600000 in
theorem pSet_c (m b : Nat) (is : Bool) (w : World) (hm : m < 128) (hb : 0 < b) (hb2 : b ≤ 64) (hle : hasN m b = true → b ≤ m) : Calls Tryd.prog 17 #[.int .i64 (m : Int), .int .i64 (b : Int), .bool is] w fun en w' => en = .returned (.int .i64 ((setN m b is : Nat) : Int)) ∧ w = w' := by
  have HH := Lib.hid (pHas_c m b w hm hb hb2)
  have HS : Hid ((setN m b is : Nat) = if hasN m b = is then m else if is = true then m + b else m - b) := rfl
  have hle' := Lib.hid hle
  clear hle
  rw [HS.out]
  cases hq : hasN m b <;> cases is <;> rw [hq] at HH hle'
  · rw [if_pos rfl]
    clear hq
    go_enter Tryd.func17, Tryd.ntmps17
    go_wp2_with fail
    refine HH.out.mono ?_
    rintro en w1 ⟨rfl, rfl⟩
    go_wp2
    go_ret
    exact ⟨rfl, rfl⟩
  · rw [if_neg (by decide), if_pos rfl]
    clear hq
    go_enter Tryd.func17, Tryd.ntmps17
    go_wp2_with fail
    refine HH.out.mono ?_
    rintro en w1 ⟨rfl, rfl⟩
    go_wp2
    go_ret
    exact ⟨ret_int (by omega), rfl⟩
  · rw [if_neg (by decide), if_neg (by decide)]
    have hbm := hle'.out rfl
    clear hq
    go_enter Tryd.func17, Tryd.ntmps17
    go_wp2_with fail
    refine HH.out.mono ?_
    rintro en w1 ⟨rfl, rfl⟩
    go_wp2
    go_ret
    exact ⟨ret_int (by omega), rfl⟩
  · rw [if_pos rfl]
    clear hq
    go_enter Tryd.func17, Tryd.ntmps17
    go_wp2_with fail
    refine HH.out.mono ?_
    rintro en w1 ⟨rfl, rfl⟩
    go_wp2
    go_ret
    exact ⟨rfl, rfl⟩
/-- The marks, number and attribute in turn. -/
def marksV : List Value := (List.range 14).map fun i => .int .i64 ((if i % 2 = 0 then kMark (i / 2) else bMark (i / 2) : Nat) : Int)
set_option maxHeartbeats 1600000 in
theorem pMarks_c (w : World) : Calls Tryd.prog 16 #[] w fun en w' => en = .returned (.slice (some ⟨w.heap.size, 0, none⟩) 7 7) ∧ w' = w.alloc (.cells marksV.toArray 40) := by
  have HM : Hid (marksV.toArray = #[.int .i64 1, .int .i64 1, .int .i64 2, .int .i64 2, .int .i64 3, .int .i64 4, .int .i64 4, .int .i64 8, .int .i64 5, .int .i64 16, .int .i64 7, .int .i64 32, .int .i64 9, .int .i64 64]) := by
    show _ = _
    rfl
  rw [HM.out]
  go_enter Tryd.func16, Tryd.ntmps16
  go_wp2
  go_ret
  exact ⟨rfl, rfl⟩
set_option maxHeartbeats 1600000 in
theorem pColour_c (n : Int) (a : Nat) (w : World) (ha : a ≤ 40) (_ : -9223372036854775808 ≤ n) (_ : n ≤ 9223372036854775807) : Calls Tryd.prog 18 #[.int .i64 n, .int .i64 (a : Int)] w fun en w' => en = .returned (.int .i64 (colN n a)) ∧ w = w' := by
  have a0 : (0 : Int) ≤ (a : Int) := by omega
  have a1 : (a : Int) ≤ 40 := by omega
  have hc : n < a ∨ ((a : Int) ≤ n ∧ n ≤ a + 7) ∨ ((a : Int) + 7 < n ∧ n < a + 60 ∧ n ≠ a + 9) ∨ ((a : Int) + 60 ≤ n ∧ n ≤ a + 67) ∨ (a : Int) + 67 < n ∨ n = a + 9 := by omega
  generalize (a : Int) = z at *
  rcases hc with h | ⟨h, h'⟩ | ⟨h, h', h''⟩ | ⟨h, h'⟩ | h | h
  · have e : colN n z = -1 := by unfold colN; rw [if_neg (by omega), if_neg (by omega), if_neg (by omega)]
    rw [e]
    have s1 : decide (z ≤ n) = false := by simp; omega
    have s3 : decide (z + 60 ≤ n) = false := by simp; omega
    have s5 : (n == z + 9) = false := by rw [beq_eq_false_iff_ne]; omega
    go_enter Tryd.func18, Tryd.ntmps18
    go_wp2
    go_ret
    exact ⟨rfl, rfl⟩
  · have e : colN n z = n - z + 1 := by unfold colN; rw [if_pos ⟨h, h'⟩]
    rw [e]
    have s1 : decide (z ≤ n) = true := by simp; omega
    have s2 : decide (n ≤ z + 7) = true := by simp; omega
    go_enter Tryd.func18, Tryd.ntmps18
    go_wp2
    go_ret
    exact ⟨ret_int (by omega), rfl⟩
  · have e : colN n z = -1 := by unfold colN; rw [if_neg (by omega), if_neg (by omega), if_neg (by omega)]
    rw [e]
    have s1 : decide (z ≤ n) = true := by simp; omega
    have s2 : decide (n ≤ z + 7) = false := by simp; omega
    have s3 : decide (z + 60 ≤ n) = false := by simp; omega
    have s5 : (n == z + 9) = false := by rw [beq_eq_false_iff_ne]; omega
    clear h''
    go_enter Tryd.func18, Tryd.ntmps18
    go_wp2
    go_ret
    exact ⟨rfl, rfl⟩
  · have e : colN n z = n - z - 51 := by unfold colN; rw [if_neg (by omega), if_pos ⟨h, h'⟩]
    rw [e]
    have s1 : decide (z ≤ n) = true := by simp; omega
    have s2 : decide (n ≤ z + 7) = false := by simp; omega
    have s3 : decide (z + 60 ≤ n) = true := by simp; omega
    have s4 : decide (n ≤ z + 67) = true := by simp; omega
    go_enter Tryd.func18, Tryd.ntmps18
    go_wp2
    go_ret
    exact ⟨ret_int (by omega), rfl⟩
  · have e : colN n z = -1 := by unfold colN; rw [if_neg (by omega), if_neg (by omega), if_neg (by omega)]
    rw [e]
    have s1 : decide (z ≤ n) = true := by simp; omega
    have s2 : decide (n ≤ z + 7) = false := by simp; omega
    have s3 : decide (z + 60 ≤ n) = true := by simp; omega
    have s4 : decide (n ≤ z + 67) = false := by simp; omega
    have s5 : (n == z + 9) = false := by rw [beq_eq_false_iff_ne]; omega
    go_enter Tryd.func18, Tryd.ntmps18
    go_wp2
    go_ret
    exact ⟨rfl, rfl⟩
  · have e : colN n z = 0 := by unfold colN; rw [if_neg (by omega), if_neg (by omega), if_pos h]
    rw [e]
    have s1 : decide (z ≤ n) = true := by simp; omega
    have s2 : decide (n ≤ z + 7) = false := by simp; omega
    have s3 : decide (z + 60 ≤ n) = false := by simp; omega
    have s5 : (n == z + 9) = true := by rw [beq_iff_eq]; omega
    clear h
    go_enter Tryd.func18, Tryd.ntmps18
    go_wp2
    go_ret
    exact ⟨rfl, rfl⟩
end Go.Proofs.YtajllkfoaigdlaaDoor
