/- Any word, turned by any number, is what the reference says, and, turned on by what is left of 32, as it was: the statement WordTurns. Conditions: none. -/
import Derived.Test.YtcjeidoniekgdaaAwake1
namespace Go.Proofs.Ytcjeidoniekgdaa.wordTurns
open Go.ChangeShapes Go.WideShapes Go.RowKit
set_option linter.unusedVariables false
/-- Turned on by what is left of 32. -/
theorem last (y x k : Nat) (m : Int) (hk : (k : Int) < 32) (hy : rot32 x k = y) (hb : rot32 y (32 - k) = x) (hm : m = 32 - (k : Int)) : rot32 y (m % 32).toNat = x := by
  by_cases h0 : k = 0
  · subst h0
    rw [hm, show ((32 - ((0 : Nat) : Int)) % 32).toNat = 0 from by decide, rot32_zero, ← hy, rot32_zero]
  · rw [hm, show ((32 - (k : Int)) % 32).toNat = 32 - k from by omega, hb]
set_option maxHeartbeats 800000 in
theorem walk_nat (x : Nat) (n : Int) (w : World) (hx : x < 4294967296) (hn : -9223372036854775808 ≤ n) (hn2 : n ≤ 9223372036854775807) :
    Calls Try.prog 3 #[.int .u32 (x : Int), .int .i64 n] w fun e w' => e = .returned (.bool true) ∧ Below w.heap.size w w' := by
  obtain ⟨k, hk⟩ : ∃ k : Nat, Hid ((k : Int) = n % 32) := ⟨(n % 32).toNat, show _ = _ by omega⟩
  have hk32 : (k : Int) < 32 := by have := hk.out; omega
  have hk0 : 0 ≤ (k : Int) := by omega
  have e1 : Hid ((n % 32).toNat = k) := show _ = _ by have := hk.out; omega
  have hy : rot32 x k < 4294967296 := rot32_lt x k hx (by omega)
  have hback := rot32_back x k hx (by omega)
  generalize hY : rot32 x k = y at *
  have HY := Lib.hid hY
  have HBk := Lib.hid hback
  clear hY hback
  obtain ⟨t, ht⟩ : ∃ t, n.tmod 32 = t := ⟨_, rfl⟩
  have htm : t = n % 32 ∨ t + 32 = n % 32 := by
    rw [← ht]
    by_cases h0 : 0 ≤ n
    · rw [Int.tmod_eq_emod_of_nonneg h0]; omega
    · rw [show n = -(-n) from by omega, Int.neg_tmod, Int.tmod_eq_emod_of_nonneg (show 0 ≤ -n by omega)]; omega
  by_cases hneg : t < 0
  · have e2' : t + 32 = (k : Int) := by have := hk.out; omega
    have e2 := Lib.hid e2'
    clear e2'
    have ht2 : -32 ≤ t := by have := e2.out; omega
    have ht4 : t + 32 < 32 := by omega
    clear htm
    go_enter Try.func3, Try.ntmps3
    go_wp2_with fail
    refine (awake_c _).mono ?_
    rintro e w1 ⟨rfl, hb⟩
    go_wp2_with fail
    refine (rot_c x _ _ hx).mono ?_
    rintro e w2 ⟨rfl, rfl⟩
    rw [e1.out, HY.out]
    go_wp2_with fail
    refine (refRot_c x _ _ hx (by omega) (by omega)).mono ?_
    rintro e w2 ⟨rfl, m, rfl⟩
    rw [show (t + 32).toNat = k from by have := e2.out; omega, HY.out]
    go_wp2_with fail
    refine (rot_c x _ _ hx).mono ?_
    rintro e w2 ⟨rfl, rfl⟩
    rw [show ((t + 32) % 32).toNat = k from by have := e2.out; omega, HY.out]
    go_wp2_with fail
    refine (rot_c y _ _ hy).mono ?_
    rintro e w2 ⟨rfl, rfl⟩
    rw [last y x k _ hk32 HY.out HBk.out (by have := e2.out; omega)]
    go_wp2
    go_ret
    exact ⟨rfl, belowDrewN hb _⟩
  · have ht3 : t < 32 := by rw [← ht]; exact Int.tmod_lt_of_pos _ (by decide)
    have e2' : t = (k : Int) := by have := hk.out; omega
    have e2 := Lib.hid e2'
    clear e2' ht3
    have ht2 : t < 32 := by have := e2.out; omega
    clear htm
    go_enter Try.func3, Try.ntmps3
    go_wp2_with fail
    refine (awake_c _).mono ?_
    rintro e w1 ⟨rfl, hb⟩
    go_wp2_with fail
    refine (rot_c x _ _ hx).mono ?_
    rintro e w2 ⟨rfl, rfl⟩
    rw [e1.out, HY.out]
    go_wp2_with fail
    refine (refRot_c x _ _ hx (by omega) (by omega)).mono ?_
    rintro e w2 ⟨rfl, m, rfl⟩
    rw [show (t).toNat = k from by have := e2.out; omega, HY.out]
    go_wp2_with fail
    refine (rot_c x _ _ hx).mono ?_
    rintro e w2 ⟨rfl, rfl⟩
    rw [show ((t) % 32).toNat = k from by have := e2.out; omega, HY.out]
    go_wp2_with fail
    refine (rot_c y _ _ hy).mono ?_
    rintro e w2 ⟨rfl, rfl⟩
    rw [last y x k _ hk32 HY.out HBk.out (by have := e2.out; omega)]
    go_wp2
    go_ret
    exact ⟨rfl, belowDrewN hb _⟩
end Go.Proofs.Ytcjeidoniekgdaa.wordTurns
