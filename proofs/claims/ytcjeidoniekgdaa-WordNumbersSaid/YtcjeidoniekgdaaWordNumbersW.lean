/- The walks of the statement WordNumbers: which numbers fit so many bytes, which bytes these are, and which number any bytes are, is what the reference says. Conditions: the slice reads as a list of bytes. -/
import Derived.Test.YtcjeidoniekgdaaAwake1
namespace Go.Proofs.Ytcjeidoniekgdaa.wordNumbers
open Go.ChangeShapes Go.WideShapes Go.RowKit
theorem putL_succ (N n : Nat) : putL N (n + 1) = putL (N / 256) n ++ [N % 256] := by
  apply List.ext_getElem
  · simp [length_putL]
  · intro i h1 h2
    rw [length_putL] at h1
    rw [putL_get, List.getElem_append]
    split
    · rename_i h
      rw [length_putL] at h
      rw [putL_get, Nat.div_div_eq_div_mul, ← Nat.pow_succ', show n + 1 - 1 - i = (n - 1 - i).succ from by omega]
    · rename_i h
      rw [length_putL] at h
      have : i = n := by omega
      subst this
      simp
theorem be_putL : ∀ n N : Nat, N < 256 ^ n → be (putL N n) = N
  | 0, N, h => by
    have : N = 0 := by simpa using h
    subst this
    rfl
  | n + 1, N, h => by
    rw [putL_succ, be_snoc, be_putL n (N / 256) (by rw [Nat.pow_succ] at h; omega)]
    omega
set_option maxHeartbeats 1600000 in
theorem walk_arg (N : Nat) (n : Int) (A : Option Addr) (len cap : Nat) (l : List Nat) (w : World) (_hN : N < 18446744073709551616) (h : n < 1 ∨ 8 < n) (hr : Reads .u8 w A len cap l) :
    Calls Try.prog 5 #[.int .u64 (N : Int), .int .i64 n, .slice A len cap] w fun e w' => e = .returned (.bool true) ∧ Below w.heap.size w w' := by
  have hd0 : (decide (n < 1) || decide (8 < n)) = true := by simp; omega
  go_enter Try.func5, Try.ntmps5
  go_wp2_with fail
  refine (awake_c _).mono ?_
  rintro e w1 ⟨rfl, hb⟩
  replace hr := hr.keep hb
  go_wp2_with fail
  refine (put_arg _ _ _ h).mono ?_
  rintro e w2 ⟨rfl, rfl⟩
  go_wp2_with fail
  rcases (show ((len : Int) < 1) ∨ (8 < (len : Int)) ∨ (1 ≤ (len : Int) ∧ (len : Int) ≤ 8) by omega) with hl | hl | hl
  · refine (get_no _ _ _ _ (.inl hl)).mono ?_
    rintro e w3 ⟨rfl, rfl⟩
    go_wp2
    all_goals (go_ret; exact ⟨rfl, hb⟩)
  · have hd : decide ((len : Int) < 1) = false := by simp; omega
    refine (get_no _ _ _ _ (.inr hl)).mono ?_
    rintro e w3 ⟨rfl, rfl⟩
    go_wp2
    all_goals (go_ret; exact ⟨rfl, hb⟩)
  · obtain ⟨hl1, hl2⟩ := hl
    have hd : decide ((len : Int) < 1) = false := by simp; omega
    have hd2 : decide ((8 : Int) < (len : Int)) = false := by simp; omega
    obtain ⟨q, hq⟩ : ∃ q, Hid (be l % 18446744073709551616 = q) := ⟨_, rfl⟩
    refine (get_yes _ _ _ l _ hr hl1 hl2).mono ?_
    rintro e w3 ⟨rfl, rfl⟩
    rw [hq.out]
    go_wp2_with fail
    refine (refGet_c _ _ _ l _ hr).mono ?_
    rintro e w4 ⟨rfl, rfl⟩
    rw [hq.out]
    go_wp2
    all_goals (go_ret; exact ⟨rfl, hb⟩)

set_option maxHeartbeats 1600000 in
theorem walk_size (N n : Nat) (A : Option Addr) (len cap : Nat) (l : List Nat) (w : World) (hN : N < 18446744073709551616) (h0 : 1 ≤ n) (h1 : n ≤ 8) (hf : 256 ^ n ≤ N) (hr : Reads .u8 w A len cap l) :
    Calls Try.prog 5 #[.int .u64 (N : Int), .int .i64 (n : Int), .slice A len cap] w fun e w' => e = .returned (.bool true) ∧ Below w.heap.size w w' := by
  have HF := Lib.hid hf
  clear hf
  have hs1 : decide ((n : Int) < 1) = false := by simp; omega
  have hs2 : decide ((8 : Int) < (n : Int)) = false := by simp; omega
  go_enter Try.func5, Try.ntmps5
  go_wp2_with fail
  refine (awake_c _).mono ?_
  rintro e w1 ⟨rfl, hb⟩
  replace hr := hr.keep hb
  go_wp2_with fail
  refine (put_size _ _ _ h0 h1 HF.out).mono ?_
  rintro e w2 ⟨rfl, rfl⟩
  go_wp2_with fail
  rcases (show ((len : Int) < 1) ∨ (8 < (len : Int)) ∨ (1 ≤ (len : Int) ∧ (len : Int) ≤ 8) by omega) with hl | hl | hl
  · refine (get_no _ _ _ _ (.inl hl)).mono ?_
    rintro e w3 ⟨rfl, rfl⟩
    go_wp2
    go_loop [11, 12] (fun t i => ∃ j : Nat, j ≤ n ∧ i = .int .i64 j ∧ ∃ T : Nat, t = .int .u64 (T : Int) ∧ Hid (N / 256 ^ j = T)) (fun _ i => n - (intOf i).toNat)
    case atStart => exact ⟨0, Nat.zero_le _, rfl, N, rfl, by show _ = _; simp⟩
    case round =>
      obtain ⟨j, hj, rfl, T, rfl, hT⟩ := hrel
      by_cases hlt : j < n
      · have hT0 : 0 ≤ (T : Int) := by omega
        have hT1 : (T : Int) < 18446744073709551616 := by have := hT.out; have := Nat.div_le_self N (256 ^ j); omega
        go_wp2
        go_round
        case rel => exact ⟨j + 1, by omega, by go_num, T / 256, by go_num, by show _ = _; rw [Nat.pow_succ, ← Nat.div_div_eq_div_mul, hT.out]⟩
        case measure => simp [intOf]; omega
      · have hjn : j = n := by omega
        subst hjn
        have hne : ((T : Int) != 0) = true := by
          rw [bne_iff_ne]
          have h1 := hT.out
          have h2 : 1 ≤ N / 256 ^ j := by rw [Nat.le_div_iff_mul_le (Nat.pow_pos (by decide)), Nat.one_mul]; exact HF.out
          omega
        go_wp2
        go_ret
        exact ⟨rfl, hb⟩
  · have hd : decide ((len : Int) < 1) = false := by simp; omega
    refine (get_no _ _ _ _ (.inr hl)).mono ?_
    rintro e w3 ⟨rfl, rfl⟩
    go_wp2
    go_loop [11, 12] (fun t i => ∃ j : Nat, j ≤ n ∧ i = .int .i64 j ∧ ∃ T : Nat, t = .int .u64 (T : Int) ∧ Hid (N / 256 ^ j = T)) (fun _ i => n - (intOf i).toNat)
    case atStart => exact ⟨0, Nat.zero_le _, rfl, N, rfl, by show _ = _; simp⟩
    case round =>
      obtain ⟨j, hj, rfl, T, rfl, hT⟩ := hrel
      by_cases hlt : j < n
      · have hT0 : 0 ≤ (T : Int) := by omega
        have hT1 : (T : Int) < 18446744073709551616 := by have := hT.out; have := Nat.div_le_self N (256 ^ j); omega
        go_wp2
        go_round
        case rel => exact ⟨j + 1, by omega, by go_num, T / 256, by go_num, by show _ = _; rw [Nat.pow_succ, ← Nat.div_div_eq_div_mul, hT.out]⟩
        case measure => simp [intOf]; omega
      · have hjn : j = n := by omega
        subst hjn
        have hne : ((T : Int) != 0) = true := by
          rw [bne_iff_ne]
          have h1 := hT.out
          have h2 : 1 ≤ N / 256 ^ j := by rw [Nat.le_div_iff_mul_le (Nat.pow_pos (by decide)), Nat.one_mul]; exact HF.out
          omega
        go_wp2
        go_ret
        exact ⟨rfl, hb⟩
  · obtain ⟨hl1, hl2⟩ := hl
    have hd : decide ((len : Int) < 1) = false := by simp; omega
    have hd2 : decide ((8 : Int) < (len : Int)) = false := by simp; omega
    obtain ⟨q, hq⟩ : ∃ q, Hid (be l % 18446744073709551616 = q) := ⟨_, rfl⟩
    refine (get_yes _ _ _ l _ hr hl1 hl2).mono ?_
    rintro e w3 ⟨rfl, rfl⟩
    rw [hq.out]
    go_wp2_with fail
    refine (refGet_c _ _ _ l _ hr).mono ?_
    rintro e w4 ⟨rfl, rfl⟩
    rw [hq.out]
    go_wp2
    go_loop [11, 12] (fun t i => ∃ j : Nat, j ≤ n ∧ i = .int .i64 j ∧ ∃ T : Nat, t = .int .u64 (T : Int) ∧ Hid (N / 256 ^ j = T)) (fun _ i => n - (intOf i).toNat)
    case atStart => exact ⟨0, Nat.zero_le _, rfl, N, rfl, by show _ = _; simp⟩
    case round =>
      obtain ⟨j, hj, rfl, T, rfl, hT⟩ := hrel
      by_cases hlt : j < n
      · have hT0 : 0 ≤ (T : Int) := by omega
        have hT1 : (T : Int) < 18446744073709551616 := by have := hT.out; have := Nat.div_le_self N (256 ^ j); omega
        go_wp2
        go_round
        case rel => exact ⟨j + 1, by omega, by go_num, T / 256, by go_num, by show _ = _; rw [Nat.pow_succ, ← Nat.div_div_eq_div_mul, hT.out]⟩
        case measure => simp [intOf]; omega
      · have hjn : j = n := by omega
        subst hjn
        have hne : ((T : Int) != 0) = true := by
          rw [bne_iff_ne]
          have h1 := hT.out
          have h2 : 1 ≤ N / 256 ^ j := by rw [Nat.le_div_iff_mul_le (Nat.pow_pos (by decide)), Nat.one_mul]; exact HF.out
          omega
        go_wp2
        go_ret
        exact ⟨rfl, hb⟩

set_option maxHeartbeats 1600000 in
theorem walk_ok (N n : Nat) (A : Option Addr) (len cap : Nat) (l : List Nat) (w : World) (hN : N < 18446744073709551616) (h0 : 1 ≤ n) (h1 : n ≤ 8) (hf : N < 256 ^ n) (hr : Reads .u8 w A len cap l) :
    Calls Try.prog 5 #[.int .u64 (N : Int), .int .i64 (n : Int), .slice A len cap] w fun e w' => e = .returned (.bool true) ∧ Below w.heap.size w w' := by
  have HF := Lib.hid hf
  clear hf
  have hs1 : decide ((n : Int) < 1) = false := by simp; omega
  have hs2 : decide ((8 : Int) < (n : Int)) = false := by simp; omega
  go_enter Try.func5, Try.ntmps5
  go_wp2_with fail
  refine (awake_c _).mono ?_
  rintro e w1 ⟨rfl, hb⟩
  replace hr := hr.keep hb
  go_wp2_with fail
  refine (put_ok _ _ _ h0 h1 HF.out).mono ?_
  rintro e w2 ⟨rfl, hown, hb2⟩
  obtain ⟨X, cx, ex, hr2⟩ := Reads.of_own hown (fun x hx => wf_u8.2 (putL_lt N n x hx))
  cases ex
  replace hr := hr.keep hb2
  replace hb := hb.trans (hb2.mono hb.size)
  generalize w1.heap.size = g at *
  clear hown hb2
  go_wp2_with fail
  rcases (show ((len : Int) < 1) ∨ (8 < (len : Int)) ∨ (1 ≤ (len : Int) ∧ (len : Int) ≤ 8) by omega) with hl | hl | hl
  · refine (get_no _ _ _ _ (.inl hl)).mono ?_
    rintro e w3 ⟨rfl, rfl⟩
    go_wp2
    go_loop [11, 12] (fun t i => ∃ j : Nat, j ≤ n ∧ i = .int .i64 j ∧ ∃ T : Nat, t = .int .u64 (T : Int) ∧ Hid (N / 256 ^ j = T)) (fun _ i => n - (intOf i).toNat)
    case atStart => exact ⟨0, Nat.zero_le _, rfl, N, rfl, by show _ = _; simp⟩
    case round =>
      obtain ⟨j, hj, rfl, T, rfl, hT⟩ := hrel
      by_cases hlt : j < n
      · have hT0 : 0 ≤ (T : Int) := by omega
        have hT1 : (T : Int) < 18446744073709551616 := by have := hT.out; have := Nat.div_le_self N (256 ^ j); omega
        go_wp2
        go_round
        case rel => exact ⟨j + 1, by omega, by go_num, T / 256, by go_num, by show _ = _; rw [Nat.pow_succ, ← Nat.div_div_eq_div_mul, hT.out]⟩
        case measure => simp [intOf]; omega
      · have hjn : j = n := by omega
        subst hjn
        have hT0 : T = 0 := by rw [← hT.out]; exact Nat.div_eq_of_lt HF.out
        subst hT0
        go_wp2_with fail
        refine (refGet_c _ _ _ _ _ hr2).mono ?_
        rintro e w5 ⟨rfl, rfl⟩
        rw [be_putL j N HF.out, Nat.mod_eq_of_lt hN]
        go_wp2
        go_ret
        exact ⟨rfl, hb⟩
  · have hd : decide ((len : Int) < 1) = false := by simp; omega
    refine (get_no _ _ _ _ (.inr hl)).mono ?_
    rintro e w3 ⟨rfl, rfl⟩
    go_wp2
    go_loop [11, 12] (fun t i => ∃ j : Nat, j ≤ n ∧ i = .int .i64 j ∧ ∃ T : Nat, t = .int .u64 (T : Int) ∧ Hid (N / 256 ^ j = T)) (fun _ i => n - (intOf i).toNat)
    case atStart => exact ⟨0, Nat.zero_le _, rfl, N, rfl, by show _ = _; simp⟩
    case round =>
      obtain ⟨j, hj, rfl, T, rfl, hT⟩ := hrel
      by_cases hlt : j < n
      · have hT0 : 0 ≤ (T : Int) := by omega
        have hT1 : (T : Int) < 18446744073709551616 := by have := hT.out; have := Nat.div_le_self N (256 ^ j); omega
        go_wp2
        go_round
        case rel => exact ⟨j + 1, by omega, by go_num, T / 256, by go_num, by show _ = _; rw [Nat.pow_succ, ← Nat.div_div_eq_div_mul, hT.out]⟩
        case measure => simp [intOf]; omega
      · have hjn : j = n := by omega
        subst hjn
        have hT0 : T = 0 := by rw [← hT.out]; exact Nat.div_eq_of_lt HF.out
        subst hT0
        go_wp2_with fail
        refine (refGet_c _ _ _ _ _ hr2).mono ?_
        rintro e w5 ⟨rfl, rfl⟩
        rw [be_putL j N HF.out, Nat.mod_eq_of_lt hN]
        go_wp2
        go_ret
        exact ⟨rfl, hb⟩
  · obtain ⟨hl1, hl2⟩ := hl
    have hd : decide ((len : Int) < 1) = false := by simp; omega
    have hd2 : decide ((8 : Int) < (len : Int)) = false := by simp; omega
    obtain ⟨q, hq⟩ : ∃ q, Hid (be l % 18446744073709551616 = q) := ⟨_, rfl⟩
    refine (get_yes _ _ _ l _ hr hl1 hl2).mono ?_
    rintro e w3 ⟨rfl, rfl⟩
    rw [hq.out]
    go_wp2_with fail
    refine (refGet_c _ _ _ l _ hr).mono ?_
    rintro e w4 ⟨rfl, rfl⟩
    rw [hq.out]
    go_wp2
    go_loop [11, 12] (fun t i => ∃ j : Nat, j ≤ n ∧ i = .int .i64 j ∧ ∃ T : Nat, t = .int .u64 (T : Int) ∧ Hid (N / 256 ^ j = T)) (fun _ i => n - (intOf i).toNat)
    case atStart => exact ⟨0, Nat.zero_le _, rfl, N, rfl, by show _ = _; simp⟩
    case round =>
      obtain ⟨j, hj, rfl, T, rfl, hT⟩ := hrel
      by_cases hlt : j < n
      · have hT0 : 0 ≤ (T : Int) := by omega
        have hT1 : (T : Int) < 18446744073709551616 := by have := hT.out; have := Nat.div_le_self N (256 ^ j); omega
        go_wp2
        go_round
        case rel => exact ⟨j + 1, by omega, by go_num, T / 256, by go_num, by show _ = _; rw [Nat.pow_succ, ← Nat.div_div_eq_div_mul, hT.out]⟩
        case measure => simp [intOf]; omega
      · have hjn : j = n := by omega
        subst hjn
        have hT0 : T = 0 := by rw [← hT.out]; exact Nat.div_eq_of_lt HF.out
        subst hT0
        go_wp2_with fail
        refine (refGet_c _ _ _ _ _ hr2).mono ?_
        rintro e w5 ⟨rfl, rfl⟩
        rw [be_putL j N HF.out, Nat.mod_eq_of_lt hN]
        go_wp2
        go_ret
        exact ⟨rfl, hb⟩

end Go.Proofs.Ytcjeidoniekgdaa.wordNumbers
