/- What Sign and Bytes of the reference batonref08 return, for every argument, as a walk through the translated text. Conditions: none. -/
import Derived.Test.YtbmnpbmimhodbaaDoorRuneFeed
import Derived.Test.YtbmnpbmimhodbaaDoorRegs
import Derived.Test.YtbmnpbmimhodbaaDoorSame
import Derived.Test.YtbmnpbmimhodbaaDoorCodec0
import Derived.Laws.Runes
namespace Go.Proofs.YtbmnpbmimhodbaaDoor
open Go.ChangeShapes Go.WideShapes Go.RowKit Go.Lib
set_option maxHeartbeats 800000 in
theorem sign_c (c : Int) (w : World) : Calls Tryd.prog 8 #[.int .i64 c] w fun en w' => en = .returned (.bool (signZ c)) ∧ w' = w := by
  by_cases h1 : 0 ≤ c
  · by_cases h2 : c ≤ 1114111
    · by_cases h3 : c < 55296
      · have HR : Hid (signZ c = true) := by show _ = _; simp only [signZ, decide_eq_true_eq]; omega
        rw [HR.out]
        go_enter Tryd.func8, Tryd.ntmps8
        go_wp2
        go_ret
        exact ⟨rfl, rfl⟩
      · by_cases h4 : 57343 < c
        · have HR : Hid (signZ c = true) := by show _ = _; simp only [signZ, decide_eq_true_eq]; omega
          rw [HR.out]
          go_enter Tryd.func8, Tryd.ntmps8
          go_wp2
          go_ret
          exact ⟨rfl, rfl⟩
        · have HR : Hid (signZ c = false) := by show _ = _; simp only [signZ, decide_eq_false_iff_not]; omega
          rw [HR.out]
          go_enter Tryd.func8, Tryd.ntmps8
          go_wp2
          go_ret
          exact ⟨rfl, rfl⟩
    · have HR : Hid (signZ c = false) := by show _ = _; simp only [signZ, decide_eq_false_iff_not]; omega
      rw [HR.out]
      go_enter Tryd.func8, Tryd.ntmps8
      go_wp2
      go_ret
      exact ⟨rfl, rfl⟩
  · have HR : Hid (signZ c = false) := by show _ = _; simp only [signZ, decide_eq_false_iff_not]; omega
    rw [HR.out]
    go_enter Tryd.func8, Tryd.ntmps8
    go_wp2
    go_ret
    exact ⟨rfl, rfl⟩
set_option maxHeartbeats 1600000 in
set_option maxRecDepth 100000 in
theorem refBytes_1 (n : Nat) (w : World) (hs : signZ (n : Int) = true) (h : n < 128) : Calls Tryd.prog 5 #[.int .i64 (n : Int)] w (RowPost w 5 (uniN n).length (ints .u8 (uniN n))) := by
  have HC := Lib.hid (sign_c (n : Int) w)
  rw [hs] at HC
  simp only [signZ, decide_eq_true_eq] at hs
  have HR := Lib.hid (uniN_1 n h)
  rw [HR.out]
  obtain ⟨z, hz⟩ : ∃ z, Hid ((n : Int) = z) := ⟨_, Lib.hid rfl⟩
  rw [hz.out] at hs HC ⊢
  have b0 : (0 : Int) ≤ z := by have := hz.out; omega
  have b1 : z ≤ 127 := by have := hz.out; omega
  have q1 : z < 128 := by omega
  clear hs h
  go_enter Tryd.func5, Tryd.ntmps5
  go_wp2_with fail
  refine HC.out.mono ?_
  rintro en w1 ⟨rfl, rfl⟩
  go_wp2
  go_ret
  have hb := Blk.new w1 5 [.int .u8 z]
  rw [← hz.out] at hb ⊢
  exact ⟨_, rfl, blk_own hb rfl (Nat.le_refl _) (by decide), (Below.refl _ _).alloc (Nat.le_refl _) _⟩
set_option maxHeartbeats 1600000 in
set_option maxRecDepth 100000 in
theorem refBytes_2 (n : Nat) (w : World) (hs : signZ (n : Int) = true) (h : 128 ≤ n) (h' : n < 2048) : Calls Tryd.prog 5 #[.int .i64 (n : Int)] w (RowPost w 5 (uniN n).length (ints .u8 (uniN n))) := by
  have HC := Lib.hid (sign_c (n : Int) w)
  rw [hs] at HC
  simp only [signZ, decide_eq_true_eq] at hs
  have HR := Lib.hid (uniN_2 n h h')
  rw [HR.out]
  obtain ⟨z, hz⟩ : ∃ z, Hid ((n : Int) = z) := ⟨_, Lib.hid rfl⟩
  rw [hz.out] at hs HC ⊢
  have b0 : (128 : Int) ≤ z := by have := hz.out; omega
  have b1 : z ≤ 2047 := by have := hz.out; omega
  have q1 : ¬ (z < 128) := by omega
  have q2 : z < 2048 := by omega
  clear hs h h'
  go_enter Tryd.func5, Tryd.ntmps5
  go_wp2_with fail
  refine HC.out.mono ?_
  rintro en w1 ⟨rfl, rfl⟩
  go_wp2
  go_ret
  have hb := Blk.new w1 5 [.int .u8 (192 + z / 64), .int .u8 (128 + z % 64)]
  rw [← hz.out] at hb ⊢
  exact ⟨_, rfl, blk_own hb rfl (Nat.le_refl _) (by decide), (Below.refl _ _).alloc (Nat.le_refl _) _⟩
set_option maxHeartbeats 1600000 in
set_option maxRecDepth 100000 in
theorem refBytes_3 (n : Nat) (w : World) (hs : signZ (n : Int) = true) (h : 2048 ≤ n) (h' : n < 65536) : Calls Tryd.prog 5 #[.int .i64 (n : Int)] w (RowPost w 5 (uniN n).length (ints .u8 (uniN n))) := by
  have HC := Lib.hid (sign_c (n : Int) w)
  rw [hs] at HC
  simp only [signZ, decide_eq_true_eq] at hs
  have HR := Lib.hid (uniN_3 n h h')
  rw [HR.out]
  obtain ⟨z, hz⟩ : ∃ z, Hid ((n : Int) = z) := ⟨_, Lib.hid rfl⟩
  rw [hz.out] at hs HC ⊢
  have b0 : (2048 : Int) ≤ z := by have := hz.out; omega
  have b1 : z ≤ 65535 := by have := hz.out; omega
  have q1 : ¬ (z < 128) := by omega
  have q2 : ¬ (z < 2048) := by omega
  have q3 : z < 65536 := by omega
  clear hs h h'
  go_enter Tryd.func5, Tryd.ntmps5
  go_wp2_with fail
  refine HC.out.mono ?_
  rintro en w1 ⟨rfl, rfl⟩
  go_wp2
  go_ret
  have hb := Blk.new w1 5 [.int .u8 (224 + z / 4096), .int .u8 (128 + z / 64 % 64), .int .u8 (128 + z % 64)]
  rw [← hz.out] at hb ⊢
  exact ⟨_, rfl, blk_own hb rfl (Nat.le_refl _) (by decide), (Below.refl _ _).alloc (Nat.le_refl _) _⟩
set_option maxHeartbeats 1600000 in
set_option maxRecDepth 100000 in
theorem refBytes_4 (n : Nat) (w : World) (hs : signZ (n : Int) = true) (h : 65536 ≤ n) : Calls Tryd.prog 5 #[.int .i64 (n : Int)] w (RowPost w 5 (uniN n).length (ints .u8 (uniN n))) := by
  have HC := Lib.hid (sign_c (n : Int) w)
  rw [hs] at HC
  simp only [signZ, decide_eq_true_eq] at hs
  have HR := Lib.hid (uniN_4 n h)
  rw [HR.out]
  obtain ⟨z, hz⟩ : ∃ z, Hid ((n : Int) = z) := ⟨_, Lib.hid rfl⟩
  rw [hz.out] at hs HC ⊢
  have b0 : (65536 : Int) ≤ z := by have := hz.out; omega
  have b1 : z ≤ 1114111 := by have := hz.out; omega
  have q1 : ¬ (z < 128) := by omega
  have q2 : ¬ (z < 2048) := by omega
  have q3 : ¬ (z < 65536) := by omega
  clear hs h
  go_enter Tryd.func5, Tryd.ntmps5
  go_wp2_with fail
  refine HC.out.mono ?_
  rintro en w1 ⟨rfl, rfl⟩
  go_wp2
  go_ret
  have hb := Blk.new w1 5 [.int .u8 (240 + z / 262144), .int .u8 (128 + z / 4096 % 64), .int .u8 (128 + z / 64 % 64), .int .u8 (128 + z % 64)]
  rw [← hz.out] at hb ⊢
  exact ⟨_, rfl, blk_own hb rfl (Nat.le_refl _) (by decide), (Below.refl _ _).alloc (Nat.le_refl _) _⟩
set_option maxHeartbeats 800000 in
theorem refBytes_bad (c : Int) (w : World) (hs : signZ c = false) : Calls Tryd.prog 5 #[.int .i64 c] w (RowPost w 5 3 (ints .u8 [239, 191, 189])) := by
  have HC := Lib.hid (sign_c c w)
  rw [hs] at HC
  clear hs
  go_enter Tryd.func5, Tryd.ntmps5
  go_wp2_with fail
  refine HC.out.mono ?_
  rintro en w1 ⟨rfl, rfl⟩
  go_wp2
  go_ret
  exact ⟨_, rfl, blk_own (Blk.new w1 5 [.int .u8 239, .int .u8 191, .int .u8 189]) rfl (Nat.le_refl _) (by decide), (Below.refl _ _).alloc (Nat.le_refl _) _⟩
theorem refBytes_c (c : Int) (w : World) : Calls Tryd.prog 5 #[.int .i64 c] w (RowPost w 5 (uniZ c).length (ints .u8 (uniZ c))) := by
  by_cases hs : signZ c = true
  · have h := hs
    simp only [signZ, decide_eq_true_eq] at h
    obtain ⟨n, rfl⟩ : ∃ n : Nat, c = (n : Int) := ⟨c.toNat, by omega⟩
    rw [uniZ, fixZ_fix n hs]
    by_cases h1 : n < 128
    · exact refBytes_1 n w hs h1
    · by_cases h2 : n < 2048
      · exact refBytes_2 n w hs (by omega) h2
      · by_cases h3 : n < 65536
        · exact refBytes_3 n w hs (by omega) h3
        · exact refBytes_4 n w hs (by omega)
  · rw [uniZ, fixZ, if_neg hs]
    exact refBytes_bad c w (by simpa using hs)
end Go.Proofs.YtbmnpbmimhodbaaDoor
