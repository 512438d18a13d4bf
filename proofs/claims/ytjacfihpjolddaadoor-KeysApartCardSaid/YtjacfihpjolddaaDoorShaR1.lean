/- What the functions shr, rots, K, First and Pad of the reference batonref02 return, for every argument, as a walk through the translated text. Conditions: shr's and rots' numbers are from 0 to 31; Pad's number is from 0 to 2^40. -/
import Derived.Test.YtjacfihpjolddaaDoorSha3
import Derived.Test.YtjacfihpjolddaaDoorRegs
import Derived.Maps.AppendAt
namespace Go.Proofs.YtjacfihpjolddaaDoor
open Go.ChangeShapes Go.WideShapes Go.RowKit

set_option maxHeartbeats 400000 in
theorem shr_c (x r : BitVec 32) (n : Int) (k : Nat) (w : World) (hn : Hid (n = (k : Int))) (hk : n ≤ 31) (hr : Hid (x >>> k = r)) :
    Calls Tryd.prog 33 #[.int .u32 (x.toNat : Int), .int .i64 n] w fun e w' => e = .returned (.int .u32 (r.toNat : Int)) ∧ w = w' := by
  have hn0 : 0 ≤ n := by have := hn.out; omega
  go_enter Tryd.func33, Tryd.ntmps33
  go_wp2
  go_loop [0, 5] (fun t i => ∃ j q : Nat, (j : Int) ≤ n ∧ i = .int .i64 j ∧ t = .int .u32 (q : Int) ∧ Hid (x.toNat / 2 ^ j = q)) (fun _ i => (n - intOf i).toNat)
  case atStart => exact ⟨0, x.toNat, by omega, rfl, rfl, by show _ = _; simp⟩
  case round =>
    obtain ⟨j, q, hj, rfl, rfl, hq⟩ := hrel
    have hq2 : q < 4294967296 := by rw [← hq.out]; exact Nat.lt_of_le_of_lt (Nat.div_le_self _ _) x.isLt
    by_cases hlt : (j : Int) < n
    · go_wp2
      go_round
      case rel => exact ⟨j + 1, q / 2, by omega, by go_num, by go_num, by show _ = _; rw [Nat.pow_succ, ← Nat.div_div_eq_div_mul, hq.out]⟩
      case measure => simp [intOf]; omega
    · go_wp2
      go_ret
      have hjk : j = k := by have := hn.out; omega
      refine ⟨ret_int ?_, rfl⟩
      rw [← hq.out, ← hr.out, BitVec.toNat_ushiftRight, Nat.shiftRight_eq_div_pow, hjk]
theorem refRotW_c (x r : BitVec 32) (n : Int) (k : Nat) (w : World) (hn : Hid (n = (k : Int))) (hk : n ≤ 31) (hr : Hid (rotW x k = r)) :
    Calls Tryd.prog 32 #[.int .u32 (x.toNat : Int), .int .i64 n] w fun e w' => e = .returned (.int .u32 (r.toNat : Int)) ∧ ∃ m, w' = w.drewN m := by
  refine (refRot_c x.toNat n w x.isLt (by have := hn.out; omega) (by omega)).mono ?_
  rintro e w' ⟨rfl, hm⟩
  refine ⟨ret_int ?_, hm⟩
  rw [← hr.out, rotW_nat _ _ (by have := hn.out; omega), show n.toNat = k from by have := hn.out; omega]
set_option maxHeartbeats 800000 in
theorem rots_c (x r : BitVec 32) (na nb nc : Int) (ka kb kc : Nat) (w : World) (h1 : Hid (na = (ka : Int))) (h2 : Hid (nb = (kb : Int))) (h3 : Hid (nc = (kc : Int))) (b1 : na ≤ 31) (b2 : nb ≤ 31) (b3 : nc ≤ 31) (hr : Hid (rotW x ka ^^^ rotW x kb ^^^ rotW x kc = r)) :
    Calls Tryd.prog 35 #[.int .u32 (x.toNat : Int), .int .i64 na, .int .i64 nb, .int .i64 nc] w fun e w' => e = .returned (.int .u32 (r.toNat : Int)) ∧ ∃ m, w' = w.drewN m := by
  obtain ⟨ra, hra⟩ : ∃ q, Hid (rotW x ka = q) := ⟨_, rfl⟩
  obtain ⟨rb, hrb⟩ : ∃ q, Hid (rotW x kb = q) := ⟨_, rfl⟩
  obtain ⟨rc, hrc⟩ : ∃ q, Hid (rotW x kc = q) := ⟨_, rfl⟩
  have HR : Hid (ra ^^^ rb ^^^ rc = r) := by show _ = _; rw [← hra.out, ← hrb.out, ← hrc.out]; exact hr.out
  go_enter Tryd.func35, Tryd.ntmps35
  go_wp2_with fail
  refine (refRotW_c x ra na ka _ h1 b1 hra).mono ?_
  rintro e w1 ⟨rfl, m1, rfl⟩
  go_wp2_with fail
  refine (refRotW_c x rb nb kb _ h2 b2 hrb).mono ?_
  rintro e w1 ⟨rfl, m2, rfl⟩
  go_wp2_with fail
  refine (refRotW_c x rc nc kc _ h3 b3 hrc).mono ?_
  rintro e w1 ⟨rfl, m3, rfl⟩
  go_wp2
  go_ret
  simp only [bxor]
  rw [HR.out]
  exact ⟨rfl, _, rfl⟩
theorem reads_u32 {w : World} {g : Nat} {t : TypeId} {ws : List (BitVec 32)} {n : Nat} (h : Blk w g t (u32s ws)) (hw : ws.length = n) (hm : n ≤ maxLen) : Reads .u32 w (some ⟨g, 0, none⟩) n n (ws.map BitVec.toNat) := by
  refine ⟨by simp [hw], Nat.le_refl _, hm, fun x hx => ?_, fun i hi => ⟨_, rfl, h.lt, ?_⟩⟩
  · obtain ⟨y, _, rfl⟩ := List.mem_map.1 hx
    exact wf_u32.2 y.isLt
  · exact h.all i _ (by simp [u32s, ints] at hi ⊢; simp [hi])
set_option maxRecDepth 100000 in
set_option maxHeartbeats 800000 in
theorem refK_c (w : World) : Calls Tryd.prog 34 #[] w fun e w' => e = .returned (.slice (some ⟨w.heap.size, 0, none⟩) 64 64) ∧ Blk w' w.heap.size 53 (u32s kW) ∧ Below w.heap.size w w' := by
  go_enter Tryd.func34, Tryd.ntmps34
  go_wp2
  go_ret
  exact ⟨rfl, Blk.new _ _ (u32s kW), (Below.refl _ _).alloc (Nat.le_refl _) _⟩
set_option maxHeartbeats 800000 in
theorem refFirst_c (w : World) : Calls Tryd.prog 24 #[] w fun e w' => e = .returned (.slice (some ⟨w.heap.size, 0, none⟩) 8 8) ∧ Blk w' w.heap.size 53 (u32s firstW) ∧ Below w.heap.size w w' := by
  go_enter Tryd.func24, Tryd.ntmps24
  go_wp2
  go_ret
  exact ⟨rfl, Blk.new _ _ (u32s firstW), (Below.refl _ _).alloc (Nat.le_refl _) _⟩

/-! ### Pad -/
def cntN (M : Nat) : List Nat := (List.range 8).map fun i => M / 256 ^ (7 - i) % 256
theorem length_cntN (M : Nat) : (cntN M).length = 8 := by simp [cntN]
theorem cntN_succ (M j : Nat) (h : j < 8) : (cntN M).take (j + 1) = (cntN M).take j ++ [M / 256 ^ (7 - j) % 256] := by
  rw [List.take_succ_eq_append_getElem (by rw [length_cntN]; exact h)]; simp [cntN]
theorem padN_eq (N Z : Nat) (hZ : Z = (119 - N % 64) % 64) (hN : N ≤ 1099511627776) : padN N = (128 :: List.replicate Z 0) ++ (cntN (8 * N)).take 8 := by
  rw [padN, List.take_of_length_le (Nat.le_of_eq (length_cntN _)), cntN, hZ, List.cons_append, Nat.mod_eq_of_lt (show 8 * N < 18446744073709551616 by omega)]
theorem grow_zero (k : Nat) (h : 1 ≤ k) : ints .u8 (128 :: List.replicate (k - 1) 0) ++ [.int .u8 0] = ints .u8 (128 :: List.replicate (k + 1 - 1) 0) := by
  have : k + 1 - 1 = (k - 1) + 1 := by omega
  rw [this, List.replicate_succ']; simp [ints]
theorem dig_step (M j : Nat) (hj : j < 8) (q : Nat) (hq : M / 256 ^ (7 - j) = q) (Z : Nat) : ints .u8 (128 :: List.replicate Z 0 ++ (cntN M).take j) ++ [.int .u8 ((q % 256 : Nat) : Int)] = ints .u8 (128 :: List.replicate Z 0 ++ (cntN M).take (j + 1)) := by
  rw [cntN_succ M j hj, hq]; simp [ints]
set_option maxHeartbeats 1600000 in
theorem refPad_c (N L : Nat) (w : World) (h1 : N ≤ 1099511627776) (hL : Hid (L = 9 + (119 - N % 64) % 64)) :
    Calls Tryd.prog 23 #[.int .i64 (N : Int)] w (RowPost w 5 L (ints .u8 (padN N))) := by
  obtain ⟨i0, hi, hz0, hz1, hz2⟩ := info_parts infoU8
  obtain ⟨Z, hZ⟩ : ∃ Z, Hid (Z = (119 - N % 64) % 64) := ⟨_, rfl⟩
  have hZ64 : Z < 64 := by rw [hZ.out]; exact Nat.mod_lt _ (by decide)
  obtain ⟨M, hM⟩ : ∃ M, Hid (M = 8 * N) := ⟨_, rfl⟩
  have hMb : M ≤ 8796093022208 := by have := hM.out; omega
  have HP := Lib.hid (padN_eq N Z hZ.out h1)
  go_enter Tryd.func23, Tryd.ntmps23
  go_wp2_with fail
  go_loopw [3] (fun v wr => ∃ k c : Nat, ∃ A, 1 ≤ k ∧ k ≤ Z + 1 ∧ v = .slice A k c ∧ Mine w wr 5 (.slice A k c) k (ints .u8 (128 :: List.replicate (k - 1) 0))) (fun v _ => match v with | .slice _ k _ => Z + 1 - k | _ => 0)
  case atStart =>
    refine ⟨1, 1, _, Nat.le_refl _, by omega, rfl, ?_, (Below.refl _ _).alloc (Nat.le_refl _) _⟩
    exact blk_own (Blk.new _ _ _) rfl (Nat.le_refl _) (by decide)
  case round =>
    obtain ⟨k, c, A, hk1, hk2, rfl, hmine⟩ := hrel
    by_cases hlt : k < Z + 1
    · have hne : (((N : Int) + (k : Int)) % 64 != 56) = true := by rw [bne_iff_ne]; have := hZ.out; omega
      have HM := Lib.hid hmine
      clear hmine
      go_wp2_with (at_builtin; refine wpList_append_own_at _ rfl (.tmp 15) (.tmp 16) 32 rfl w.heap.size 5 i0 (.int .u8 0) 1 1 Tryd.underlying32 hi hz0 hz1 hz2 rfl (by decide) _ k _ rfl (HM.out.1.alloc _) ⟨wr.heap.size, 0, none⟩ 1 1 [.int .u8 0] rfl rfl (cells_new _ _ _) (by simp [Value.oneCell']) (by unfold maxLen; omega) (by omega) (by have := HM.out.2.size; simp; omega) ?_; intro v2 w2 hown2 hgrow2 hiff2 hat2)
      obtain ⟨A2, c2, rfl⟩ := own_form hown2
      have hm2 := mine_grown HM.out _ hown2 hgrow2
      rw [grow_zero k hk1] at hm2
      go_roundw
      case rel => exact ⟨k + 1, c2, A2, by omega, by omega, rfl, hm2⟩
      case measure => simp; omega
    · have hkz : k = Z + 1 := by omega
      have hne : (((N : Int) + (k : Int)) % 64 != 56) = false := by rw [bne_eq_false_iff_eq]; have := hZ.out; omega
      have HM : Hid (Mine w wr 5 (.slice A k c) k (ints .u8 (128 :: List.replicate Z 0 ++ (cntN M).take 0))) := by
        show Mine _ _ _ _ _ _
        rw [show k - 1 = Z by omega] at hmine; simpa using hmine
      have HKZ := Lib.hid hkz
      clear hmine hkz
      go_upto_region 5 with (fail)
      rw [show (N : Int) * 8 = (M : Int) from by have := hM.out; omega]
      go_wp2_with fail
      go_loopw [3, 5] (fun v i wr => ∃ j q c : Nat, ∃ A, j ≤ 8 ∧ q = Z + 1 + j ∧ i = .int .i64 (7 - (j : Int)) ∧ v = .slice A q c ∧ Mine w wr 5 (.slice A q c) q (ints .u8 (128 :: List.replicate Z 0 ++ (cntN M).take j))) (fun _ i _ => (intOf i + 1).toNat)
      case atStart => exact ⟨0, k, c, A, by omega, by have := HKZ.out; omega, rfl, rfl, HM.out⟩
      case round =>
        clear HM
        obtain ⟨j, q, c2, A2, hj, hq, rfl, rfl, hmine⟩ := hrel
        have HQ := Lib.hid hq
        have HM := Lib.hid hmine
        have hqb : q ≤ 100 := by omega
        clear hq hmine
        by_cases hlt : j < 8
        · have hge : decide (0 ≤ 7 - (j : Int)) = true := by simp; omega
          have hge1 : (j : Int) ≤ 7 := by omega
          go_wp2_with fail
          go_loop [6, 7] (fun t i => ∃ k' d : Nat, (k' : Int) ≤ 7 - (j : Int) ∧ i = .int .i64 k' ∧ t = .int .u64 (d : Int) ∧ Hid (M / 256 ^ k' = d)) (fun _ i => (7 - (j : Int) - intOf i).toNat)
          case atStart => exact ⟨0, M, by omega, rfl, rfl, by show _ = _; simp⟩
          case round =>
            obtain ⟨k', d, hk', rfl, rfl, hd⟩ := hrel
            have hdb : d ≤ 8796093022208 := by rw [← hd.out]; exact Nat.le_trans (Nat.div_le_self _ _) hMb
            by_cases hlt2 : (k' : Int) < 7 - (j : Int)
            · go_wp2
              go_round
              case rel => exact ⟨k' + 1, d / 256, by omega, by go_num, by go_num, by show _ = _; rw [Nat.pow_succ, ← Nat.div_div_eq_div_mul, hd.out]⟩
              case measure => simp [intOf]; omega
            · have hkk : k' = 7 - j := by omega
              have hds := dig_step M j hlt d (by rw [← hkk]; exact hd.out) Z
              have HDS := Lib.hid hds
              clear hkk hds
              have hdm : (d : Int) % 256 = ((d % 256 : Nat) : Int) := by omega
              have HDM := Lib.hid hdm
              clear hdm
              go_wp2_with (at_builtin; refine wpList_append_own_at _ rfl (.tmp 33) (.tmp 37) 32 rfl w.heap.size 5 i0 (.int .u8 0) 1 1 Tryd.underlying32 hi hz0 hz1 hz2 rfl (by decide) _ q _ rfl (HM.out.1.alloc _) ⟨wr.heap.size, 0, none⟩ 1 1 _ rfl rfl (cells_new _ _ _) (by simp [Value.oneCell']) (by unfold maxLen; omega) (by omega) (by have := HM.out.2.size; simp; omega) ?_; intro v2 w2 hown2 hgrow2 hiff2 hat2)
              obtain ⟨A3, c3, rfl⟩ := own_form hown2
              have hm2 := mine_grown HM.out _ hown2 hgrow2
              rw [show (#[Value.int .u8 ((d : Int) % 256)] : Array Value).toList = [.int .u8 ((d % 256 : Nat) : Int)] from by rw [HDM.out], HDS.out] at hm2
              go_roundw
              case rel => exact ⟨j + 1, q + 1, c3, A3, by omega, by have := HQ.out; omega, by go_num, rfl, hm2⟩
              case measure => simp [intOf]; omega
        · have hj8 : j = 8 := by omega
          subst hj8
          have hge : decide (0 ≤ 7 - ((8 : Nat) : Int)) = false := by decide
          go_wp2
          go_ret
          rw [HP.out, ← hM.out, show L = q from by have := HQ.out; have := hL.out; have := hZ.out; omega]
          exact ⟨_, rfl, HM.out⟩
end Go.Proofs.YtjacfihpjolddaaDoor
