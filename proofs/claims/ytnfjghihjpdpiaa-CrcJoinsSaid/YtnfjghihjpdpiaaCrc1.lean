/- What the functions shift, More and Sum of package crc and the reference's More return, for every argument, as a walk through the translated text. Conditions: the bytes read as a list. -/
import Derived.Test.YtnfjghihjpdpiaaChecked
import Derived.Test.YtnfjghihjpdpiaaCrcMath
namespace Go.Proofs.Ytnfjghihjpdpiaa
open Go.ChangeShapes Go.WideShapes Go.RowKit

theorem bshr1 (a : BitVec 32) : (a.toNat : Int) / (2 : Int) = ((a >>> 1).toNat : Int) := by
  rw [BitVec.toNat_ushiftRight, Nat.shiftRight_eq_div_pow]; omega
theorem blsb (a : BitVec 32) : a.getLsbD 0 = decide (a.toNat % 2 = 1) := by
  rw [← BitVec.testBit_toNat, Nat.testBit_zero]
theorem band1 (a : BitVec 32) : bits BinOp.and IntKind.u32 (a.toNat : Int) 1 = if a.getLsbD 0 then 1 else 0 := by
  have e : (1 : Int) = ((1#32).toNat : Int) := by decide
  rw [e, band, BitVec.toNat_and, show (1#32).toNat = 1 from rfl, Nat.and_one_is_mod, blsb]
  rcases Nat.mod_two_eq_zero_or_one a.toNat with h | h <;> rw [h] <;> decide
theorem bpoly (a : BitVec 32) : bits BinOp.xor IntKind.u32 (a.toNat : Int) 2197175160 = ((a ^^^ polyW).toNat : Int) := by
  rw [← bxor]; rfl
theorem stepW_odd (c : BitVec 32) (h : c.getLsbD 0 = true) : stepW c = (c >>> 1) ^^^ polyW := by unfold stepW; rw [if_pos h]
theorem stepW_even (c : BitVec 32) (h : c.getLsbD 0 = false) : stepW c = c >>> 1 := by
  unfold stepW; rw [if_neg (by rw [h]; decide), BitVec.xor_zero]

set_option maxHeartbeats 800000 in
theorem shift_c (c : BitVec 32) (w : World) : Calls Try.prog 12 #[.int .u32 (c.toNat : Int)] w fun e w' => e = .returned (.int .u32 ((stepsW 8 c).toNat : Int)) ∧ w = w' := by
  go_enter Try.func12, Try.ntmps12
  go_wp2
  go_loopw [0, 4] (fun x i wr => ∃ j : Nat, ∃ q : BitVec 32, j ≤ 8 ∧ i = .int .i64 j ∧ x = .int .u32 (q.toNat : Int) ∧ Hid (stepsW j c = q) ∧ wr = w) (fun _ i _ => 8 - (intOf i).toNat)
  case atStart => exact ⟨0, c, by omega, rfl, rfl, rfl, by trivial⟩
  case round =>
    obtain ⟨j, q, hj, rfl, rfl, hq, rfl⟩ := hrel
    by_cases hlt : j < 8
    · have hlt2 : (j : Int) < 8 := by omega
      cases hb : q.getLsbD 0 with
      | true =>
        have h1 : bits BinOp.and IntKind.u32 (q.toNat : Int) 1 = 1 := by rw [band1, hb]; rfl
        go_wp2
        simp only [bshr1, bpoly]
        go_roundw
        case rel => exact ⟨j + 1, _, by omega, by go_num, rfl, by show _ = _; rw [stepsW_succ, hq.out, stepW_odd _ hb], by trivial⟩
        case measure => simp [intOf]; omega
      | false =>
        have h1 : bits BinOp.and IntKind.u32 (q.toNat : Int) 1 = 0 := by rw [band1, hb]; rfl
        go_wp2
        simp only [bshr1]
        go_roundw
        case rel => exact ⟨j + 1, _, by omega, by go_num, rfl, by show _ = _; rw [stepsW_succ, hq.out, stepW_even _ hb], by trivial⟩
        case measure => simp [intOf]; omega
    · obtain rfl : j = 8 := by omega
      go_wp2
      go_ret
      exact ⟨by rw [hq.out]; rfl, rfl⟩

theorem bxorx (a : BitVec 32) (x : Nat) (h : x < 4294967296) : bits BinOp.xor IntKind.u32 (a.toNat : Int) (x : Int) = ((a ^^^ BitVec.ofNat 32 x).toNat : Int) := by
  rw [← bxor, BitVec.toNat_ofNat, Nat.mod_eq_of_lt h]
set_option maxHeartbeats 800000 in
theorem more_c (s : BitVec 32) (A : Option Addr) (n c : Nat) (l : List Nat) (w : World) (hR : Reads .u8 w A n c l) :
    Calls Try.prog 7 #[.int .u32 (s.toNat : Int), .slice A n c] w fun e w' => e = .returned (.int .u32 ((moreW s l).toNat : Int)) ∧ w = w' := by
  have hn : n ≤ 9223372036854775807 := by have := hR.room; have := hR.cap; unfold maxLen at this; omega
  have hla := hR.len
  have HL := Lib.hid hla
  clear hla
  go_enter Try.func7, Try.ntmps7
  obtain ⟨ns, hns⟩ : ∃ ns, Hid (~~~s = ns) := ⟨_, rfl⟩
  have HM := Lib.hid (show moreW s l = ~~~(runW ns l) from by rw [moreW, hns.out])
  go_upto_region 3 with (fail)
  simp only [bnotx]
  rw [hns.out]
  go_loopw [5, 12] (fun x i wr => ∃ j : Nat, ∃ q : BitVec 32, j ≤ n ∧ i = .int .i64 j ∧ x = .int .u32 (q.toNat : Int) ∧ Hid (runW ns (l.take j) = q) ∧ wr = w) (fun _ i _ => n - (intOf i).toNat)
  case atStart => exact ⟨0, ns, by omega, rfl, rfl, rfl, by trivial⟩
  case round =>
    obtain ⟨j, q, hj, rfl, rfl, hq, rfl⟩ := hrel
    by_cases hlt : j < n
    · have hlt2 : (j : Int) < (n : Int) := by omega
      have hj0 : (0 : Int) ≤ (j : Int) := by omega
      have hjl : j < l.length := by rw [HL.out]; exact hlt
      obtain ⟨ad, rfl, _, hc⟩ := hR.cell j hjl
      have hx8 := wf_u8.1 (hR.wf _ (List.getElem_mem hjl))
      have HS := Lib.hid (runW_take ns l j hjl)
      generalize l[j] = x at *
      obtain ⟨y, hy⟩ : ∃ y, Hid (q ^^^ BitVec.ofNat 32 x = y) := ⟨_, rfl⟩
      go_wp2_with fail
      rw [bxorx q x (by omega), hy.out]
      refine (shift_c _ _).mono ?_
      rintro e w' ⟨rfl, rfl⟩
      go_wp2
      go_roundw
      case rel => exact ⟨j + 1, _, by omega, by go_num, rfl, by show _ = _; rw [HS.out, hq.out, hy.out], by trivial⟩
      case measure => simp [intOf]; omega
    · obtain rfl : j = n := by omega
      go_wp2
      simp only [bnotx]
      go_ret
      refine ⟨?_, rfl⟩
      have e : l.take j = l := List.take_of_length_le (by rw [HL.out]; omega)
      rw [e] at hq
      rw [HM.out, hq.out]
      rfl
theorem sum_c (A : Option Addr) (n c : Nat) (l : List Nat) (w : World) (hR : Reads .u8 w A n c l) :
    Calls Try.prog 9 #[.slice A n c] w fun e w' => e = .returned (.int .u32 ((moreW 0#32 l).toNat : Int)) ∧ w = w' := by
  go_enter Try.func9, Try.ntmps9
  go_wp2_with fail
  refine (more_c 0#32 A n c l w hR).mono ?_
  rintro e w' ⟨rfl, rfl⟩
  go_wp2
  go_ret
  exact ⟨rfl, rfl⟩
set_option maxHeartbeats 1600000 in
theorem refMore_c (s : BitVec 32) (A : Option Addr) (n c : Nat) (l : List Nat) (w : World) (hR : Reads .u8 w A n c l) :
    Calls Try.prog 8 #[.int .u32 (s.toNat : Int), .slice A n c] w fun e w' => e = .returned (.int .u32 ((moreW s l).toNat : Int)) ∧ w = w' := by
  have hn : n ≤ 9223372036854775807 := by have := hR.room; have := hR.cap; unfold maxLen at this; omega
  have hla := hR.len
  have HL := Lib.hid hla
  clear hla
  go_enter Try.func8, Try.ntmps8
  obtain ⟨ns, hns⟩ : ∃ ns, Hid (~~~s = ns) := ⟨_, rfl⟩
  have HM := Lib.hid (show moreW s l = ~~~(runW ns l) from by rw [moreW, hns.out])
  go_upto_region 3 with (fail)
  simp only [bnot]
  rw [hns.out]
  go_loopw [5, 6] (fun x i wr => ∃ j : Nat, ∃ q : BitVec 32, j ≤ n ∧ i = .int .i64 j ∧ x = .int .u32 (q.toNat : Int) ∧ Hid (runW ns (l.take j) = q) ∧ w = wr) (fun _ i _ => n - (intOf i).toNat)
  case atStart => exact ⟨0, ns, by omega, rfl, rfl, rfl, by trivial⟩
  case round =>
    obtain ⟨j, q, hj, rfl, rfl, hq, rfl⟩ := hrel
    by_cases hlt : j < n
    · have hlt2 : (j : Int) < (n : Int) := by omega
      have hj0 : (0 : Int) ≤ (j : Int) := by omega
      have hjl : j < l.length := by rw [HL.out]; exact hlt
      obtain ⟨ad, rfl, _, hc⟩ := hR.cell j hjl
      have hx8 := wf_u8.1 (hR.wf _ (List.getElem_mem hjl))
      have HS := Lib.hid (runW_take ns l j hjl)
      generalize l[j] = x at *
      obtain ⟨y, hy⟩ : ∃ y, Hid (q ^^^ BitVec.ofNat 32 x = y) := ⟨_, rfl⟩
      go_upto_region 7 with (fail)
      rw [bxorx q x (by omega), hy.out]
      go_loopw [5, 7] (fun x i wr => ∃ k : Nat, ∃ q : BitVec 32, k ≤ 8 ∧ i = .int .i64 k ∧ x = .int .u32 (q.toNat : Int) ∧ Hid (stepsW k y = q) ∧ w = wr) (fun _ i _ => 8 - (intOf i).toNat)
      case atStart => exact ⟨0, y, by omega, rfl, rfl, rfl, by trivial⟩
      case round =>
        obtain ⟨k, z, hk, rfl, rfl, hz, rfl⟩ := hrel
        by_cases hlt8 : k < 8
        · have hlt82 : (k : Int) < 8 := by omega
          cases hb : z.getLsbD 0 with
          | true =>
            have h1 : (z.toNat : Int) % 2 = 1 := by rw [blsb] at hb; have := of_decide_eq_true hb; omega
            go_wp2
            simp only [bshr1, bpoly]
            go_roundw
            case rel => exact ⟨k + 1, _, by omega, by go_num, rfl, by show _ = _; rw [stepsW_succ, hz.out, stepW_odd _ hb], by trivial⟩
            case measure => simp [intOf]; omega
          | false =>
            have h1 : (z.toNat : Int) % 2 = 0 := by rw [blsb] at hb; have := of_decide_eq_false hb; omega
            go_wp2
            simp only [bshr1]
            go_roundw
            case rel => exact ⟨k + 1, _, by omega, by go_num, rfl, by show _ = _; rw [stepsW_succ, hz.out, stepW_even _ hb], by trivial⟩
            case measure => simp [intOf]; omega
        · obtain rfl : k = 8 := by omega
          go_wp2
          go_roundw
          case rel => exact ⟨j + 1, z, by omega, by go_num, rfl, by show _ = _; rw [HS.out, hq.out, hy.out, hz.out], by trivial⟩
          case measure => simp [intOf]; omega
    · obtain rfl : j = n := by omega
      go_wp2
      simp only [bnot]
      go_ret
      refine ⟨?_, rfl⟩
      have e : l.take j = l := List.take_of_length_le (by rw [HL.out]; omega)
      rw [e] at hq
      rw [HM.out, hq.out]
      rfl
end Go.Proofs.Ytnfjghihjpdpiaa
