/- What bits.Len returns below 65536, and what the functions of, oneZero, twice, afterZeros, Zeros and Join of package crc return, as a walk through the translated text. Conditions: fewer than 65536 zero bytes. -/
import Derived.Test.YtnfjghihjpdpiaaCrc1
import Derived.Test.YtnfjghihjpdpiaaRegs
import Derived.Lib.BitFns
import Derived.Lib.Tables
namespace Go.Proofs.Ytnfjghihjpdpiaa
open Go.ChangeShapes Go.WideShapes Go.RowKit

theorem bitLen_zero : Lib.bitLen 0 = 0 := rfl
theorem lt_bitLen (x : Nat) (h : x < 2 ^ 64) : x < 2 ^ Lib.bitLen x := by
  induction x using Nat.strongRecOn with
  | ind x ih =>
    by_cases h0 : x = 0
    · subst h0; decide
    · have := ih (x / 2) (by omega) (by omega)
      rw [Lib.bitLen_half x h0 h, Nat.pow_add]
      omega
theorem get8 (y : Int) (h : y.toNat < Lib.len8tab.size) : ((Lib.len8tab[y.toNat]'h).toNat : Int) = Lib.len8 y := by
  simp only [Lib.len8, ByteArray.getElem?_lt' _ _ h, Option.getD_some]

set_option maxHeartbeats 1600000 in
set_option maxRecDepth 100000 in
theorem len64_c (x : Int) (w : World) (h0 : 0 ≤ x) (h1 : x < 65536) :
    Calls Try.prog 19 #[.int .u64 x] w fun e w' => e = .returned (.int .i64 (Lib.bitLen x.toNat : Int)) ∧ w = w' := by
  have h2 : ¬ (4294967296 ≤ x) := by omega
  have h3 : ¬ (65536 ≤ x) := by omega
  by_cases h4 : 256 ≤ x
  · have s := Lib.bitLen_shift8 x.toNat (by omega) (by omega)
    have l := Lib.bitLen_le8' (x / 256) (by omega) (by omega)
    have k := Lib.len8_of (x / 256) (by omega) (by omega)
    have e : (x / 256).toNat = x.toNat / 256 := by omega
    rw [e] at k l
    have K := Lib.hid k
    have S := Lib.hid s
    have i0 : 0 ≤ x / 256 := by omega
    have i1 : x / 256 < (Lib.len8tab.size : Int) := by rw [Lib.len8tab_size]; omega
    clear s k e
    go_enter Try.func19, Try.ntmps19
    go_wp2
    go_ret
    refine ⟨?_, rfl⟩
    rw [S.out]
    refine congrArg Ending.returned (congrArg (Value.int IntKind.i64) ?_)
    rw [get8, K.out]
    unfold wrap64
    omega
  · have l := Lib.bitLen_le8' x (by omega) (by omega)
    have k := Lib.len8_of x (by omega) (by omega)
    have K := Lib.hid k
    have i1 : x < (Lib.len8tab.size : Int) := by rw [Lib.len8tab_size]; omega
    clear k
    go_enter Try.func19, Try.ntmps19
    go_wp2
    go_ret
    refine ⟨?_, rfl⟩
    refine congrArg Ending.returned (congrArg (Value.int IntKind.i64) ?_)
    rw [get8, K.out]
    unfold wrap64
    omega
theorem len_c (x : Int) (w : World) (h0 : 0 ≤ x) (h1 : x < 65536) :
    Calls Try.prog 15 #[.int .u64 x] w fun e w' => e = .returned (.int .i64 (Lib.bitLen x.toNat : Int)) ∧ w = w' := by
  go_enter Try.func15, Try.ntmps15
  go_wp2_with fail
  refine (len64_c x w h0 h1).mono ?_
  rintro e w' ⟨rfl, rfl⟩
  go_wp2
  go_ret
  exact ⟨rfl, rfl⟩

/-! ### The effects -/
def w32s (l : List (BitVec 32)) : List Value := ints .u32 (l.map BitVec.toNat)
theorem length_w32s (l : List (BitVec 32)) : (w32s l).length = l.length := by simp [w32s, ints]
theorem w32s_at (l : List (BitVec 32)) (j : Nat) (h : j < l.length) : (w32s l)[j]? = some (.int .u32 ((l.getD j 0#32).toNat : Int)) := by
  simp [w32s, ints, List.getD_eq_getElem?_getD, h]
theorem w32s_set (l : List (BitVec 32)) (j : Nat) (x : BitVec 32) : (w32s l).set j (.int .u32 (x.toNat : Int)) = w32s (l.set j x) := by
  rw [w32s, ints_set, w32s, List.map_set]

theorem bandat (a : BitVec 32) (j : Nat) : bits BinOp.and IntKind.u32 ((a.toNat : Int) / 2 ^ j) 1 = if a.getLsbD j then 1 else 0 := by
  have e : (a.toNat : Int) / 2 ^ j = ((a >>> j).toNat : Int) := by
    rw [BitVec.toNat_ushiftRight, Nat.shiftRight_eq_div_pow]; simp
  rw [e, band1, BitVec.getLsbD_ushiftRight, Nat.add_zero]

set_option maxHeartbeats 1600000 in
theorem of_c (E : List (BitVec 32)) (c : BitVec 32) (w : World) (hE : E.length = 32) :
    Calls Try.prog 16 #[.agg (w32s E).toArray, .int .u32 (c.toNat : Int)] w fun e w' => e = .returned (.int .u32 ((ofE E c 32).toNat : Int)) ∧ Below w.heap.size w w' := by
  have HE := Lib.hid hE
  clear hE
  go_enter Try.func16, Try.ntmps16
  go_upto_region 1 with (fail)
  refine name_wp (fun w1 => Blk w1 w.heap.size 36 (w32s E) ∧ Below w.heap.size w w1) ⟨Blk.new _ _ (w32s E), (Below.refl _ _).alloc (Nat.le_refl _) _⟩ ?_
  rintro w1 ⟨hb1, hbel1⟩
  have HB1 := Lib.hid hb1
  clear hb1
  go_wp2_with fail
  go_loopw [5, 7] (fun x i wr => ∃ j : Nat, ∃ q : BitVec 32, j ≤ 32 ∧ i = .int .i64 j ∧ x = .int .u32 (q.toNat : Int) ∧ Hid (ofE E c j = q) ∧ w1 = wr) (fun _ i _ => 32 - (intOf i).toNat)
  case atStart => exact ⟨0, 0#32, by omega, rfl, rfl, rfl, by trivial⟩
  case round =>
    obtain ⟨j, q, hj, rfl, rfl, hq, rfl⟩ := hrel
    by_cases hlt : j < 32
    · have hlt2 : (j : Int) < 32 := by omega
      have hj0 : (0 : Int) ≤ (j : Int) := by omega
      have c1 := (HB1.out.cell j).trans (w32s_at E j (by rw [HE.out]; exact hlt))
      cases hb : c.getLsbD j with
      | true =>
        have h1 : bits BinOp.and IntKind.u32 ((c.toNat : Int) / 2 ^ j) 1 = 1 := by rw [bandat, hb]; rfl
        have HN : Hid (ofE E c (j + 1) = q ^^^ E.getD j 0#32) := by show _ = _; rw [ofE, hq.out, hb, if_pos rfl]
        generalize E.getD j 0#32 = y at *
        go_wp2
        simp only [bxor]
        go_roundw
        case rel => exact ⟨j + 1, _, by omega, by go_num, rfl, HN, by trivial⟩
        case measure => simp [intOf]; omega
      | false =>
        have h1 : bits BinOp.and IntKind.u32 ((c.toNat : Int) / 2 ^ j) 1 = 0 := by rw [bandat, hb]; rfl
        have HN : Hid (ofE E c (j + 1) = q) := by show _ = _; rw [ofE, hq.out, hb, if_neg (by decide), BitVec.xor_zero]
        go_wp2
        go_roundw
        case rel => exact ⟨j + 1, q, by omega, by go_num, rfl, HN, by trivial⟩
        case measure => simp [intOf]; omega
    · obtain rfl : j = 32 := by omega
      go_wp2
      go_ret
      exact ⟨by rw [hq.out]; rfl, hbel1⟩

def zeroE : List Value := ints .u32 (List.replicate 32 0)
theorem length_zeroE : zeroE.length = 32 := by simp [zeroE, ints]
/-- The effects while they are being filled. -/
def effC (k j : Nat) : List Value := ints .u32 (fillL ((effW k).map BitVec.toNat) j)
theorem effC_zero (k : Nat) : effC k 0 = zeroE := by rw [effC, fillL_zero, List.length_map, length_effW]; rfl
theorem effC_all (k : Nat) : effC k 32 = w32s (effW k) := by rw [effC, fillL_full _ _ (by rw [List.length_map, length_effW])]; rfl
theorem length_effC (k j : Nat) (h : j ≤ 32) : (effC k j).length = 32 := by
  rw [effC, length_ints, length_fillL _ _ (by rw [List.length_map, length_effW]; exact h), List.length_map, length_effW]
theorem effC_set (k j : Nat) (h : j < 32) : (effC k j).set j (.int .u32 ((stepsW k (unitW j)).toNat : Int)) = effC k (j + 1) := by
  have hj : j < ((effW k).map BitVec.toNat).length := by rw [List.length_map, length_effW]; exact h
  have e : ((effW k).map BitVec.toNat)[j] = (stepsW k (unitW j)).toNat := by simp [effW]
  rw [effC, ints_set, effC, ← e, fillL_set _ j hj]
theorem bunit (j : Nat) : (2 : Int) ^ j % 4294967296 = ((unitW j).toNat : Int) := by
  unfold unitW
  rw [BitVec.toNat_ofNat]
  simp
set_option maxRecDepth 100000 in
set_option maxHeartbeats 1600000 in
theorem oneZero_c (w : World) :
    Calls Try.prog 14 #[] w fun e w' => e = .returned (.agg (w32s (effW 8)).toArray) ∧ Below w.heap.size w w' := by
  go_enter Try.func14, Try.ntmps14
  go_upto_region 2 with (fail)
  refine name_wp (fun w1 => Blk w1 w.heap.size 36 zeroE ∧ Blk w1 (w.heap.size + 1) 36 zeroE ∧ Below w.heap.size w w1) ⟨(Blk.new _ _ zeroE).alloc _, ?_, ((Below.refl _ _).alloc (Nat.le_refl _) _).alloc (by simp) _⟩ ?_
  · have := Blk.new (w.alloc (.cells zeroE.toArray 36)) 36 zeroE
    rw [World.size_alloc] at this
    exact this
  rintro w1 ⟨hb1, hb2, hbel1⟩
  have HB1 := Lib.hid hb1
  have HB2 := Lib.hid hb2
  clear hb1 hb2
  go_wp2_with fail
  go_loopw [3] (fun i wr => ∃ j : Nat, j ≤ 32 ∧ i = .int .i64 j ∧ Blk wr w.heap.size 36 zeroE ∧ Blk wr (w.heap.size + 1) 36 (effC 8 j) ∧ Below w.heap.size w wr) (fun i _ => 32 - (intOf i).toNat)
  case atStart => exact ⟨0, by omega, rfl, HB1.out, by rw [effC_zero]; exact HB2.out, hbel1⟩
  case round =>
    clear HB1 HB2 hbel1
    obtain ⟨j, hj, rfl, hb1, hb2, hbel⟩ := hrel
    by_cases hlt : j < 32
    · have hlt2 : (j : Int) < 32 := by omega
      have hj0 : (0 : Int) ≤ (j : Int) := by omega
      have c1 := hb2.cellAt j (by rw [length_effC _ _ hj]; exact hlt)
      have f1 := hb2.frozen j
      generalize (effC 8 j)[j]'(by rw [length_effC _ _ hj]; exact hlt) = old at *
      have HB1 := Lib.hid hb1
      have HB2 := Lib.hid hb2
      clear hb1 hb2
      go_wp2_with fail
      rw [bunit j]
      refine (shift_c _ _).mono ?_
      rintro e w' ⟨rfl, rfl⟩
      have HS := Lib.hid (effC_set 8 j hlt)
      generalize stepsW 8 (unitW j) = y at *
      go_wp2
      go_roundw
      case rel =>
        refine ⟨j + 1, by omega, by go_num, ?_, ?_, ?_⟩
        · exact HB1.out.far (by simp) _
        · rw [← HS.out]
          exact HB2.out.set_ _ _
        · exact hbel.setCell (by simp) _
      case measure => simp [intOf]; omega
    · obtain rfl : j = 32 := by omega
      rw [effC_all] at hb2
      have HB1 := Lib.hid hb1
      have HB2 := Lib.hid hb2
      clear hb1 hb2
      go_upto_region 7 with (fail)
      refine wp_region_lit ?_
      refine wpList_load_at rfl 36 (.tmp 1) rfl ⟨w.heap.size + 1, 0, none⟩ rfl _ _ HB2.out.all Try.underlying36 rfl (by rw [length_w32s, length_effW]; kernel_rfl) ?_
      refine wpList_store_at rfl rfl 36 (.tmp 0) (.tmp 12) rfl w.heap.size 0 rfl _ rfl _ _ HB1.out ?_ ?_ (by rw [length_w32s, length_effW]; kernel_rfl) ?_
      · rw [length_w32s, length_effW, length_zeroE]; decide
      · exact ints_oneCell _ _
      intro w7 hb7 hg7
      rw [splice_all _ _ (by rw [length_w32s, length_effW, length_zeroE])] at hb7
      have hbel7 := below_of_only hbel hg7 hbel.size (Nat.le_refl _)
      refine wpList_nil ?_
      go_wp2
      refine bodyPost_ret (v := .agg (w32s (effW 8)).toArray) ?_ rfl ⟨rfl, hbel7⟩
      exact results_cell_row rfl _ _ w.heap.size _ _ _ _ rfl hb7 Try.underlying36 rfl (by rw [List.size_toArray, length_w32s, length_effW]; kernel_rfl)
end Go.Proofs.Ytnfjghihjpdpiaa
