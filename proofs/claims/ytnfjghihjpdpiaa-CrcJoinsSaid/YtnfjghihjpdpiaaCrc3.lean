/- What the functions twice, afterZeros, Zeros and Join of package crc return, as a walk through the translated text. Conditions: fewer than 65536 zero bytes. -/
import Derived.Test.YtnfjghihjpdpiaaCrc2
namespace Go.Proofs.Ytnfjghihjpdpiaa
open Go.ChangeShapes Go.WideShapes Go.RowKit

theorem ofE_unit (k j : Nat) (h : j < 32) : ofE (effW k) ((effW k).getD j 0#32) 32 = stepsW (k + k) (unitW j) := by
  rw [ofE_all, effW_get k j h, stepsW_add]
set_option maxRecDepth 100000 in
set_option maxHeartbeats 1600000 in
theorem twice_c (k : Nat) (w : World) :
    Calls Try.prog 17 #[.agg (w32s (effW k)).toArray] w fun e w' => e = .returned (.agg (w32s (effW (k + k))).toArray) ∧ Below w.heap.size w w' := by
  have HL := Lib.hid (length_effW k)
  obtain ⟨E, hE⟩ : ∃ E, Hid (effW k = E) := ⟨_, rfl⟩
  rw [hE.out] at HL ⊢
  go_enter Try.func17, Try.ntmps17
  go_upto_region 2 with (fail)
  refine name_wp (fun w1 => Blk w1 w.heap.size 36 (w32s E) ∧ Blk w1 (w.heap.size + 1) 36 zeroE ∧ Blk w1 (w.heap.size + 1 + 1) 36 zeroE ∧ Below w.heap.size w w1) ⟨((Blk.new _ _ (w32s E)).alloc _).alloc _, ?_, ?_, (((Below.refl _ _).alloc (Nat.le_refl _) _).alloc (by simp) _).alloc (by simp; omega) _⟩ ?_
  · have := Blk.new (w.alloc (.cells (w32s E).toArray 36)) 36 zeroE
    rw [World.size_alloc] at this
    exact this.alloc _
  · have := Blk.new ((w.alloc (.cells (w32s E).toArray 36)).alloc (.cells zeroE.toArray 36)) 36 zeroE
    rw [World.size_alloc, World.size_alloc] at this
    exact this
  rintro w1 ⟨hb1, hb2, hb3, hbel1⟩
  have HB1 := Lib.hid hb1
  have HB2 := Lib.hid hb2
  have HB3 := Lib.hid hb3
  clear hb1 hb2 hb3
  go_wp2_with fail
  go_loopw [5] (fun i wr => ∃ j : Nat, j ≤ 32 ∧ i = .int .i64 j ∧ Blk wr w.heap.size 36 (w32s E) ∧ Blk wr (w.heap.size + 1) 36 zeroE ∧ Blk wr (w.heap.size + 1 + 1) 36 (effC (k + k) j) ∧ Below w.heap.size w wr) (fun i _ => 32 - (intOf i).toNat)
  case atStart => exact ⟨0, by omega, rfl, HB1.out, HB2.out, by rw [effC_zero]; exact HB3.out, hbel1⟩
  case round =>
    clear HB1 HB2 HB3 hbel1
    obtain ⟨j, hj, rfl, hb1, hb2, hb3, hbel⟩ := hrel
    by_cases hlt : j < 32
    · have hlt2 : (j : Int) < 32 := by omega
      have hj0 : (0 : Int) ≤ (j : Int) := by omega
      have HS := Lib.hid (effC_set (k + k) j hlt)
      have HO : Hid (ofE E (E.getD j 0#32) 32 = stepsW (k + k) (unitW j)) := by show _ = _; rw [← hE.out, ofE_unit k j hlt]
      have HJ : Hid ((w32s E)[j]? = some (.int .u32 ((E.getD j 0#32).toNat : Int))) := w32s_at E j (by rw [HL.out]; exact hlt)
      have HD : Hid (j < (effC (k + k) j).length) := by show _ < _; rw [length_effC _ _ hj]; exact hlt
      generalize stepsW (k + k) (unitW j) = y at *
      generalize E.getD j 0#32 = x at *
      have HB1 := Lib.hid hb1
      have HB2 := Lib.hid hb2
      have HB3 := Lib.hid hb3
      clear hb1 hb2 hb3
      go_upto_region 5 with (fail)
      refine wp_region_held_drew (S := fun W => Blk W w.heap.size 36 (w32s E)) (by kernel_rfl) HB1.out.drew (fun hS => ?_)
      refine wpAnyH_take (i := 0) (oi := ⟨some 8, .move (.tmp 4), _, _, _, _⟩) (v := .int .i64 (j : Int)) rfl (by kernel_rfl) (by kernel_rfl) (by kernel_rfl) (fun _ _ _ h => h) (Or.inl ⟨by rfl, by intro W hSw; clear hSw; go_simp⟩) hS ?_
      simp only [Act.put, List.setIfInBounds_toArray, List.set_cons_zero, List.set_cons_succ]
      refine wpAnyH_take (i := 1) (oi := ⟨some 9, .load 36 (.tmp 1), _, _, _, _⟩) (v := .agg (w32s E).toArray) rfl (by kernel_rfl) (by kernel_rfl) (by kernel_rfl) (fun _ _ _ h => h) (yieldsIf_load_at rfl 36 (.tmp 1) rfl ⟨w.heap.size, 0, none⟩ rfl _ _ (fun W hW => Blk.all hW) Try.underlying36 rfl (by rw [length_w32s, HL.out]; kernel_rfl)) hS ?_
      simp only [Act.put, List.setIfInBounds_toArray, List.set_cons_zero, List.set_cons_succ]
      refine wpAnyH_take (i := 2) (oi := ⟨some 10, .move (.tmp 4), _, _, _, _⟩) (v := .int .i64 (j : Int)) rfl (by kernel_rfl) (by kernel_rfl) (by kernel_rfl) (fun _ _ _ h => h) (Or.inl ⟨by rfl, by intro W hSw; clear hSw; go_simp⟩) hS ?_
      simp only [Act.put, List.setIfInBounds_toArray, List.set_cons_zero, List.set_cons_succ]
      refine wpAnyH_take (i := 3) (oi := ⟨some 11, .indexAddr 36 (.tmp 1) (.tmp 10), _, _, _, _⟩) (v := .pointer (some ⟨w.heap.size, j, none⟩)) rfl (by kernel_rfl) (by kernel_rfl) (by kernel_rfl) (fun _ _ _ h => h) (Or.inl ⟨by rfl, by intro W hSw; clear hSw; go_simp⟩) hS ?_
      simp only [Act.put, List.setIfInBounds_toArray, List.set_cons_zero, List.set_cons_succ]
      refine wpAnyH_take (i := 4) (oi := ⟨some 12, .load 22 (.tmp 11), _, _, _, _⟩) (v := .int .u32 (x.toNat : Int)) rfl (by kernel_rfl) (by kernel_rfl) (by kernel_rfl) (fun _ _ _ h => h) (Or.inl ⟨by rfl, by intro W hSw; have cc := (Blk.cell hSw j).trans HJ.out; clear hSw; go_simp⟩) hS ?_
      simp only [Act.put, List.setIfInBounds_toArray, List.set_cons_zero, List.set_cons_succ]
      refine wpAnyH_ready (rs := [5]) (by kernel_rfl) (by simp) (AllReadyH.cons (o := ⟨some 13, .call { callee := .value (.func 16), args := #[.tmp 9, .tmp 12], argTypes := #[36, 22] }, _, _, _, _⟩) rfl (fun K hK => ?_) AllReadyH.nil)
      go_simp
      refine (of_c E x _ HL.out).mono ?_
      rw [HO.out]
      rintro en w2 ⟨rfl, hb⟩
      have hbel2 : Below w.heap.size w w2 := hbel.drew.trans (hb.mono hbel.drew.size)
      have HB1' := Lib.hid (HB1.out.drew.below hb HB1.out.drew.lt)
      have HB2' := Lib.hid (HB2.out.drew.below hb HB2.out.drew.lt)
      have hb3 := HB3.out.drew.below hb HB3.out.drew.lt
      refine hK.out _ _ HB1'.out (fun hS2 => ?_)
      clear hK K hS hb HB1 HB2 HB3
      have c1 := hb3.cellAt j HD.out
      have f1 := hb3.frozen j
      generalize (effC (k + k) j)[j]'HD.out = old at c1
      have HB3' := Lib.hid hb3
      clear hb3
      refine wpAnyH_take (i := 6) (oi := ⟨some 14, .indexAddr 36 (.tmp 3) (.tmp 8), _, _, _, _⟩) (v := .pointer (some ⟨w.heap.size + 1 + 1, j, none⟩)) rfl (by kernel_rfl) (by kernel_rfl) (by kernel_rfl) (fun _ _ _ h => h) (Or.inl ⟨by rfl, by intro W hSw; clear hSw; go_simp⟩) hS2 ?_
      simp only [Act.put, List.setIfInBounds_toArray, List.set_cons_zero, List.set_cons_succ]
      refine wpAnyH_ready (rs := [7]) (by kernel_rfl) (by simp) (AllReadyH.cons (o := ⟨none, .store 22 (.tmp 14) (.tmp 13), _, _, _, _⟩) rfl (fun K hK => ?_) AllReadyH.nil)
      go_simp
      refine hK.out _ _ (HB1'.out.far (by simp; omega) _) (fun hS3 => ?_)
      clear hK K hS2
      refine wpAnyH_done (by kernel_rfl) ?_ _
      clear hS3
      go_wp2
      go_roundw
      case rel =>
        refine ⟨j + 1, by omega, by go_num, ?_, ?_, ?_, ?_⟩
        · exact HB1'.out.far (by simp; omega) _
        · exact HB2'.out.far (by simp) _
        · rw [← HS.out]
          exact HB3'.out.set_ _ _
        · exact hbel2.setCell (by simp; omega) _
      case measure => simp [intOf]; omega
    · obtain rfl : j = 32 := by omega
      rw [effC_all] at hb3
      have HB1 := Lib.hid hb2
      have HB2 := Lib.hid hb3
      clear hb1 hb2 hb3
      go_upto_region 7 with (fail)
      refine wp_region_lit ?_
      refine wpList_load_at rfl 36 (.tmp 3) rfl ⟨w.heap.size + 1 + 1, 0, none⟩ rfl _ _ HB2.out.all Try.underlying36 rfl (by rw [length_w32s, length_effW]; kernel_rfl) ?_
      refine wpList_store_at rfl rfl 36 (.tmp 2) (.tmp 16) rfl (w.heap.size + 1) 0 rfl _ rfl _ _ HB1.out ?_ ?_ (by rw [length_w32s, length_effW]; kernel_rfl) ?_
      · rw [length_w32s, length_effW, length_zeroE]; decide
      · exact ints_oneCell _ _
      intro w7 hb7 hg7
      rw [splice_all _ _ (by rw [length_w32s, length_effW, length_zeroE])] at hb7
      have hbel7 := below_of_only hbel hg7 hbel.size (by omega)
      refine wpList_nil ?_
      go_wp2
      refine bodyPost_ret (v := .agg (w32s (effW (k + k))).toArray) ?_ rfl ⟨rfl, hbel7⟩
      exact results_cell_row rfl _ _ (w.heap.size + 1) _ _ _ _ rfl hb7 Try.underlying36 rfl (by rw [List.size_toArray, length_w32s, length_effW]; kernel_rfl)

theorem band64 (N j : Nat) : bits BinOp.and IntKind.i64 ((N : Int) / 2 ^ j) 1 = ((N / 2 ^ j % 2 : Nat) : Int) := by
  have h1 : (BitVec.ofInt 64 1).toNat = 1 := by decide
  have key : (BitVec.ofInt 64 ((N : Int) / 2 ^ j) &&& BitVec.ofInt 64 1).toNat = (((N : Int) / 2 ^ j) % ((2 ^ 64 : Nat) : Int)).toNat % 2 := by
    rw [BitVec.toNat_and, BitVec.toNat_ofInt, h1, Nat.and_one_is_mod]
  show IntKind.i64.wrap ((BitVec.ofInt 64 ((N : Int) / 2 ^ j) &&& BitVec.ofInt 64 1).toNat : Nat) = _
  rw [key, IntKind.wrap_i64, show (N : Int) / 2 ^ j = ((N / 2 ^ j : Nat) : Int) from by simp]
  generalize N / 2 ^ j = m
  omega
set_option maxRecDepth 100000 in
set_option maxHeartbeats 1600000 in
theorem afterZeros_neg (c : BitVec 32) (n : Int) (w : World) (hn : n < 0) :
    Calls Try.prog 13 #[.int .u32 (c.toNat : Int), .int .i64 n] w fun e w' => e = .returned (.int .u32 (c.toNat : Int)) ∧ Below w.heap.size w w' := by
  have HL := Lib.hid (length_effW (8 * 2 ^ 0))
  go_enter Try.func13, Try.ntmps13
  go_wp2_with fail
  refine (oneZero_c w).mono ?_
  rintro e w1 ⟨rfl, hb1⟩
  rw [show effW 8 = effW (8 * 2 ^ 0) from rfl]
  generalize effW (8 * 2 ^ 0) = E at *
  go_upto_region 2 with ((with_reducible refine at_store 36 ?_); refine wpList_store_at (o := ⟨none, .store 36 (.tmp 5) (.tmp 7), _, _, _, _⟩) rfl rfl 36 (.tmp 5) (.tmp 7) rfl w1.heap.size 0 rfl _ rfl zeroE 36 (Blk.new _ _ zeroE) (by rw [length_w32s, HL.out, length_zeroE]; decide) (ints_oneCell _ _) (by rw [length_w32s, HL.out]; kernel_rfl) ?_; intro w2 hb2 hg2)
  rw [splice_all _ _ (by rw [length_w32s, HL.out, length_zeroE])] at hb2
  have hbel2 := below_of_only (hb1.alloc hb1.size _) hg2 (by simp; have := hb1.size; omega) hb1.size
  have hgs : w.heap.size ≤ w1.heap.size := hb1.size
  generalize w1.heap.size = g5 at *
  have HB2 := Lib.hid hb2
  clear hb2 hg2 hb1
  go_wp2_with fail
  refine (len_c 0 _ (by omega) (by omega)).mono ?_
  rintro e w3 ⟨rfl, rfl⟩
  rw [show Lib.bitLen (Int.toNat 0) = 0 from rfl]
  go_wp2_with fail
  go_loopw [0, 12] (fun x i wr => x = .int .u32 (c.toNat : Int) ∧ i = .int .i64 0 ∧ w2 = wr) (fun _ _ _ => 0)
  case atStart => exact ⟨rfl, rfl, by trivial⟩
  case round =>
    obtain ⟨rfl, rfl, rfl⟩ := hrel
    go_wp2
    go_ret
    exact ⟨rfl, hbel2⟩
set_option maxRecDepth 100000 in
set_option maxHeartbeats 1600000 in
theorem afterZeros_nat (c : BitVec 32) (N : Nat) (w : World) (hN : N < 65536) :
    Calls Try.prog 13 #[.int .u32 (c.toNat : Int), .int .i64 (N : Int)] w fun e w' => e = .returned (.int .u32 ((stepsW (8 * N) c).toNat : Int)) ∧ Below w.heap.size w w' := by
  obtain ⟨L, hL⟩ : ∃ L, Hid (Lib.bitLen (Int.toNat (N : Int)) = L) := ⟨_, rfl⟩
  have hL64 : L ≤ 16 := by rw [← hL.out]; exact Lib.bitLen_le _ 16 (by decide) (by simpa using hN)
  have HLT : Hid (N % 2 ^ L = N) := by
    show _ = _
    refine Nat.mod_eq_of_lt ?_
    have := lt_bitLen N (by omega)
    rw [← hL.out]
    simpa using this
  have HL := Lib.hid (length_effW (8 * 2 ^ 0))
  obtain ⟨E, hE⟩ : ∃ E, Hid (effW (8 * 2 ^ 0) = E) := ⟨_, Lib.hid rfl⟩
  rw [hE.out] at HL
  go_enter Try.func13, Try.ntmps13
  go_wp2_with fail
  refine (oneZero_c w).mono ?_
  rintro e w1 ⟨rfl, hb1⟩
  rw [show effW 8 = E from hE.out]
  go_upto_region 2 with ((with_reducible refine at_store 36 ?_); refine wpList_store_at (o := ⟨none, .store 36 (.tmp 5) (.tmp 7), _, _, _, _⟩) rfl rfl 36 (.tmp 5) (.tmp 7) rfl w1.heap.size 0 rfl _ rfl zeroE 36 (Blk.new _ _ zeroE) (by rw [length_w32s, HL.out, length_zeroE]; decide) (ints_oneCell _ _) (by rw [length_w32s, HL.out]; kernel_rfl) ?_; intro w2 hb2 hg2)
  rw [splice_all _ _ (by rw [length_w32s, HL.out, length_zeroE])] at hb2
  have hbel2 := below_of_only (hb1.alloc hb1.size _) hg2 (by simp; have := hb1.size; omega) hb1.size
  have hgs : w.heap.size ≤ w1.heap.size := hb1.size
  generalize w1.heap.size = g5 at *
  have HB2 := Lib.hid hb2
  clear hb2 hg2 hb1
  have hNz : (0 : Int) ≤ (N : Int) := by omega
  go_wp2_with fail
  refine (len_c N _ hNz (by omega)).mono ?_
  rintro e w3 ⟨rfl, rfl⟩
  rw [hL.out]
  go_wp2_with fail
  go_loopw [0, 12] (fun x i wr => ∃ j : Nat, ∃ q : BitVec 32, j ≤ L ∧ i = .int .i64 j ∧ x = .int .u32 (q.toNat : Int) ∧ Hid (stepsW (8 * (N % 2 ^ j)) c = q) ∧ Hid (Blk wr g5 36 (w32s (effW (8 * 2 ^ j)))) ∧ Below w.heap.size w wr) (fun _ i _ => L - (intOf i).toNat)
  case atStart => exact ⟨0, c, by omega, rfl, rfl, by show _ = _; rw [Nat.pow_zero, Nat.mod_one]; rfl, by rw [hE.out]; exact HB2, hbel2⟩
  case round =>
    clear HB2 hbel2
    obtain ⟨j, q, hj, rfl, rfl, hq, HB, hbel⟩ := hrel
    by_cases hlt : j < L
    · have hlt2 : (j : Int) < (L : Int) := by omega
      have hj0 : (0 : Int) ≤ (j : Int) := by omega
      have HR := Lib.hid (bits_round N j c)
      have HT := Lib.hid (bits_twice j)
      obtain ⟨k, hk⟩ : ∃ k, Hid (8 * 2 ^ j = k) := ⟨_, Lib.hid rfl⟩
      rw [hk.out] at HB HT HR
      rw [hq.out] at HR
      have HL := Lib.hid (length_effW k)
      by_cases hbit : N / 2 ^ j % 2 = 1
      · rw [if_pos hbit] at HR
        have h1 : bits BinOp.and IntKind.i64 ((N : Int) / 2 ^ j) 1 = 1 := by rw [band64, hbit]; rfl
        clear hbit
        go_upto_region 6 with (fail)
        refine wp_region_lit ?_
        refine wpList_load_at rfl 36 (.tmp 5) rfl ⟨g5, 0, none⟩ rfl _ _ HB.out.all Try.underlying36 rfl (by rw [length_w32s, HL.out]; kernel_rfl) ?_
        go_wp2_with fail
        refine (of_c (effW k) q _ HL.out).mono ?_
        rintro e w4 ⟨rfl, hb4⟩
        rw [ofE_all]
        have HB4 := Lib.hid (HB.out.below hb4 HB.out.lt)
        have hbel4 : Below w.heap.size w w4 := hbel.trans (hb4.mono hbel.size)
        clear hb4 HB hbel
        generalize stepsW k q = y at *
        go_upto_region 7 with (fail)
        refine wp_region_lit ?_
        refine wpList_load_at rfl 36 (.tmp 5) rfl ⟨g5, 0, none⟩ rfl _ _ HB4.out.all Try.underlying36 rfl (by rw [length_w32s, HL.out]; kernel_rfl) ?_
        go_wp2_with fail
        refine (twice_c k _).mono ?_
        rintro e w5 ⟨rfl, hb5⟩
        rw [HT.out]
        have HL2 := Lib.hid (length_effW (8 * 2 ^ (j + 1)))
        have HB5 := Lib.hid (HB4.out.below hb5 HB4.out.lt)
        have hbel5 : Below w.heap.size w w5 := hbel4.trans (hb5.mono hbel4.size)
        clear hb5
        obtain ⟨E2, hE2⟩ : ∃ E2, Hid (effW (8 * 2 ^ (j + 1)) = E2) := ⟨_, rfl⟩
        rw [hE2.out] at HL2 ⊢
        go_upto_region 8 with ((with_reducible refine at_store 36 ?_); refine wpList_store_at (o := ⟨none, .store 36 (.tmp 5) (.tmp 24), _, _, _, _⟩) rfl rfl 36 (.tmp 5) (.tmp 24) rfl g5 0 rfl _ rfl (w32s (effW k)) 36 HB5.out (by rw [length_w32s, length_w32s, HL.out, HL2.out]; decide) (ints_oneCell _ _) (by rw [length_w32s, HL2.out]; kernel_rfl) ?_; intro w6 hb6 hg6)
        rw [splice_all _ _ (by rw [length_w32s, length_w32s, HL.out, HL2.out])] at hb6
        have hbel6 := below_of_only hbel5 hg6 hbel5.size hgs
        have HB6 := Lib.hid hb6
        clear hb6 hg6 hbel5 HB5
        go_wp2
        go_roundw
        case rel => exact ⟨j + 1, _, by omega, by go_num, rfl, HR, by rw [hE2.out]; exact HB6, hbel6⟩
        case measure => simp [intOf]; omega
      · rw [if_neg hbit] at HR
        have h1 : bits BinOp.and IntKind.i64 ((N : Int) / 2 ^ j) 1 = 0 := by
          rw [band64]
          have := Nat.mod_two_eq_zero_or_one (N / 2 ^ j)
          omega
        clear hbit
        go_upto_region 7 with (fail)
        refine wp_region_lit ?_
        refine wpList_load_at rfl 36 (.tmp 5) rfl ⟨g5, 0, none⟩ rfl _ _ HB.out.all Try.underlying36 rfl (by rw [length_w32s, HL.out]; kernel_rfl) ?_
        go_wp2_with fail
        refine (twice_c k _).mono ?_
        rintro e w5 ⟨rfl, hb5⟩
        rw [HT.out]
        have HL2 := Lib.hid (length_effW (8 * 2 ^ (j + 1)))
        have HB5 := Lib.hid (HB.out.below hb5 HB.out.lt)
        have hbel5 : Below w.heap.size w w5 := hbel.trans (hb5.mono hbel.size)
        clear hb5
        obtain ⟨E2, hE2⟩ : ∃ E2, Hid (effW (8 * 2 ^ (j + 1)) = E2) := ⟨_, rfl⟩
        rw [hE2.out] at HL2 ⊢
        go_upto_region 8 with ((with_reducible refine at_store 36 ?_); refine wpList_store_at (o := ⟨none, .store 36 (.tmp 5) (.tmp 24), _, _, _, _⟩) rfl rfl 36 (.tmp 5) (.tmp 24) rfl g5 0 rfl _ rfl (w32s (effW k)) 36 HB5.out (by rw [length_w32s, length_w32s, HL.out, HL2.out]; decide) (ints_oneCell _ _) (by rw [length_w32s, HL2.out]; kernel_rfl) ?_; intro w6 hb6 hg6)
        rw [splice_all _ _ (by rw [length_w32s, length_w32s, HL.out, HL2.out])] at hb6
        have hbel6 := below_of_only hbel5 hg6 hbel5.size hgs
        have HB6 := Lib.hid hb6
        clear hb6 hg6 hbel5 HB5
        go_wp2
        go_roundw
        case rel => exact ⟨j + 1, _, by omega, by go_num, rfl, HR, by rw [hE2.out]; exact HB6, hbel6⟩
        case measure => simp [intOf]; omega
    · obtain rfl : j = L := by omega
      rw [HLT.out] at hq
      go_wp2
      go_ret
      exact ⟨by rw [hq.out]; rfl, hbel⟩

theorem afterZeros_c (c : BitVec 32) (n : Int) (w : World) (hn : n < 65536) :
    Calls Try.prog 13 #[.int .u32 (c.toNat : Int), .int .i64 n] w fun e w' => e = .returned (.int .u32 ((stepsW (8 * n.toNat) c).toNat : Int)) ∧ Below w.heap.size w w' := by
  by_cases h : n < 0
  · rw [show n.toNat = 0 from by omega]
    exact afterZeros_neg c n w h
  · obtain ⟨N, rfl⟩ : ∃ N : Nat, n = (N : Int) := ⟨n.toNat, by omega⟩
    rw [Int.toNat_natCast]
    exact afterZeros_nat c N w (by omega)
theorem zeros_c (s : BitVec 32) (n : Int) (w : World) (hn : n < 65536) :
    Calls Try.prog 11 #[.int .u32 (s.toNat : Int), .int .i64 n] w fun e w' => e = .returned (.int .u32 ((moreW s (List.replicate n.toNat 0)).toNat : Int)) ∧ Below w.heap.size w w' := by
  rw [← moreW_zeros]
  obtain ⟨ns, hns⟩ : ∃ ns, Hid (~~~s = ns) := ⟨_, rfl⟩
  rw [hns.out]
  obtain ⟨y, hy⟩ : ∃ y, Hid (stepsW (8 * n.toNat) ns = y) := ⟨_, rfl⟩
  rw [hy.out]
  go_enter Try.func11, Try.ntmps11
  go_wp2_with fail
  simp only [bnotx]
  rw [hns.out]
  refine (afterZeros_c ns n w hn).mono ?_
  rintro e w' ⟨rfl, hb⟩
  rw [hy.out]
  go_wp2
  simp only [bnotx]
  go_ret
  exact ⟨rfl, hb⟩
theorem join_c (a b : BitVec 32) (n : Int) (w : World) (hn : n < 65536) :
    Calls Try.prog 10 #[.int .u32 (a.toNat : Int), .int .u32 (b.toNat : Int), .int .i64 n] w fun e w' => e = .returned (.int .u32 ((stepsW (8 * n.toNat) a ^^^ b).toNat : Int)) ∧ Below w.heap.size w w' := by
  obtain ⟨y, hy⟩ : ∃ y, Hid (stepsW (8 * n.toNat) a = y) := ⟨_, rfl⟩
  rw [hy.out]
  go_enter Try.func10, Try.ntmps10
  go_wp2_with fail
  refine (afterZeros_c a n w hn).mono ?_
  rintro e w' ⟨rfl, hb⟩
  rw [hy.out]
  go_wp2
  simp only [bxor]
  go_ret
  exact ⟨rfl, hb⟩
end Go.Proofs.Ytnfjghihjpdpiaa
