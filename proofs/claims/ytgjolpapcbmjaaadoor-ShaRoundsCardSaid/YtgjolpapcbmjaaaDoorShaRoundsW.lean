/- The walks of the statement ShaRounds: what any eight words become by any block is what the reference says; blocks of other lengths are refused and the words stay. Conditions: the words are eight, the block reads as bytes; the table of the rounds' constants lies as the program lays it. -/
import Derived.Test.YtgjolpapcbmjaaaDoorAwake2
import Derived.Test.YtgjolpapcbmjaaaDoorShaR2
import Derived.Test.YtgjolpapcbmjaaaDoorShaEq
namespace Go.Proofs.YtgjolpapcbmjaaaDoor.shaRounds
open Go.ChangeShapes Go.WideShapes Go.RowKit
set_option maxHeartbeats 1600000 in
theorem walk_no (h : List (BitVec 32)) (A : Option Addr) (n c : Nat) (w : World) (hh : h.length = 8) (kt : KT w) (hn : n ≠ 64) :
    Calls Tryd.prog 3 #[.agg (u32s h).toArray, .slice A n c] w fun e w' => e = .returned (.bool true) ∧ Below w.heap.size w w' := by
  have hne : ((n : Int) != 64) = true := by rw [bne_iff_ne]; omega
  have HH := Lib.hid hh
  have HN := Lib.hid hn
  clear hh hn
  go_enter Tryd.func3, Tryd.ntmps3
  go_wp2_with fail
  refine name_Calls (fun w1 => Blk w1 w.heap.size 23 (u32s h) ∧ Below w.heap.size w w1 ∧ KT w1) ⟨Blk.new _ _ _, (Below.refl _ _).alloc (Nat.le_refl _) _, kt.below ((Below.refl _ _).alloc (Nat.le_refl _) _)⟩ ?_
  rintro w1 ⟨hb1, hbel1, kt1⟩
  refine (awake2_c _ kt1).mono ?_
  rintro e w2 ⟨rfl, hbel2⟩
  have HB2 := Lib.hid (hb1.below hbel2 hb1.lt)
  have hbw2 := hbel1.trans (hbel2.mono hbel1.size)
  clear hb1 hbel1 hbel2 kt1 kt
  go_wp2_with ((with_reducible refine at_load 23 ?_); refine wpList_load_at rfl 23 (.tmp 2) rfl ⟨w.heap.size, 0, none⟩ rfl _ _ HB2.out.all Tryd.underlying23 rfl (by rw [length_u32s, HH.out]; kernel_rfl) ?_)
  refine (rounds_size h A n c _ HH.out HN.out).mono ?_
  rintro e w3 ⟨rfl, hbel3⟩
  have HB3 := Lib.hid (HB2.out.below hbel3 HB2.out.lt)
  have hbw3 := hbw2.trans (hbel3.mono hbw2.size)
  clear HB2 hbel3 hbw2
  go_upto_region 4 with ((with_reducible refine at_store 23 ?_); refine wpList_store_at rfl rfl 23 (.tmp 5) (.tmp 15) rfl w3.heap.size 0 rfl (u32s h) rfl zero8 _ (Blk.new _ _ zero8) (by rw [length_u32s, HH.out, length_zero8]; decide) (ints_oneCell _ _) (by rw [length_u32s, HH.out]; kernel_rfl) ?_; intro w4 hb4 hg4)
  rw [splice_all _ _ (by rw [length_u32s, HH.out, length_zero8])] at hb4
  have hbw4 := below_of_only (hbw3.alloc hbw3.size _) hg4 (by simp; have := hbw3.size; omega) hbw3.size
  have hne3 : w.heap.size < w3.heap.size := HB3.out.lt
  have HB5 := Lib.hid ((HB3.out.alloc _).grown hg4 (by simp; omega))
  generalize w3.heap.size = g3 at *
  have HB4 := Lib.hid hb4
  clear hb4 hg4 HB3 hbw3
  go_upto_region 5 with (fail)
  refine wp_region_lit ?_
  refine wpList_load_at rfl 23 (.tmp 5) rfl ⟨g3, 0, none⟩ rfl _ _ HB4.out.all Tryd.underlying23 rfl (by rw [length_u32s, HH.out]; kernel_rfl) ?_
  refine wpList_load_at rfl 23 (.tmp 2) rfl ⟨w.heap.size, 0, none⟩ rfl _ _ HB5.out.all Tryd.underlying23 rfl (by rw [length_u32s, HH.out]; kernel_rfl) ?_
  have heq : ∀ W : World, (Op.equalIn 10000 23 (.agg (u32s h).toArray) (.agg (u32s h).toArray)).run Tryd.prog W = .ok true W := by
    obtain ⟨i0, hi, _⟩ := info_parts infoU32
    exact fun W => run_eq_ints W 9998 Tryd.underlying23 hi (by kernel_rfl) Tryd.underlying22 _ (by rw [List.length_map, HH.out])
  have HEQ := Lib.hid heq
  clear heq
  go_wp2
  rw [HEQ.out]
  go_simp
  go_wp2
  go_ret
  exact ⟨rfl, hbw4⟩
set_option maxHeartbeats 1600000 in
theorem walk_yes (h : List (BitVec 32)) (A : Option Addr) (c : Nat) (l : List Nat) (w : World) (hh : h.length = 8) (kt : KT w) (hr : Reads .u8 w A 64 c l) :
    Calls Tryd.prog 3 #[.agg (u32s h).toArray, .slice A 64 c] w fun e w' => e = .returned (.bool true) ∧ Below w.heap.size w w' := by
  have HH := Lib.hid hh
  have HL8 : Hid ((roundsW h l).length = 8) := by show _ = _; rw [length_roundsW, hh]
  clear hh
  go_enter Tryd.func3, Tryd.ntmps3
  go_wp2_with fail
  refine name_Calls (fun w1 => Blk w1 w.heap.size 23 (u32s h) ∧ Below w.heap.size w w1 ∧ KT w1) ⟨Blk.new _ _ _, (Below.refl _ _).alloc (Nat.le_refl _) _, kt.below ((Below.refl _ _).alloc (Nat.le_refl _) _)⟩ ?_
  rintro w1 ⟨hb1, hbel1, kt1⟩
  refine (awake2_c _ kt1).mono ?_
  rintro e w2 ⟨rfl, hbel2⟩
  have HB2 := Lib.hid (hb1.below hbel2 hb1.lt)
  have hbw2 := hbel1.trans (hbel2.mono hbel1.size)
  have kt2 := kt1.below hbel2
  have HR2 := Lib.hid (hr.keep hbw2)
  clear hb1 hbel1 hbel2 kt1 kt hr
  go_wp2_with ((with_reducible refine at_load 23 ?_); refine wpList_load_at rfl 23 (.tmp 2) rfl ⟨w.heap.size, 0, none⟩ rfl _ _ HB2.out.all Tryd.underlying23 rfl (by rw [length_u32s, HH.out]; kernel_rfl) ?_)
  refine (rounds_ok h A c l _ HH.out HR2.out kt2).mono ?_
  rintro e w3 ⟨rfl, hbel3⟩
  have HB3 := Lib.hid (HB2.out.below hbel3 HB2.out.lt)
  have HR3 := Lib.hid (HR2.out.keep hbel3)
  have hbw3 := hbw2.trans (hbel3.mono hbw2.size)
  clear HB2 hbel3 hbw2 kt2 HR2
  go_upto_region 4 with ((with_reducible refine at_store 23 ?_); refine wpList_store_at rfl rfl 23 (.tmp 5) (.tmp 15) rfl w3.heap.size 0 rfl (u32s (roundsW h l)) rfl zero8 _ (Blk.new _ _ zero8) (by rw [length_u32s, HL8.out, length_zero8]; decide) (ints_oneCell _ _) (by rw [length_u32s, HL8.out]; kernel_rfl) ?_; intro w4 hb4 hg4)
  rw [splice_all _ _ (by rw [length_u32s, HL8.out, length_zero8])] at hb4
  have hb34 := below_of_only ((Below.refl w3.heap.size w3).alloc (Nat.le_refl _) _) hg4 (by simp) (Nat.le_refl _)
  have hbw4 := hbw3.trans (hb34.mono hbw3.size)
  have HB5 := Lib.hid (HB3.out.below hb34 HB3.out.lt)
  have HR4 := Lib.hid (HR3.out.keep hb34)
  generalize w3.heap.size = g3 at *
  have HB4 := Lib.hid hb4
  clear hb4 hg4 HB3 hbw3 hb34 HR3
  go_wp2_with fail
  refine (refRounds_c h _ _ _ _ l _ (reads_u32 HB5.out HH.out (by decide)) HR4.out).mono ?_
  rintro e w5 ⟨v5, rfl, hm5⟩
  obtain ⟨g5, c5, rfl, _, _⟩ := mine_pos hm5 (by decide)
  have HB6 := Lib.hid (HB4.out.below hm5.2 HB4.out.lt)
  have hbw5 := hbw4.trans (hm5.2.mono hbw4.size)
  have HM5 := Lib.hid hm5
  clear hm5 HB4 HB5 HR4 hbw4
  go_wp2_with fail
  go_loopw [8] (fun i wr => ∃ j q : Nat, j ≤ 8 ∧ i = .int .i64 j ∧ wr = w5.drewN q) (fun i _ => 8 - (intOf i).toNat)
  case atStart => exact ⟨0, 0, Nat.zero_le _, rfl, rfl⟩
  case round =>
    obtain ⟨j, q, hj, rfl, hwr⟩ := hrel
    by_cases hlt : j < 8
    · have c1 := (HB6.out.cell j).trans (u32s_at _ j (by rw [HL8.out]; exact hlt))
      have c2 := mine_cell HM5.out j (by rw [HL8.out]; exact hlt)
      generalize (roundsW h l).getD j 0 = x at *
      have d1 : wr.cell? ⟨g3, j, none⟩ = some (.int .u32 (x.toNat : Int)) := by rw [hwr]; exact c1
      have d2 : wr.cell? ⟨g5, j, none⟩ = some (.int .u32 (x.toNat : Int)) := by rw [hwr]; exact c2
      have HWR := Lib.hid hwr
      clear hwr c1 c2
      have hlt2 : (j : Int) < 8 := by omega
      have hj0 : 0 ≤ (j : Int) := by omega
      go_upto_region 10 with (fail)
      go_quiet (fail)
      go_wp2
      go_roundw
      case rel => exact ⟨j + 1, q + nq, by omega, by go_num, by rw [HWR.out, World.drewN_drewN]⟩
      case measure => simp [intOf]; omega
    · have hbw : Below w.heap.size w wr := by rw [hwr]; exact belowDrewN hbw5 _
      clear hwr
      go_wp2
      go_ret
      exact ⟨rfl, hbw⟩
theorem walk (l : List Nat) (a : Option Addr) (len cap : Nat) (b : List Nat) (w : World) (hl : l.length = 8) (hw : ∀ x ∈ l, (Lit.int .u32 (x : Int)).wf = true) (hr : Reads .u8 w a len cap b) (kt : KT w) :
    Calls Tryd.prog 3 #[.agg (ints .u32 l).toArray, .slice a len cap] w fun e w' => e = .returned (.bool true) ∧ Below w.heap.size w w' := by
  have e : ints .u32 l = u32s (l.map (BitVec.ofNat 32)) := by
    rw [u32s, List.map_map]
    congr 1
    refine (List.map_id' _).symm.trans (List.map_congr_left fun x hx => ?_)
    have := wf_u32.1 (hw x hx)
    simp [Nat.mod_eq_of_lt this]
  rw [e]
  by_cases hn : len = 64
  · subst hn
    exact walk_yes _ a cap b w (by rw [List.length_map, hl]) kt hr
  · exact walk_no _ a len cap w (by rw [List.length_map, hl]) kt hn
end Go.Proofs.YtgjolpapcbmjaaaDoor.shaRounds
