/- The walks of the statement ShaPads: the padding behind any number of bytes, and the words that a digest starts with, are what the reference says. Conditions: the number fits an int; the table of the rounds' constants lies as the program lays it. -/
import Derived.Test.YtgjolpapcbmjaaaDoorAwake2
import Derived.Test.YtgjolpapcbmjaaaDoorShaR2
namespace Go.Proofs.YtgjolpapcbmjaaaDoor.shaPads
open Go.ChangeShapes Go.WideShapes Go.RowKit
set_option maxHeartbeats 800000 in
theorem walk_big (n : Int) (w : World) (kt : KT w) (hn : 2147483647 < n) :
    Calls Tryd.prog 4 #[.int .i64 n] w fun e w' => e = .returned (.bool true) ∧ Below w.heap.size w w' := by
  go_enter Tryd.func4, Tryd.ntmps4
  go_wp2_with fail
  refine (awake2_c _ kt).mono ?_
  rintro e w1 ⟨rfl, hb⟩
  go_wp2
  go_ret
  exact ⟨rfl, hb⟩
theorem refPad_i (m : Int) (N L : Nat) (w : World) (hm : m = (N : Int)) (h1 : N ≤ 1099511627776) (hL : Hid (L = 9 + (119 - N % 64) % 64)) :
    Calls Tryd.prog 14 #[.int .i64 m] w (RowPost w 5 L (ints .u8 (padN N))) := by
  subst hm; exact refPad_c N L w h1 hL
set_option maxHeartbeats 1600000 in
theorem walk_small (n : Int) (w : World) (kt : KT w) (h0 : -9223372036854775808 ≤ n) (hn : n ≤ 2147483647) :
    Calls Tryd.prog 4 #[.int .i64 n] w fun e w' => e = .returned (.bool true) ∧ Below w.heap.size w w' := by
  obtain ⟨N, hN⟩ : ∃ N, Hid (N = n.toNat) := ⟨_, rfl⟩
  have hNb : N ≤ 2147483647 := by have := hN.out; omega
  obtain ⟨L, hL⟩ : ∃ L, Hid (L = 9 + (119 - N % 64) % 64) := ⟨_, rfl⟩
  go_enter Tryd.func4, Tryd.ntmps4
  go_wp2_with fail
  refine (awake2_c _ kt).mono ?_
  rintro e w1 ⟨rfl, hb1⟩
  clear kt
  go_wp2_with fail
  refine (first_c _).mono ?_
  rintro e w2 ⟨rfl, hb2⟩
  have hbw2 := hb1.trans (hb2.mono hb1.size)
  clear hb1 hb2
  go_upto_region 6 with ((with_reducible refine at_store 23 ?_); refine wpList_store_at rfl rfl 23 (.tmp 3) (.tmp 9) rfl w2.heap.size 0 rfl (u32s firstW) rfl zero8 _ (Blk.new _ _ zero8) (by rw [length_u32s, length_firstW, length_zero8]; decide) (ints_oneCell _ _) (by rw [length_u32s, length_firstW]; kernel_rfl) ?_; intro w3 hb3 hg3)
  rw [splice_all _ _ (by rw [length_u32s, length_firstW, length_zero8])] at hb3
  have hbw3 := below_of_only (hbw2.alloc hbw2.size _) hg3 (by simp; have := hbw2.size; omega) hbw2.size
  have hgs : w.heap.size ≤ w2.heap.size := hbw2.size
  generalize w2.heap.size = g2 at *
  have HB3 := Lib.hid hb3
  clear hb3 hg3 hbw2
  go_wp2_with fail
  go_loopw [4] (fun i wr => ∃ j : Nat, j ≤ 8 ∧ i = .int .i64 j ∧ Blk wr g2 23 (u32s firstW) ∧ Below w.heap.size w wr) (fun i _ => 8 - (intOf i).toNat)
  case atStart => exact ⟨0, Nat.zero_le _, rfl, HB3.out, hbw3⟩
  case round =>
    clear HB3 hbw3
    obtain ⟨j, hj, rfl, hb, hbel⟩ := hrel
    by_cases hlt : j < 8
    · have c1 := (hb.cell j).trans (u32s_at firstW j (by rw [length_firstW]; exact hlt))
      have hfj : ∀ W' : World, Blk W' wr.drew.heap.size 22 (u32s firstW) → Below wr.drew.heap.size wr.drew W' → W'.cell? ⟨wr.heap.size, j, none⟩ = some (.int .u32 ((firstW.getD j 0).toNat : Int)) ∧ W'.cell? ⟨g2, j, none⟩ = some (.int .u32 ((firstW.getD j 0).toNat : Int)) ∧ Blk W' g2 23 (u32s firstW) ∧ Below w.heap.size w W' := by
        intro W' hB hBel
        have h2 := hb.drew.below hBel hb.lt
        exact ⟨(hB.cell j).trans (u32s_at firstW j (by rw [length_firstW]; exact hlt)), (h2.cell j).trans (u32s_at firstW j (by rw [length_firstW]; exact hlt)), h2, hbel.drew.trans (hBel.mono hbel.size)⟩
      generalize firstW.getD j 0 = x at *
      have HFJ := Lib.hid hfj
      have HB := Lib.hid hb
      clear hfj hb
      have hlt2 : (j : Int) < 8 := by omega
      go_upto_region 9 with (fail)
      go_region_with ((go_at_call 11; refine (refFirst_c _).mono ?_; rintro e w5 ⟨rfl, hb5, hbel5⟩; obtain ⟨d1, d2, d3, d4⟩ := HFJ.out _ hb5 hbel5; clear hb5 hbel5))
      all_goals
        go_wp2
        go_roundw
        case rel => exact ⟨j + 1, by omega, by go_num, d3, d4⟩
        case measure => simp [intOf]; omega
    · clear hb
      go_wp2_with fail
      refine (pad_c n N L _ h0 (by omega) hN hL).mono ?_
      rintro e w5 ⟨rfl, hown5, hbel5⟩
      obtain ⟨A5, c5, e5, hr5⟩ := Reads.of_own hown5 (fun x hx => wf_u8.2 (padN_lt _ x hx))
      cases e5
      have hbw5 := hbel.trans (hbel5.mono hbel.size)
      generalize wr.heap.size = g5 at *
      have HR5 := Lib.hid hr5
      clear hown5 hbel5 hbel hr5
      go_wp2_with fail
      all_goals
        refine (refPad_i _ N L _ (by have := hN.out; omega) (by omega) hL).mono ?_
        rintro e w6 ⟨v6, rfl, hm6⟩
        obtain ⟨A6, c6, rfl, hr6⟩ := Reads.of_own hm6.1 (fun x hx => wf_u8.2 (padN_lt _ x hx))
        have hr56 := HR5.out.keep hm6.2
        have hbw6 := hbw5.trans (hm6.2.mono hbw5.size)
        have HR6 := Lib.hid hr6
        have HR56 := Lib.hid hr56
        clear hm6 hr6 hr56 HR5 hbw5
        go_wp2_with fail
        refine (same_c _ _ _ _ _ _ (padN N) (padN N) _ HR56.out HR6.out).mono ?_
        rintro e w7 ⟨rfl, k7, rfl⟩
        rw [decide_eq_true (rfl : padN N = padN N)]
        go_wp2
        go_ret
        exact ⟨rfl, belowDrewN hbw6 _⟩
theorem walk (n : Int) (w : World) (hn : (Lit.int .i64 n).wf = true) (kt : KT w) :
    Calls Tryd.prog 4 #[.int .i64 n] w fun e w' => e = .returned (.bool true) ∧ Below w.heap.size w w' := by
  by_cases hbig : 2147483647 < n
  · exact walk_big n w kt hbig
  · exact walk_small n w kt (range_i64 n hn).1 (by omega)
end Go.Proofs.YtgjolpapcbmjaaaDoor.shaPads
