/- The walks of the statement HmacOwn: the 64 bytes of any key are what the reference says. Conditions: the key reads as a list of bytes; the table of the rounds' constants lies as the program lays it. -/
import Derived.Test.YtbaahdhimolllaaDoorAwake3
import Derived.Test.YtbaahdhimolllaaDoorHmacR
namespace Go.Proofs.YtbaahdhimolllaaDoor.hmacOwn
open Go.ChangeShapes Go.WideShapes Go.RowKit
set_option maxHeartbeats 800000 in
theorem walk_big (A : Option Addr) (n c : Nat) (w : World) (hk : KT w) (hn : 300 < n) :
    Calls Tryd.prog 4 #[.slice A n c] w fun e w' => e = .returned (.bool true) ∧ Below w.heap.size w w' := by
  go_enter Tryd.func4, Tryd.ntmps4
  go_wp2_with fail
  refine (awake3_c _ hk).mono ?_
  rintro e w1 ⟨rfl, hb⟩
  go_wp2
  go_ret
  exact ⟨rfl, hb⟩
set_option maxHeartbeats 1600000 in
theorem walk_long (A : Option Addr) (n c : Nat) (l : List Nat) (w : World) (hk : KT w) (hn : n ≤ 300) (hr : Reads .u8 w A n c l) (h64 : 64 < n) :
    Calls Tryd.prog 4 #[.slice A n c] w fun e w' => e = .returned (.bool true) ∧ Below w.heap.size w w' := by
  have hll := hr.len
  have hlw : ∀ x ∈ l, x < 256 := fun x hx => wf_u8.1 (hr.wf x hx)
  have hkey : keyN l = digestN l := keyN_big (by omega)
  have hd300 : decide ((300 : Int) < (n : Int)) = false := by simp; omega
  have hd64 : decide ((64 : Int) < (n : Int)) = true := by simp; omega
  have HLO := Lib.hid (length_ownN l)
  have hat1 : ∀ j (h : j < (keyN l).length) (h' : j < (ownN l).length), (ownN l)[j] = (keyN l)[j] := fun j h h' => own_at_key h h'
  have hat0 : ∀ j (_ : ¬ j < (keyN l).length) (h' : j < (ownN l).length), (ownN l)[j] = 0 := fun j h h' => own_at_zero h h'
  have hkw := keyN_lt hlw
  have HOC : Hid (∀ W : World, Reads .u8 W A n c l → KT W → Calls Tryd.prog 10 #[.slice A n c] W fun en w' => en = .returned (.agg (ints .u8 (ownN l)).toArray) ∧ Below W.heap.size W w') := fun W h1 h2 => own_c A n c l W h1 h2 (by omega)
  generalize ownN l = own at *
  have HKEY := Lib.hid hkey
  have HAT1 := Lib.hid hat1
  have HAT0 := Lib.hid hat0
  have HKW := Lib.hid hkw
  have HLL := Lib.hid hll
  clear hkey hat1 hat0 hkw hll hlw
  go_enter Tryd.func4, Tryd.ntmps4
  go_wp2_with fail
  refine (awake3_c _ hk).mono ?_
  rintro e w1 ⟨rfl, hb1⟩
  have hr1 := hr.keep hb1
  have hk1 := hk.below hb1
  clear hr hk
  go_wp2_with fail
  refine (HOC.out _ hr1 hk1).mono ?_
  rintro e w2 ⟨rfl, hb2⟩
  have hr2 := hr1.keep hb2
  have hbw2 := hb1.trans (hb2.mono hb1.size)
  have hbs2 := hbw2.size
  clear hr1 hk1 hb1 hb2 HOC
  go_upto_region 6 with ((with_reducible refine at_store 31 ?_); refine wpList_store_at rfl rfl 31 (.tmp 3) (.tmp 12) rfl w2.heap.size 0 rfl (ints .u8 own) rfl zeroB64 _ (Blk.new _ _ zeroB64) (by rw [length_ints, HLO.out, length_zeroB64]; decide) (ints_oneCell _ _) (by rw [length_ints, HLO.out]; kernel_rfl) ?_; intro w3 hb3 hg3)
  rw [splice_all _ _ (by rw [length_ints, HLO.out, length_zeroB64])] at hb3
  have hb23 := below_of_only ((Below.refl w2.heap.size w2).alloc (Nat.le_refl _) _) hg3 (by simp) (Nat.le_refl _)
  have hbw3 := hbw2.trans (hb23.mono hbw2.size)
  have HR3 := Lib.hid (hr2.keep hb23)
  generalize w2.heap.size = g3 at *
  have HB3 := Lib.hid hb3
  clear hb3 hg3 hb23 hbw2 hr2
  go_wp2_with fail
  refine (refSum_c _ _ _ l _ HR3.out (by omega)).mono ?_
  rintro e w5 ⟨v5, rfl, hm5⟩
  rw [← HKEY.out] at hm5
  obtain ⟨A5, c5, rfl, hr5⟩ := Reads.of_own hm5.1 (fun x hx => wf_u8.2 (HKW.out x hx))
  have HB5 := Lib.hid (HB3.out.below hm5.2 HB3.out.lt)
  have hbw5 := hbw3.trans (hm5.2.mono hbw3.size)
  have HR5 := Lib.hid hr5
  clear hm5 hr5 HB3 HR3 hbw3
  generalize keyN l = kk at *
  go_wp2_with fail
  go_loopw [5] (fun i wr => ∃ j q : Nat, j ≤ 64 ∧ i = .int .i64 j ∧ wr = w5.drewN q) (fun i _ => 64 - (intOf i).toNat)
  case atStart => exact ⟨0, 0, Nat.zero_le _, rfl, rfl⟩
  case round =>
    obtain ⟨j, q, hj, rfl, hwr⟩ := hrel
    by_cases hlt : j < 64
    · have hjo : j < own.length := by rw [HLO.out]; exact hlt
      have c1 : w5.cell? ⟨g3, j, none⟩ = some (.int .u8 (own[j] : Int)) := (HB5.out.cell j).trans (by simp [ints, hjo])
      have d1 : wr.cell? ⟨g3, j, none⟩ = some (.int .u8 (own[j] : Int)) := by rw [hwr]; exact c1
      have hlt2 : (j : Int) < 64 := by omega
      have hj0 : 0 ≤ (j : Int) := by omega
      by_cases hin : j < 32
      · have hjk : j < kk.length := by rw [HR5.out.len]; exact hin
        obtain ⟨ad, e0, hadlt, hcel⟩ := HR5.out.cell j hjk
        rw [← HAT1.out j hjk hjo] at hcel
        have d2 : wr.cell? (ad.add j) = some (.int .u8 (own[j] : Int)) := by rw [hwr]; exact hcel
        subst e0
        generalize own[j] = x at *
        have hin2 : decide ((j : Int) < (32 : Int)) = true := by simp; omega
        have hin3 : (j : Int) < (32 : Int) := by omega
        have hge : decide ((32 : Int) ≤ (j : Int)) = false := by simp; omega
        have hgn : decide ((32 : Nat) ≤ j) = false := by simp; omega
        have hne : ((x : Int) != (x : Int)) = false := by simp
        have HWR := Lib.hid hwr
        clear hwr c1 hcel
        go_upto_region 11 with (fail)
        go_quiet (fail)
        go_wp2
        go_roundw
        case rel => exact ⟨j + 1, q + nq, by omega, by go_num, by rw [HWR.out, World.drewN_drewN]⟩
        case measure => simp [intOf]; omega
      · have hjk : ¬ j < kk.length := by rw [HR5.out.len]; exact hin
        rw [HAT0.out j hjk hjo] at d1
        have hin2 : decide ((j : Int) < (32 : Int)) = false := by simp; omega
        have hge : decide ((32 : Int) ≤ (j : Int)) = true := by simp; omega
        have hgn : decide ((32 : Nat) ≤ j) = true := by simp; omega
        have hin4 : decide (j < (32 : Nat)) = false := by simp; omega
        have HWR := Lib.hid hwr
        clear hwr c1
        go_upto_region 11 with (fail)
        go_quiet (fail)
        go_wp2
        go_roundw
        case rel => exact ⟨j + 1, q + nq, by omega, by go_num, by rw [HWR.out, World.drewN_drewN]⟩
        case measure => simp [intOf]; omega
    · have hbw : Below w.heap.size w wr := by rw [hwr]; exact belowDrewN hbw5 _
      clear hwr
      go_wp2
      go_ret
      exact ⟨rfl, hbw⟩
set_option maxHeartbeats 1600000 in
theorem walk_short (A : Option Addr) (n c : Nat) (l : List Nat) (w : World) (hk : KT w) (hn : n ≤ 300) (hr : Reads .u8 w A n c l) (h64 : n ≤ 64) :
    Calls Tryd.prog 4 #[.slice A n c] w fun e w' => e = .returned (.bool true) ∧ Below w.heap.size w w' := by
  have hll := hr.len
  have hlw : ∀ x ∈ l, x < 256 := fun x hx => wf_u8.1 (hr.wf x hx)
  have hkey : keyN l = l := keyN_small (by omega)
  have hd300 : decide ((300 : Int) < (n : Int)) = false := by simp; omega
  have hd64 : decide ((64 : Int) < (n : Int)) = false := by simp; omega
  have HLO := Lib.hid (length_ownN l)
  have hat1 : ∀ j (h : j < (keyN l).length) (h' : j < (ownN l).length), (ownN l)[j] = (keyN l)[j] := fun j h h' => own_at_key h h'
  have hat0 : ∀ j (_ : ¬ j < (keyN l).length) (h' : j < (ownN l).length), (ownN l)[j] = 0 := fun j h h' => own_at_zero h h'
  have hkw := keyN_lt hlw
  have HOC : Hid (∀ W : World, Reads .u8 W A n c l → KT W → Calls Tryd.prog 10 #[.slice A n c] W fun en w' => en = .returned (.agg (ints .u8 (ownN l)).toArray) ∧ Below W.heap.size W w') := fun W h1 h2 => own_c A n c l W h1 h2 (by omega)
  generalize ownN l = own at *
  have HKEY := Lib.hid hkey
  have HAT1 := Lib.hid hat1
  have HAT0 := Lib.hid hat0
  have HKW := Lib.hid hkw
  have HLL := Lib.hid hll
  clear hkey hat1 hat0 hkw hll hlw
  go_enter Tryd.func4, Tryd.ntmps4
  go_wp2_with fail
  refine (awake3_c _ hk).mono ?_
  rintro e w1 ⟨rfl, hb1⟩
  have hr1 := hr.keep hb1
  have hk1 := hk.below hb1
  clear hr hk
  go_wp2_with fail
  refine (HOC.out _ hr1 hk1).mono ?_
  rintro e w2 ⟨rfl, hb2⟩
  have hr2 := hr1.keep hb2
  have hbw2 := hb1.trans (hb2.mono hb1.size)
  have hbs2 := hbw2.size
  clear hr1 hk1 hb1 hb2 HOC
  go_upto_region 6 with ((with_reducible refine at_store 31 ?_); refine wpList_store_at rfl rfl 31 (.tmp 3) (.tmp 12) rfl w2.heap.size 0 rfl (ints .u8 own) rfl zeroB64 _ (Blk.new _ _ zeroB64) (by rw [length_ints, HLO.out, length_zeroB64]; decide) (ints_oneCell _ _) (by rw [length_ints, HLO.out]; kernel_rfl) ?_; intro w3 hb3 hg3)
  rw [splice_all _ _ (by rw [length_ints, HLO.out, length_zeroB64])] at hb3
  have hb23 := below_of_only ((Below.refl w2.heap.size w2).alloc (Nat.le_refl _) _) hg3 (by simp) (Nat.le_refl _)
  have hbw3 := hbw2.trans (hb23.mono hbw2.size)
  have HR3 := Lib.hid (hr2.keep hb23)
  generalize w2.heap.size = g3 at *
  have HB3 := Lib.hid hb3
  clear hb3 hg3 hb23 hbw2 hr2
  have HR5 : Hid (Reads .u8 w3 A n c (keyN l)) := by rw [HKEY.out]; exact HR3.out
  have HB5 := HB3
  have hbw5 := hbw3
  clear HB3 HR3 hbw3
  generalize w3 = w5 at *
  generalize keyN l = kk at *
  go_wp2_with fail
  go_loopw [5] (fun i wr => ∃ j q : Nat, j ≤ 64 ∧ i = .int .i64 j ∧ wr = w5.drewN q) (fun i _ => 64 - (intOf i).toNat)
  case atStart => exact ⟨0, 0, Nat.zero_le _, rfl, rfl⟩
  case round =>
    obtain ⟨j, q, hj, rfl, hwr⟩ := hrel
    by_cases hlt : j < 64
    · have hjo : j < own.length := by rw [HLO.out]; exact hlt
      have c1 : w5.cell? ⟨g3, j, none⟩ = some (.int .u8 (own[j] : Int)) := (HB5.out.cell j).trans (by simp [ints, hjo])
      have d1 : wr.cell? ⟨g3, j, none⟩ = some (.int .u8 (own[j] : Int)) := by rw [hwr]; exact c1
      have hlt2 : (j : Int) < 64 := by omega
      have hj0 : 0 ≤ (j : Int) := by omega
      by_cases hin : j < n
      · have hjk : j < kk.length := by rw [HR5.out.len]; exact hin
        obtain ⟨ad, e0, hadlt, hcel⟩ := HR5.out.cell j hjk
        rw [← HAT1.out j hjk hjo] at hcel
        have d2 : wr.cell? (ad.add j) = some (.int .u8 (own[j] : Int)) := by rw [hwr]; exact hcel
        subst e0
        generalize own[j] = x at *
        have hin2 : decide ((j : Int) < (n : Int)) = true := by simp; omega
        have hin3 : (j : Int) < (n : Int) := by omega
        have hge : decide ((n : Int) ≤ (j : Int)) = false := by simp; omega
        have hgn : decide ((n : Nat) ≤ j) = false := by simp; omega
        have hne : ((x : Int) != (x : Int)) = false := by simp
        have HWR := Lib.hid hwr
        clear hwr c1 hcel
        go_upto_region 11 with (fail)
        go_quiet (fail)
        go_wp2
        go_roundw
        case rel => exact ⟨j + 1, q + nq, by omega, by go_num, by rw [HWR.out, World.drewN_drewN]⟩
        case measure => simp [intOf]; omega
      · have hjk : ¬ j < kk.length := by rw [HR5.out.len]; exact hin
        rw [HAT0.out j hjk hjo] at d1
        have hin2 : decide ((j : Int) < (n : Int)) = false := by simp; omega
        have hge : decide ((n : Int) ≤ (j : Int)) = true := by simp; omega
        have hgn : decide ((n : Nat) ≤ j) = true := by simp; omega
        have hin4 : decide (j < (n : Nat)) = false := by simp; omega
        have HWR := Lib.hid hwr
        clear hwr c1
        go_upto_region 11 with (fail)
        go_quiet (fail)
        go_wp2
        go_roundw
        case rel => exact ⟨j + 1, q + nq, by omega, by go_num, by rw [HWR.out, World.drewN_drewN]⟩
        case measure => simp [intOf]; omega
    · have hbw : Below w.heap.size w wr := by rw [hwr]; exact belowDrewN hbw5 _
      clear hwr
      go_wp2
      go_ret
      exact ⟨rfl, hbw⟩
theorem walk (a : Option Addr) (n c : Nat) (l : List Nat) (w : World) (hr : Reads .u8 w a n c l) (kt : KT w) :
    Calls Tryd.prog 4 #[.slice a n c] w fun e w' => e = .returned (.bool true) ∧ Below w.heap.size w w' := by
  by_cases hbig : 300 < n
  · exact walk_big a n c w kt hbig
  · by_cases h64 : 64 < n
    · exact walk_long a n c l w kt (by omega) hr h64
    · exact walk_short a n c l w kt (by omega) hr (by omega)
end Go.Proofs.YtbaahdhimolllaaDoor.hmacOwn
