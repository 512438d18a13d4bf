/- What the functions digest, Sum and Check of package hmac return, for every argument, as a walk through the translated text. Conditions: the bytes read as lists, the parts as a list of lists; the table of the rounds' constants lies as the program lays it. -/
import Derived.Test.YtjacfihpjolddaaDoorHmac1
import Derived.Deep.RegionHeld3
namespace Go.Proofs.YtjacfihpjolddaaDoor
open Go.ChangeShapes Go.WideShapes Go.RowKit

/-- own while its bytes are being combined with m: j are done. -/
def maskTo (m : Nat) (own : List Nat) (j : Nat) : List Nat := maskN m (own.take j) ++ own.drop j
theorem maskTo_zero (m : Nat) (own : List Nat) : maskTo m own 0 = own := by simp [maskTo, maskN]
theorem maskTo_end (m : Nat) (own : List Nat) (n : Nat) (h : own.length = n) : maskTo m own n = maskN m own := by
  rw [maskTo, List.drop_eq_nil_of_le (by omega), List.append_nil, List.take_of_length_le (by omega)]
theorem maskTo_at (m : Nat) (own : List Nat) (j : Nat) (h : j < own.length) : (ints .u8 (maskTo m own j))[j]? = some (.int .u8 (own[j] : Int)) := by
  rw [maskTo, ints_append, List.getElem?_append_right (by rw [length_ints, length_maskN, List.length_take]; omega), length_ints, length_maskN, List.length_take, Nat.min_eq_left (by omega), Nat.sub_self]
  simp [ints, h]
theorem maskTo_set (m : Nat) (own : List Nat) (j : Nat) (h : j < own.length) : (ints .u8 (maskTo m own j)).set j (.int .u8 ((own[j] ^^^ m : Nat) : Int)) = ints .u8 (maskTo m own (j + 1)) := by
  rw [ints_set]
  congr 1
  rw [maskTo, maskTo, List.set_append_right _ _ (by rw [length_maskN, List.length_take]; omega), length_maskN, List.length_take, Nat.min_eq_left (by omega), Nat.sub_self, List.drop_eq_getElem_cons h, List.take_succ_eq_append_getElem h, List.set_cons_zero, maskN, maskN, List.map_append, List.append_assoc]
  rfl
set_option maxRecDepth 100000 in
set_option maxHeartbeats 1600000 in
theorem digest_c (own : List Nat) (m : Nat) (A : Option Addr) (n c : Nat) (ls : List (List Nat)) (w : World) (hl : own.length = 64) (ho : ∀ x ∈ own, x < 256) (hm : m < 256) (hr : ReadsAll .u8 w A n c ls) (hk : KT w) (hb : ls.flatten.length ≤ 274877906944) :
    Calls Tryd.prog 21 #[.agg (ints .u8 own).toArray, .int .u8 (m : Int), .slice A n c] w fun en w' => en = .returned (.agg (ints .u8 (digestN (maskN m own ++ ls.flatten))).toArray) ∧ Below w.heap.size w w' := by
  have hkl := hk.lt
  have HLL := Lib.hid hr.len
  have hnm : n ≤ 9223372036854775807 := by have := hr.room; have := hr.cap; unfold maxLen at this; omega
  have HKT := Lib.hid hk
  have HL := Lib.hid hl
  have HO := Lib.hid ho
  clear hl hk ho
  obtain ⟨mk, hmk⟩ : ∃ mk, Hid (maskN m own = mk) := ⟨_, rfl⟩
  obtain ⟨M, hM⟩ : ∃ M, Hid (mk ++ ls.flatten = M) := ⟨_, rfl⟩
  rw [hmk.out, hM.out]
  go_enter Tryd.func21, Tryd.ntmps21
  go_upto_region 1 with (fail)
  refine name_wp (fun w1 => Blk w1 w.heap.size 43 (ints .u8 (maskTo m own 0)) ∧ Blk w1 (w.heap.size + 1) 23 zero32 ∧ Below w.heap.size w w1) ⟨?_, ?_, ((Below.refl _ _).alloc (Nat.le_refl _) _).alloc (by simp) _⟩ ?_
  · rw [maskTo_zero]
    exact (Blk.new _ _ (ints .u8 own)).alloc _
  · have := Blk.new (w.alloc (.cells (ints .u8 own).toArray 43)) 23 zero32
    rw [World.size_alloc] at this
    exact this
  rintro w1 ⟨hb3, hb6, hbel1⟩
  have HB3 := Lib.hid hb3
  have HB6 := Lib.hid hb6
  clear hb3 hb6
  go_wp2_with fail
  go_loopw [11] (fun i wr => ∃ j : Nat, j ≤ 64 ∧ i = .int .i64 j ∧ Blk wr w.heap.size 43 (ints .u8 (maskTo m own j)) ∧ Blk wr (w.heap.size + 1) 23 zero32 ∧ Below w.heap.size w wr) (fun i _ => 64 - (intOf i).toNat)
  case atStart => exact ⟨0, Nat.zero_le _, rfl, HB3.out, HB6.out, hbel1⟩
  case round =>
    clear HB3 HB6 hbel1
    obtain ⟨j, hj, rfl, hb3, hb6, hbel⟩ := hrel
    by_cases hlt : j < 64
    · have hjo : j < own.length := by rw [HL.out]; exact hlt
      have c3 := (hb3.cell j).trans (maskTo_at m own j hjo)
      have f3 := hb3.frozen j
      have hset := maskTo_set m own j hjo
      have hx : own[j] < 256 := HO.out _ (List.getElem_mem _)
      generalize own[j] = x at *
      have hxm := u8_xor_nat x m hx hm
      have HX := Lib.hid hxm
      have HSET := Lib.hid hset
      have HB3 := Lib.hid hb3
      have HB6 := Lib.hid hb6
      clear hb3 hb6 hset hxm
      have hlt2 : (j : Int) < 64 := by omega
      go_wp2
      go_roundw
      case rel =>
        refine ⟨j + 1, by omega, by go_num, ?_, ?_, ?_⟩
        · rw [← HSET.out, HX.out]
          exact HB3.out.set_ _ _
        · exact HB6.out.far (by simp) _
        · exact hbel.setCell (Nat.le_refl _) _
      case measure => simp [intOf]; omega
    · have hj64 : j = 64 := by omega
      subst hj64
      rw [maskTo_end m own 64 HL.out, hmk.out] at hb3
      have hlm : mk.length = 64 := by rw [← hmk.out, length_maskN, HL.out]
      have hltm : ∀ x ∈ mk, x < 256 := by rw [← hmk.out]; exact maskN_lt hm HO.out
      have HLM := Lib.hid hlm
      have hrm := reads_blk hb3 hlm (by decide) hltm
      clear hlm hltm
      have hs2 : w.heap.size + 1 < wr.heap.size := hb6.lt
      go_wp2_with fail
      refine (new_c _).mono ?_
      rintro en w2 ⟨g, rfl, hgs, hh2, hbel2⟩
      have hrm2 := hrm.keep hbel2
      have HB6 := Lib.hid (hb6.below hbel2 hb6.lt)
      have hbw2 := hbel.trans (hbel2.mono hbel.size)
      have hgw : w.heap.size + 1 < g := by omega
      generalize wr = wo at *
      clear hrm hb6 hbel2 hb3 hbel hs2 hgs
      go_wp2_with fail
      refine (write_c g _ _ _ [] mk _ hh2 hrm2 (fun _ ad e => by cases e; simp; omega) (HKT.out.below hbw2) (by omega) (by simp)).mono ?_
      rintro en w3 ⟨⟨v, rfl⟩, hh3, hg3⟩
      rw [List.nil_append] at hh3
      have hbel3 := below_of_only hbw2 hg3 hbw2.size (by omega)
      have HB6' := Lib.hid (HB6.out.grown hg3 (by simp; omega))
      have HH3 : Hid (HashAt w3 g (mk ++ (ls.take 0).flatten)) := by show HashAt _ _ _; simpa using hh3
      clear hh3 hg3 HB6 hbw2 hh2 hrm2
      go_wp2_with fail
      go_loopw [27] (fun i wr => ∃ j : Nat, j ≤ n ∧ i = .int .i64 j ∧ HashAt wr g (mk ++ (ls.take j).flatten) ∧ Blk wr (w.heap.size + 1) 23 zero32 ∧ Below w.heap.size w wr) (fun i _ => n - (intOf i).toNat)
      case atStart => exact ⟨0, Nat.zero_le _, rfl, HH3.out, HB6'.out, hbel3⟩
      case round =>
        clear HH3 HB6' hbel3
        obtain ⟨j, hj, rfl, hh, hb6, hbel⟩ := hrel
        by_cases hlt : j < n
        · have hjl : j < ls.length := by rw [HLL.out]; exact hlt
          obtain ⟨ad, R, m', cr, rfl, hadlt, hcell, hrow⟩ := hr.row j hjl
          have hcellr := (hbel.cell (p := ad.add j) (by rw [block_add]; exact hadlt)).trans hcell
          have hlt2 : (j : Int) < (n : Int) := by omega
          have hfl := flat_succ' ls j hjl
          have hle := flat_take_le ls (j + 1)
          rw [hfl, List.length_append] at hle
          have hoff : 0 < m' → Off R g := by
            intro h0 ad' e
            obtain ⟨ad2, e2, hl2, _⟩ := hrow.cell 0 (by rw [hrow.len]; exact h0)
            rw [e2] at e; cases e
            omega
          have hrl := hrow.len
          generalize (ls.take j).flatten = msg at *
          generalize ls[j] = l at *
          have HFL := Lib.hid hfl
          have HH := Lib.hid hh
          have HROW := Lib.hid hrow
          have HRL := Lib.hid hrl
          have HLE := Lib.hid hle
          have HB6 := Lib.hid hb6
          clear hfl hh hrow hrl hle hcell hb6
          go_wp2_with fail
          refine (write_c g R m' cr (mk ++ msg) l _ HH.out (HROW.out.keep hbel) hoff (HKT.out.below hbel) (by omega) (by have h1 := HLE.out; have h2 := HRL.out; have h3 := HLM.out; rw [List.length_append]; omega)).mono ?_
          rintro e w4 ⟨⟨v, rfl⟩, hh4, hg4⟩
          rw [List.append_assoc, ← HFL.out] at hh4
          have hbel4 := below_of_only hbel hg4 hbel.size (by omega)
          have HB6' := Lib.hid (HB6.out.grown hg4 (by simp; omega))
          have HH4 := Lib.hid hh4
          clear hh4 hg4 hbel HB6 HH HROW
          go_wp2
          go_roundw
          case rel => exact ⟨j + 1, by omega, by go_num, HH4.out, HB6'.out, hbel4⟩
          case measure => simp [intOf]; omega
        · have hjn : j = n := by omega
          have hfl : (ls.take j).flatten = ls.flatten := by rw [List.take_of_length_le (by rw [HLL.out]; omega)]
          rw [hfl, hM.out] at hh
          have hlen : M.length ≤ 549755813888 := by rw [← hM.out, List.length_append, HLM.out]; omega
          have HLEN := Lib.hid hlen
          have HB6 := Lib.hid hb6
          have HH := Lib.hid hh
          clear hlen hb6 hh hfl
          go_wp2_with fail
          refine (hsum_c g M _ HH.out (HKT.out.below hbel) HLEN.out).mono ?_
          rintro en w5 ⟨rfl, hbel5⟩
          have HB7 := Lib.hid (HB6.out.below hbel5 HB6.out.lt)
          have hbel6 := hbel.trans (hbel5.mono hbel.size)
          have hld := length_digestN M
          clear HB6 hbel hbel5 HH
          go_wp2_with ((with_reducible refine at_store 23 ?_); refine wpList_store_at rfl rfl 23 (.tmp 6) (.tmp 36) rfl (w.heap.size + 1) 0 rfl _ rfl _ _ HB7.out (by rw [length_ints, length_digestN, length_zero32]; decide) (ints_oneCell _ _) (by rw [length_ints, length_digestN]; kernel_rfl) ?_; intro w9 hb9 hg9)
          have hbel9 := below_of_only hbel6 hg9 hbel6.size (by omega)
          rw [splice_all _ _ (by rw [length_ints, length_digestN, length_zero32])] at hb9
          refine bodyPost_ret (v := .agg (ints .u8 (digestN M)).toArray) ?_ rfl ⟨rfl, hbel9⟩
          exact results_cell_row rfl _ _ (w.heap.size + 1) _ _ _ _ rfl hb9 Tryd.underlying23 rfl (by rw [List.size_toArray, length_ints, length_digestN]; kernel_rfl)

/-! ### Whole arrays beside other operations of a region that draws: the load and the store as equations -/
set_option maxRecDepth 100000 in
set_option maxHeartbeats 1600000 in
theorem tag_c (K : Option Addr) (kn kc : Nat) (key : List Nat) (A : Option Addr) (n c : Nat) (ls : List (List Nat)) (w : World) (hK : Reads .u8 w K kn kc key) (hr : ReadsAll .u8 w A n c ls) (hk : KT w) (hkb : kn ≤ 274877906944) (hb : ls.flatten.length ≤ 274877906944) :
    Calls Tryd.prog 17 #[.slice K kn kc, .slice A n c] w fun en w' => en = .returned (.agg (ints .u8 (hmacN key ls.flatten)).toArray) ∧ Below w.heap.size w w' := by
  have hlo := length_ownN key
  have hol := ownN_lt (l := key) (fun x hx => wf_u8.1 (hK.wf x hx))
  have HOC : Hid (∀ W : World, Reads .u8 W K kn kc key → KT W → kn ≤ 549755813888 → Calls Tryd.prog 20 #[.slice K kn kc] W fun en w' => en = .returned (.agg (ints .u8 (ownN key)).toArray) ∧ Below W.heap.size W w') := fun W h1 h2 h3 => own_c K kn kc key W h1 h2 h3
  rw [show hmacN key ls.flatten = digestN (maskN 92 (ownN key) ++ [digestN (maskN 54 (ownN key) ++ ls.flatten)].flatten) by simp [hmacN]]
  generalize ownN key = own at *
  have hld := length_digestN (maskN 54 own ++ ls.flatten)
  have hlt := digestN_lt256 (maskN 54 own ++ ls.flatten)
  obtain ⟨dg, hdg⟩ : ∃ dg, Hid (digestN (maskN 54 own ++ ls.flatten) = dg) := ⟨_, rfl⟩
  rw [hdg.out] at hld hlt ⊢
  have HLD := Lib.hid hld
  have HLT := Lib.hid hlt
  have HLO := Lib.hid hlo
  have HOL := Lib.hid hol
  clear hld hlt hlo hol
  have HK := Lib.hid hK
  have HR := Lib.hid hr
  have HKT := Lib.hid hk
  clear hK hr hk
  go_enter Tryd.func17, Tryd.ntmps17
  go_wp2_with fail
  refine name_Calls (fun w1 => Blk w1 w.heap.size 23 zero32 ∧ Below w.heap.size w w1) ⟨Blk.new _ _ zero32, (Below.refl _ _).alloc (Nat.le_refl _) _⟩ ?_
  rintro w1 ⟨hb4, hbel1⟩
  refine (HOC.out _ (HK.out.keep hbel1) (HKT.out.below hbel1) (by omega)).mono ?_
  rintro en w2 ⟨rfl, hbel2⟩
  have HB4 := Lib.hid (hb4.below hbel2 hb4.lt)
  have hbw2 := hbel1.trans (hbel2.mono hbel1.size)
  have hs2 : w.heap.size < w2.heap.size := (hb4.below hbel2 hb4.lt).lt
  clear hb4 hbel1 hbel2 HOC
  go_upto_region 2 with ((with_reducible refine at_store 43 ?_); refine wpList_store_at rfl rfl 43 (.tmp 5) (.tmp 8) rfl w2.heap.size 0 rfl (ints .u8 own) rfl zeroB64 _ (Blk.new _ _ zeroB64) (by rw [length_ints, HLO.out, length_zeroB64]; decide) (ints_oneCell _ _) (by rw [length_ints, HLO.out]; kernel_rfl) ?_; intro w3 hb5 hg5)
  rw [splice_all _ _ (by rw [length_ints, HLO.out, length_zeroB64])] at hb5
  have hbw3 := below_of_only (hbw2.alloc hbw2.size _) hg5 (by simp; omega) (by omega)
  have HB4' := Lib.hid ((HB4.out.alloc _).grown hg5 (by simp; omega))
  have HB5 := Lib.hid hb5
  have hs3 : w2.heap.size < w3.heap.size := hb5.lt
  generalize w2.heap.size = g5 at *
  clear hb5 hg5 HB4 hbw2
  refine wp_region_lit ?_
  refine wpList_load_at rfl 43 (.tmp 5) rfl ⟨g5, 0, none⟩ rfl _ _ HB5.out.all Tryd.underlying43 rfl (by rw [length_ints, HLO.out]; kernel_rfl) ?_
  go_wp2_with fail
  refine (digest_c own 54 A n c ls _ HLO.out HOL.out (by decide) (HR.out.keep hbw3) (HKT.out.below hbw3) hb).mono ?_
  rintro en w4 ⟨rfl, hbel4⟩
  have HB4 := Lib.hid (HB4'.out.below hbel4 HB4'.out.lt)
  have HB5' := Lib.hid (HB5.out.below hbel4 HB5.out.lt)
  have hbw4 := hbw3.trans (hbel4.mono hbw3.size)
  have hs4 : g5 < w4.heap.size := (HB5.out.below hbel4 HB5.out.lt).lt
  rw [hdg.out]
  clear HB4' HB5 hbw3 hbel4 hs3
  go_upto_region 3 with ((with_reducible refine at_store 23 ?_); refine wpList_store_at rfl rfl 23 (.tmp 6) (.tmp 11) rfl w4.heap.size 0 rfl (ints .u8 dg) rfl zero32 _ (Blk.new _ _ zero32) (by rw [length_ints, HLD.out, length_zero32]; decide) (ints_oneCell _ _) (by rw [length_ints, HLD.out]; kernel_rfl) ?_; intro w5 hb6 hg6)
  rw [splice_all _ _ (by rw [length_ints, HLD.out, length_zero32])] at hb6
  have hbw5 := below_of_only (hbw4.alloc hbw4.size _) hg6 (by simp; omega) (by omega)
  have HB7 := Lib.hid ((HB4.out.alloc _).grown hg6 (by simp; omega))
  have HB8 := Lib.hid ((HB5'.out.alloc _).grown hg6 (by simp; omega))
  have HR6 := Lib.hid (reads_blk hb6 HLD.out (by decide) HLT.out)
  have hs5 : w4.heap.size < w5.heap.size := hb6.lt
  generalize w4.heap.size = g6 at *
  clear hb6 hg6 HB4 HB5' hbw4
  refine wp_region_held_drew (S := fun W => Blk W g5 43 (ints .u8 own)) (by kernel_rfl) HB8.out.drew (fun hS => ?_)
  refine wpAnyH_take (i := 0) (oi := ⟨some 12, .load 43 (.tmp 5), _, _, _, _⟩) rfl (by kernel_rfl) (by kernel_rfl) (by kernel_rfl) (fun _ _ _ h => h) (yieldsIf_load_at rfl 43 (.tmp 5) rfl ⟨g5, 0, none⟩ rfl _ _ (fun W hW => Blk.all hW) Tryd.underlying43 rfl (by rw [length_ints, HLO.out]; kernel_rfl)) hS ?_
  simp only [Act.put, List.setIfInBounds_toArray, List.set_cons_zero, List.set_cons_succ]
  refine wpAnyH_take (i := 1) (oi := ⟨some 13, .slice 23 (.tmp 6) none none none, _, _, _, _⟩) (v := .slice (some ⟨g6, 0, none⟩) 32 32) rfl (by kernel_rfl) (by kernel_rfl) (by kernel_rfl) (fun _ _ _ h => h) (Or.inl ⟨by rfl, by intro W hSw; clear hSw; go_simp⟩) hS ?_
  simp only [Act.put, List.setIfInBounds_toArray, List.set_cons_zero, List.set_cons_succ]
  refine wpAnyH_ready (rs := [2]) (by kernel_rfl) (by simp) (AllReadyH.cons (o := ⟨some 14, .buildSlice 42 1 #[(0, .tmp 13)], _, _, _, _⟩) rfl (fun K hK => ?_) AllReadyH.nil)
  go_simp
  refine hK.out _ _ (HB8.out.alloc _).drew (fun hS2 => ?_)
  clear hK K hS
  refine wpAnyH_ready (rs := [3]) (by kernel_rfl) (by simp) (AllReadyH.cons (o := ⟨some 15, .call { callee := .value (.func 21), args := #[.tmp 12, .const (.int .u8 92), .tmp 14], argTypes := #[43, 5, 42] }, _, _, _, _⟩) rfl (fun K hK => ?_) AllReadyH.nil)
  go_simp
  refine (digest_c own 92 _ 1 1 [dg] _ HLO.out HOL.out (by decide) ?hra ?hkt (by simp [HLD.out])).mono ?_
  case hra => exact (readsAll_one HR6.out).of_heap rfl
  case hkt => exact HKT.out.below (hbw5.alloc hbw5.size _).drew
  rintro en w6 ⟨rfl, hbel6⟩
  have hB := Blk.below hS2 hbel6 (Blk.lt hS2)
  have hB7 := (HB7.out.alloc _).drew.below hbel6 (HB7.out.alloc _).drew.lt
  have hbw6 := (hbw5.alloc hbw5.size _).drew.trans (hbel6.mono (hbw5.alloc hbw5.size _).drew.size)
  refine hK.out _ _ hB (fun hS3 => ?_)
  clear hK K hS2 hbel6 hB hbw5
  refine wpAnyH_ready (rs := [4]) (by kernel_rfl) (by simp) (AllReadyH.cons (o := ⟨none, .store 23 (.tmp 4) (.tmp 15), _, _, _, _⟩) rfl (fun K hK => ?_) AllReadyH.nil)
  refine step_store_blk rfl rfl 23 (.tmp 4) (.tmp 15) rfl w.heap.size rfl _ rfl _ _ hB7 (by rw [length_ints, length_digestN, length_zero32]) (ints_oneCell _ _) (by rw [length_ints, length_digestN]; kernel_rfl) ?_
  intro w7 hb7 hg7
  have hbw7 := below_of_only hbw6 hg7 hbw6.size (Nat.le_refl _)
  refine hK.out _ _ (Blk.grown hS3 hg7 (by simp; omega)) (fun hS4 => ?_)
  refine wpAnyH_done (by kernel_rfl) ?_ _
  clear hK K hS3 hS4 hB7 HB7 HB8 HR6
  go_wp2
  refine bodyPost_ret (v := .agg (ints .u8 (digestN (maskN 92 own ++ [dg].flatten))).toArray) ?_ rfl ⟨rfl, hbw7⟩
  exact results_cell_row rfl _ _ w.heap.size _ _ _ _ rfl hb7 Tryd.underlying23 rfl (by rw [List.size_toArray, length_ints, length_digestN]; kernel_rfl)

end Go.Proofs.YtjacfihpjolddaaDoor
