/- What the function Sum of the reference batonref03 returns, for every key and message, as a walk through the translated text: the tag. Conditions: both read as lists of at most 2^20 bytes. -/
import Derived.Test.YtjacfihpjolddaaDoorHmac1
import Derived.Test.YtjacfihpjolddaaDoorShaR3
namespace Go.Proofs.YtjacfihpjolddaaDoor
open Go.ChangeShapes Go.WideShapes Go.RowKit

theorem mask_grow (m : Nat) (own : List Nat) (j : Nat) (h : j < own.length) (x : Nat) (hx : own[j] = x) : ints .u8 (maskN m (own.take j)) ++ [.int .u8 ((x ^^^ m : Nat) : Int)] = ints .u8 (maskN m (own.take (j + 1))) := by
  rw [List.take_succ_eq_append_getElem h, maskN, maskN, List.map_append, ints_append, hx]
  rfl
theorem own_at_key {key : List Nat} {j : Nat} (h : j < (keyN key).length) (h' : j < (ownN key).length) : (ownN key)[j] = (keyN key)[j] := by
  simp [ownN, h]
theorem own_at_zero {key : List Nat} {j : Nat} (h : ¬ j < (keyN key).length) (h' : j < (ownN key).length) : (ownN key)[j] = 0 := by
  simp [ownN, List.getElem_append, h]
/-- All that the part behind the key's own bytes does. -/
def TagPost (w : World) (key msg : List Nat) (en : Ending) (w' : World) : Prop := RowPost w 5 32 (ints .u8 (hmacN key msg)) en w'
set_option maxRecDepth 100000 in
set_option maxHeartbeats 3200000 in
theorem refTag_small (K : Option Addr) (kn kc : Nat) (key : List Nat) (A : Option Addr) (n c : Nat) (msg : List Nat) (w : World) (hK : Reads .u8 w K kn kc key) (hr : Reads .u8 w A n c msg) (hb : n ≤ 1048576) (hs : kn ≤ 64) :
    Calls Tryd.prog 15 #[.slice K kn kc, .slice A n c] w (TagPost w key msg) := by
  obtain ⟨i0, hi, hz0, hz1, hz2⟩ := info_parts infoU8
  have hKl := hK.len
  have hKw := hK.wf
  have HLL := Lib.hid hr.len
  have hk : keyN key = key := keyN_small (by omega)
  have hd : decide ((64 : Int) < (kn : Int)) = false := by simp; omega
  go_enter Tryd.func15, Tryd.ntmps15
  rw [← hk] at hK
  have hbel0 : Below w.heap.size w w := Below.refl _ _
  have hlo := length_ownN key
  have hol := ownN_lt (l := key) (fun x hx => wf_u8.1 (hKw x hx))
  obtain ⟨kk, hkk⟩ : ∃ kk, Hid (keyN key = kk) := ⟨_, rfl⟩
  obtain ⟨own, hown⟩ : ∃ own, Hid (ownN key = own) := ⟨_, rfl⟩
  have hat1 : ∀ j (h : j < kk.length) (h' : j < own.length), own[j] = kk[j] := by
    rw [← hkk.out, ← hown.out]; exact fun j h h' => own_at_key h h'
  have hat0 : ∀ j (_ : ¬ j < kk.length) (h' : j < own.length), own[j] = 0 := by
    rw [← hkk.out, ← hown.out]; exact fun j h h' => own_at_zero h h'
  rw [hkk.out] at hK
  rw [hown.out] at hlo hol
  have HAT1 := Lib.hid hat1
  have HAT0 := Lib.hid hat0
  have HLO := Lib.hid hlo
  have HOL := Lib.hid hol
  clear hk hKl hKw hat1 hat0 hlo hol
  go_wp2_with fail
  go_loopw [5, 6, 7] (fun a b i wr => ∃ j ca cb : Nat, ∃ A B, j ≤ 64 ∧ i = .int .i64 j ∧ a = .slice A j ca ∧ b = .slice B j cb ∧ wr.ownsRow w.heap.size 5 1 (.slice A j ca) j (ints .u8 (maskN 92 (own.take j))) ∧ wr.ownsRow w.heap.size 5 1 (.slice B j cb) j (ints .u8 (maskN 54 (own.take j))) ∧ Two (.slice A j ca) (.slice B j cb) ∧ Below w.heap.size w wr) (fun _ _ i _ => 64 - (intOf i).toNat)
  case atStart => exact ⟨0, 0, 0, none, none, by omega, rfl, rfl, rfl, ⟨by simp [ints, maskN], .inl ⟨rfl, rfl⟩⟩, ⟨by simp [ints, maskN], .inl ⟨rfl, rfl⟩⟩, fun g h => by simp [Value.ownBlock] at h, Below.refl _ _⟩
  case round =>
    obtain ⟨j, ca, cb, Aa, Bb, hj, rfl, rfl, rfl, hoa, hob, htwo, hbel⟩ := hrel
    by_cases hlt : j < 64
    · have hjo : j < own.length := by rw [HLO.out]; exact hlt
      have hx : own[j] < 256 := HOL.out _ (List.getElem_mem _)
      have hga := mask_grow 92 own j hjo _ rfl
      have hgb := mask_grow 54 own j hjo _ rfl
      have hlt2 : (j : Int) < 64 := by omega
      have hbs := hbel.size
      by_cases hin : j < kn
      · have hjk : j < kk.length := by rw [hK.len]; exact hin
        have hin2 : (j : Int) < (kn : Int) := by omega
        obtain ⟨ad, e0, hadlt, hcel⟩ := hK.cell j hjk
        rw [← HAT1.out j hjk hjo] at hcel
        subst e0
        have hcell := (hbel.cell (p := ad.add j) (by rw [block_add]; exact hadlt)).trans hcel
        clear hcel
        generalize own[j] = x at *
        have H92 : Hid ((#[Value.int .u8 (bits BinOp.xor IntKind.u8 (x : Int) 92)] : Array Value).toList = [Value.int .u8 ((x ^^^ 92 : Nat) : Int)]) := by show _ = _; rw [show bits BinOp.xor IntKind.u8 (x : Int) 92 = ((x ^^^ 92 : Nat) : Int) from u8_xor_nat x 92 hx (by decide)]
        have H54 : Hid ((#[Value.int .u8 (bits BinOp.xor IntKind.u8 (x : Int) 54)] : Array Value).toList = [Value.int .u8 ((x ^^^ 54 : Nat) : Int)]) := by show _ = _; rw [show bits BinOp.xor IntKind.u8 (x : Int) 54 = ((x ^^^ 54 : Nat) : Int) from u8_xor_nat x 54 hx (by decide)]
        have HGA := Lib.hid hga
        have HGB := Lib.hid hgb
        have HOA := Lib.hid hoa
        have HOB := Lib.hid hob
        have HTW := Lib.hid htwo
        clear hga hgb hoa hob htwo
        go_upto_region 11 with (at_builtin; refine wpList_append_own_at _ rfl (.tmp 26) (.tmp 29) 32 rfl w.heap.size 5 i0 (.int .u8 0) 1 1 Tryd.underlying32 hi hz0 hz1 hz2 rfl (by decide) (.slice Aa j ca) j _ rfl (HOA.out.alloc _) ⟨wr.heap.size, 0, none⟩ 1 1 _ rfl rfl (cells_new _ _ _) (by simp [Value.oneCell']) (by unfold maxLen; omega) (by omega) (by simp; omega) ?_; intro v2 w2 hown2 hgrow2 hiff2 hat2)
        rw [H92.out, HGA.out] at hown2
        have hob2 := own_keep (HOB.out.alloc _) hgrow2 (fun g h1 h2 => HTW.out g h2 h1)
        have htw2 := HTW.out.step (HOB.out.alloc _) (Nat.le_refl _) hat2
        have hbel2 := (hbel.alloc hbel.size _).grown hgrow2 (by simp; omega) (own_base HOA.out)
        obtain ⟨A2, c2, rfl⟩ := own_form hown2
        have HOA2 := Lib.hid hown2
        have HOB2 := Lib.hid hob2
        have HTW2 := Lib.hid htw2
        have hbs2 := hbel2.size
        clear hown2 hgrow2 hiff2 hat2 hob2 htw2 HGA HOA HOB HTW
        go_wp2_with (at_builtin; refine wpList_append_own_at _ rfl (.tmp 31) (.tmp 34) 32 rfl w.heap.size 5 i0 (.int .u8 0) 1 1 Tryd.underlying32 hi hz0 hz1 hz2 rfl (by decide) (.slice Bb j cb) j _ rfl (HOB2.out.alloc _) ⟨w2.heap.size, 0, none⟩ 1 1 _ rfl rfl (cells_new _ _ _) (by simp [Value.oneCell']) (by unfold maxLen; omega) (by omega) (by simp; omega) ?_; intro v3 w3 hown3 hgrow3 hiff3 hat3)
        rw [H54.out, HGB.out] at hown3
        have hoa3 := own_keep (HOA2.out.alloc _) hgrow3 (fun g h1 h2 => HTW2.out g h1 h2)
        have htw3 := (HTW2.out.symm.step (HOA2.out.alloc _) (Nat.le_refl _) hat3).symm
        have hbel3 := (hbel2.alloc hbel2.size _).grown hgrow3 (by simp; omega) (own_base HOB2.out)
        obtain ⟨A3, c3, rfl⟩ := own_form hown3
        go_roundw
        case rel => exact ⟨j + 1, c2, c3, A2, A3, by omega, by go_num, rfl, rfl, hoa3, hown3, htw3, hbel3⟩
        case measure => simp [intOf]; omega
      · have hjk : ¬ j < kk.length := by rw [hK.len]; exact hin
        have hin2 : ¬ (j : Int) < (kn : Int) := by omega
        rw [HAT0.out j hjk hjo] at hga hgb
        clear hx
        have H92 : Hid ((#[Value.int .u8 (bits BinOp.xor IntKind.u8 0 92)] : Array Value).toList = [Value.int .u8 ((0 ^^^ 92 : Nat) : Int)]) := by show _ = _; rw [show bits BinOp.xor IntKind.u8 0 92 = ((0 ^^^ 92 : Nat) : Int) from u8_xor_nat 0 92 (by decide) (by decide)]
        have H54 : Hid ((#[Value.int .u8 (bits BinOp.xor IntKind.u8 0 54)] : Array Value).toList = [Value.int .u8 ((0 ^^^ 54 : Nat) : Int)]) := by show _ = _; rw [show bits BinOp.xor IntKind.u8 0 54 = ((0 ^^^ 54 : Nat) : Int) from u8_xor_nat 0 54 (by decide) (by decide)]
        have HGA := Lib.hid hga
        have HGB := Lib.hid hgb
        have HOA := Lib.hid hoa
        have HOB := Lib.hid hob
        have HTW := Lib.hid htwo
        clear hga hgb hoa hob htwo
        go_upto_region 11 with (at_builtin; refine wpList_append_own_at _ rfl (.tmp 26) (.tmp 29) 32 rfl w.heap.size 5 i0 (.int .u8 0) 1 1 Tryd.underlying32 hi hz0 hz1 hz2 rfl (by decide) (.slice Aa j ca) j _ rfl (HOA.out.alloc _) ⟨wr.heap.size, 0, none⟩ 1 1 _ rfl rfl (cells_new _ _ _) (by simp [Value.oneCell']) (by unfold maxLen; omega) (by omega) (by simp; omega) ?_; intro v2 w2 hown2 hgrow2 hiff2 hat2)
        rw [H92.out, HGA.out] at hown2
        have hob2 := own_keep (HOB.out.alloc _) hgrow2 (fun g h1 h2 => HTW.out g h2 h1)
        have htw2 := HTW.out.step (HOB.out.alloc _) (Nat.le_refl _) hat2
        have hbel2 := (hbel.alloc hbel.size _).grown hgrow2 (by simp; omega) (own_base HOA.out)
        obtain ⟨A2, c2, rfl⟩ := own_form hown2
        have HOA2 := Lib.hid hown2
        have HOB2 := Lib.hid hob2
        have HTW2 := Lib.hid htw2
        have hbs2 := hbel2.size
        clear hown2 hgrow2 hiff2 hat2 hob2 htw2 HGA HOA HOB HTW
        go_wp2_with (at_builtin; refine wpList_append_own_at _ rfl (.tmp 31) (.tmp 34) 32 rfl w.heap.size 5 i0 (.int .u8 0) 1 1 Tryd.underlying32 hi hz0 hz1 hz2 rfl (by decide) (.slice Bb j cb) j _ rfl (HOB2.out.alloc _) ⟨w2.heap.size, 0, none⟩ 1 1 _ rfl rfl (cells_new _ _ _) (by simp [Value.oneCell']) (by unfold maxLen; omega) (by omega) (by simp; omega) ?_; intro v3 w3 hown3 hgrow3 hiff3 hat3)
        rw [H54.out, HGB.out] at hown3
        have hoa3 := own_keep (HOA2.out.alloc _) hgrow3 (fun g h1 h2 => HTW2.out g h1 h2)
        have htw3 := (HTW2.out.symm.step (HOA2.out.alloc _) (Nat.le_refl _) hat3).symm
        have hbel3 := (hbel2.alloc hbel2.size _).grown hgrow3 (by simp; omega) (own_base HOB2.out)
        obtain ⟨A3, c3, rfl⟩ := own_form hown3
        go_roundw
        case rel => exact ⟨j + 1, c2, c3, A2, A3, by omega, by go_num, rfl, rfl, hoa3, hown3, htw3, hbel3⟩
        case measure => simp [intOf]; omega
    · have hj64 : j = 64 := by omega
      subst hj64
      rw [List.take_of_length_le (Nat.le_of_eq HLO.out)] at hoa hob
      replace hoa := own_weaken hoa hbel0.size
      replace hob := own_weaken hob hbel0.size
      have hbw := hbel
      have hla : (maskN 92 own).length = 64 := by rw [length_maskN, HLO.out]
      have hlb : (maskN 54 own).length = 64 := by rw [length_maskN, HLO.out]
      have hwa : ∀ x ∈ maskN 92 own, x < 256 := maskN_lt (by decide) HOL.out
      have hwb : ∀ x ∈ maskN 54 own, x < 256 := maskN_lt (by decide) HOL.out
      have hfin : hmacN key msg = digestN (maskN 92 own ++ digestN (maskN 54 own ++ msg)) := by rw [hmacN, hown.out]
      generalize maskN 92 own = ma at *
      generalize maskN 54 own = mb at *
      have HLA := Lib.hid hla
      have HLB := Lib.hid hlb
      have HWA := Lib.hid hwa
      have HWB := Lib.hid hwb
      have HFIN := Lib.hid hfin
      have HOA := Lib.hid hoa
      have HOB := Lib.hid hob
      have HTW := Lib.hid htwo
      have HR := Lib.hid (hr.keep hbw)
      have HWM : Hid (∀ x ∈ mb ++ msg, x < 256) := by
        intro x hx
        rcases List.mem_append.1 hx with h | h
        · exact HWB.out x h
        · exact wf_u8.1 (hr.wf x h)
      clear hla hlb hwa hwb hfin hoa hob htwo hr hK hbel HAT1 HAT0 HLO HOL hown hkk
      have hbws := hbw.size
      go_wp2_with (at_builtin; refine wpList_app rfl (.tmp 37) (.tmp 38) 32 rfl w.heap.size 5 i0 (.int .u8 0) 1 Tryd.underlying32 hi hz0 hz1 hz2 rfl (.slice Bb 64 cb) 64 (ints .u8 mb) rfl HOB.out .u8 A n c msg rfl HR.out (by unfold maxLen; omega) (by omega) hbws ?_; intro v2 w2 hown2 hgrow2)
      rw [← ints_append] at hown2
      have hbw2 := hbw.grown hgrow2 hbws (own_base HOB.out)
      have hoa2 := own_keep HOA.out hgrow2 (fun g h1 h2 => HTW.out g h1 h2)
      obtain ⟨A2, c2, rfl, hr2⟩ := Reads.of_own hown2 (fun x hx => wf_u8.2 (HWM.out x hx))
      have HM2 : Hid (Mine w w2 5 (.slice Aa 64 ca) 64 (ints .u8 ma)) := ⟨hoa2, hbw2⟩
      have HR2 := Lib.hid hr2
      clear hown2 hgrow2 hoa2 hr2 HOA HOB HTW HR hbw hbws
      refine (refSum_c _ _ _ (mb ++ msg) _ HR2.out (by omega)).mono ?_
      rintro en w3 ⟨v3, rfl, hm3⟩
      obtain ⟨A3, c3, rfl, hr3⟩ := Reads.of_own hm3.1 (fun x hx => wf_u8.2 (digestN_lt256 _ x hx))
      have HM3 := Lib.hid (mine_below HM2.out hm3.2)
      have HR3 := Lib.hid hr3
      have hbw3 := HM3.out.2
      have hbs3 := hbw3.size
      have hld := length_digestN (mb ++ msg)
      have hlt := digestN_lt256 (mb ++ msg)
      generalize digestN (mb ++ msg) = dg at *
      have HWD : Hid (∀ x ∈ ma ++ dg, x < 256) := by
        intro x hx
        rcases List.mem_append.1 hx with h | h
        · exact HWA.out x h
        · exact hlt x h
      clear hm3 hr3 HM2 HR2 hbw2 hld hlt
      go_wp2_with (at_builtin; refine wpList_app rfl (.tmp 36) (.tmp 40) 32 rfl w.heap.size 5 i0 (.int .u8 0) 1 Tryd.underlying32 hi hz0 hz1 hz2 rfl (.slice Aa 64 ca) 64 (ints .u8 ma) rfl HM3.out.1 .u8 A3 32 c3 dg rfl HR3.out (by decide) (by decide) hbs3 ?_; intro v4 w4 hown4 hgrow4)
      rw [← ints_append] at hown4
      have hbw4 := hbw3.grown hgrow4 hbs3 (own_base HM3.out.1)
      obtain ⟨A4, c4, rfl, hr4⟩ := Reads.of_own hown4 (fun x hx => wf_u8.2 (HWD.out x hx))
      have HR4 := Lib.hid hr4
      clear hown4 hgrow4 hr4 HM3 HR3 hbw3 hbs3
      refine (refSum_c _ _ _ (ma ++ dg) _ HR4.out (by decide)).mono ?_
      rintro en w5 ⟨v5, rfl, hm5⟩
      obtain ⟨A5, c5, rfl⟩ := own_form hm5.1
      have HM5 := Lib.hid hm5
      clear hm5 HR4
      go_wp2
      go_ret
      rw [TagPost, HFIN.out]
      have hm := HM5.out
      exact ⟨_, rfl, ⟨hm.1.1, hm.1.2.imp id (fun ⟨g, cap, cur, e, h1, h2⟩ => ⟨g, cap, cur, e, Nat.le_trans hbw4.size h1, h2⟩)⟩, hbw4.trans (hm.2.mono hbw4.size)⟩
set_option maxRecDepth 100000 in
set_option maxHeartbeats 3200000 in
theorem refTag_big (K : Option Addr) (kn kc : Nat) (key : List Nat) (A : Option Addr) (n c : Nat) (msg : List Nat) (w : World) (hK : Reads .u8 w K kn kc key) (hr : Reads .u8 w A n c msg) (hb : n ≤ 1048576) (hs : 64 < kn) (hkb : kn ≤ 1048576) :
    Calls Tryd.prog 15 #[.slice K kn kc, .slice A n c] w (TagPost w key msg) := by
  obtain ⟨i0, hi, hz0, hz1, hz2⟩ := info_parts infoU8
  have hKl := hK.len
  have hKw := hK.wf
  have HLL := Lib.hid hr.len
  have hk : keyN key = digestN key := keyN_big (by omega)
  have hd : decide ((64 : Int) < (kn : Int)) = true := by simp; omega
  have HK := Lib.hid hK
  clear hK
  go_enter Tryd.func15, Tryd.ntmps15
  go_wp2_with fail
  refine (refSum_c _ _ _ key _ HK.out (by omega)).mono ?_
  rintro en w1 ⟨v1, rfl, hm1⟩
  rw [← hk] at hm1
  have hbel0 := hm1.2
  obtain ⟨A1, c1, rfl, hK⟩ := Reads.of_own hm1.1 (fun x hx => wf_u8.2 (keyN_lt (fun x hx => wf_u8.1 (hKw x hx)) x hx))
  clear hm1 HK
  have hlo := length_ownN key
  have hol := ownN_lt (l := key) (fun x hx => wf_u8.1 (hKw x hx))
  obtain ⟨kk, hkk⟩ : ∃ kk, Hid (keyN key = kk) := ⟨_, rfl⟩
  obtain ⟨own, hown⟩ : ∃ own, Hid (ownN key = own) := ⟨_, rfl⟩
  have hat1 : ∀ j (h : j < kk.length) (h' : j < own.length), own[j] = kk[j] := by
    rw [← hkk.out, ← hown.out]; exact fun j h h' => own_at_key h h'
  have hat0 : ∀ j (_ : ¬ j < kk.length) (h' : j < own.length), own[j] = 0 := by
    rw [← hkk.out, ← hown.out]; exact fun j h h' => own_at_zero h h'
  rw [hkk.out] at hK
  rw [hown.out] at hlo hol
  have HAT1 := Lib.hid hat1
  have HAT0 := Lib.hid hat0
  have HLO := Lib.hid hlo
  have HOL := Lib.hid hol
  clear hk hKl hKw hat1 hat0 hlo hol
  go_wp2_with fail
  go_loopw [5, 6, 7] (fun a b i wr => ∃ j ca cb : Nat, ∃ A B, j ≤ 64 ∧ i = .int .i64 j ∧ a = .slice A j ca ∧ b = .slice B j cb ∧ wr.ownsRow w1.heap.size 5 1 (.slice A j ca) j (ints .u8 (maskN 92 (own.take j))) ∧ wr.ownsRow w1.heap.size 5 1 (.slice B j cb) j (ints .u8 (maskN 54 (own.take j))) ∧ Two (.slice A j ca) (.slice B j cb) ∧ Below w1.heap.size w1 wr) (fun _ _ i _ => 64 - (intOf i).toNat)
  case atStart => exact ⟨0, 0, 0, none, none, by omega, rfl, rfl, rfl, ⟨by simp [ints, maskN], .inl ⟨rfl, rfl⟩⟩, ⟨by simp [ints, maskN], .inl ⟨rfl, rfl⟩⟩, fun g h => by simp [Value.ownBlock] at h, Below.refl _ _⟩
  case round =>
    obtain ⟨j, ca, cb, Aa, Bb, hj, rfl, rfl, rfl, hoa, hob, htwo, hbel⟩ := hrel
    by_cases hlt : j < 64
    · have hjo : j < own.length := by rw [HLO.out]; exact hlt
      have hx : own[j] < 256 := HOL.out _ (List.getElem_mem _)
      have hga := mask_grow 92 own j hjo _ rfl
      have hgb := mask_grow 54 own j hjo _ rfl
      have hlt2 : (j : Int) < 64 := by omega
      have hbs := hbel.size
      by_cases hin : j < 32
      · have hjk : j < kk.length := by rw [hK.len]; exact hin
        have hin2 : (j : Int) < (32 : Int) := by omega
        obtain ⟨ad, e0, hadlt, hcel⟩ := hK.cell j hjk
        rw [← HAT1.out j hjk hjo] at hcel
        cases e0
        have hcell := (hbel.cell (p := ad.add j) (by rw [block_add]; exact hadlt)).trans hcel
        clear hcel
        generalize own[j] = x at *
        have H92 : Hid ((#[Value.int .u8 (bits BinOp.xor IntKind.u8 (x : Int) 92)] : Array Value).toList = [Value.int .u8 ((x ^^^ 92 : Nat) : Int)]) := by show _ = _; rw [show bits BinOp.xor IntKind.u8 (x : Int) 92 = ((x ^^^ 92 : Nat) : Int) from u8_xor_nat x 92 hx (by decide)]
        have H54 : Hid ((#[Value.int .u8 (bits BinOp.xor IntKind.u8 (x : Int) 54)] : Array Value).toList = [Value.int .u8 ((x ^^^ 54 : Nat) : Int)]) := by show _ = _; rw [show bits BinOp.xor IntKind.u8 (x : Int) 54 = ((x ^^^ 54 : Nat) : Int) from u8_xor_nat x 54 hx (by decide)]
        have HGA := Lib.hid hga
        have HGB := Lib.hid hgb
        have HOA := Lib.hid hoa
        have HOB := Lib.hid hob
        have HTW := Lib.hid htwo
        clear hga hgb hoa hob htwo
        go_upto_region 11 with (at_builtin; refine wpList_append_own_at _ rfl (.tmp 26) (.tmp 29) 32 rfl w1.heap.size 5 i0 (.int .u8 0) 1 1 Tryd.underlying32 hi hz0 hz1 hz2 rfl (by decide) (.slice Aa j ca) j _ rfl (HOA.out.alloc _) ⟨wr.heap.size, 0, none⟩ 1 1 _ rfl rfl (cells_new _ _ _) (by simp [Value.oneCell']) (by unfold maxLen; omega) (by omega) (by simp; omega) ?_; intro v2 w2 hown2 hgrow2 hiff2 hat2)
        rw [H92.out, HGA.out] at hown2
        have hob2 := own_keep (HOB.out.alloc _) hgrow2 (fun g h1 h2 => HTW.out g h2 h1)
        have htw2 := HTW.out.step (HOB.out.alloc _) (Nat.le_refl _) hat2
        have hbel2 := (hbel.alloc hbel.size _).grown hgrow2 (by simp; omega) (own_base HOA.out)
        obtain ⟨A2, c2, rfl⟩ := own_form hown2
        have HOA2 := Lib.hid hown2
        have HOB2 := Lib.hid hob2
        have HTW2 := Lib.hid htw2
        have hbs2 := hbel2.size
        clear hown2 hgrow2 hiff2 hat2 hob2 htw2 HGA HOA HOB HTW
        go_wp2_with (at_builtin; refine wpList_append_own_at _ rfl (.tmp 31) (.tmp 34) 32 rfl w1.heap.size 5 i0 (.int .u8 0) 1 1 Tryd.underlying32 hi hz0 hz1 hz2 rfl (by decide) (.slice Bb j cb) j _ rfl (HOB2.out.alloc _) ⟨w2.heap.size, 0, none⟩ 1 1 _ rfl rfl (cells_new _ _ _) (by simp [Value.oneCell']) (by unfold maxLen; omega) (by omega) (by simp; omega) ?_; intro v3 w3 hown3 hgrow3 hiff3 hat3)
        rw [H54.out, HGB.out] at hown3
        have hoa3 := own_keep (HOA2.out.alloc _) hgrow3 (fun g h1 h2 => HTW2.out g h1 h2)
        have htw3 := (HTW2.out.symm.step (HOA2.out.alloc _) (Nat.le_refl _) hat3).symm
        have hbel3 := (hbel2.alloc hbel2.size _).grown hgrow3 (by simp; omega) (own_base HOB2.out)
        obtain ⟨A3, c3, rfl⟩ := own_form hown3
        go_roundw
        case rel => exact ⟨j + 1, c2, c3, A2, A3, by omega, by go_num, rfl, rfl, hoa3, hown3, htw3, hbel3⟩
        case measure => simp [intOf]; omega
      · have hjk : ¬ j < kk.length := by rw [hK.len]; exact hin
        have hin2 : ¬ (j : Int) < (32 : Int) := by omega
        rw [HAT0.out j hjk hjo] at hga hgb
        clear hx
        have H92 : Hid ((#[Value.int .u8 (bits BinOp.xor IntKind.u8 0 92)] : Array Value).toList = [Value.int .u8 ((0 ^^^ 92 : Nat) : Int)]) := by show _ = _; rw [show bits BinOp.xor IntKind.u8 0 92 = ((0 ^^^ 92 : Nat) : Int) from u8_xor_nat 0 92 (by decide) (by decide)]
        have H54 : Hid ((#[Value.int .u8 (bits BinOp.xor IntKind.u8 0 54)] : Array Value).toList = [Value.int .u8 ((0 ^^^ 54 : Nat) : Int)]) := by show _ = _; rw [show bits BinOp.xor IntKind.u8 0 54 = ((0 ^^^ 54 : Nat) : Int) from u8_xor_nat 0 54 (by decide) (by decide)]
        have HGA := Lib.hid hga
        have HGB := Lib.hid hgb
        have HOA := Lib.hid hoa
        have HOB := Lib.hid hob
        have HTW := Lib.hid htwo
        clear hga hgb hoa hob htwo
        go_upto_region 11 with (at_builtin; refine wpList_append_own_at _ rfl (.tmp 26) (.tmp 29) 32 rfl w1.heap.size 5 i0 (.int .u8 0) 1 1 Tryd.underlying32 hi hz0 hz1 hz2 rfl (by decide) (.slice Aa j ca) j _ rfl (HOA.out.alloc _) ⟨wr.heap.size, 0, none⟩ 1 1 _ rfl rfl (cells_new _ _ _) (by simp [Value.oneCell']) (by unfold maxLen; omega) (by omega) (by simp; omega) ?_; intro v2 w2 hown2 hgrow2 hiff2 hat2)
        rw [H92.out, HGA.out] at hown2
        have hob2 := own_keep (HOB.out.alloc _) hgrow2 (fun g h1 h2 => HTW.out g h2 h1)
        have htw2 := HTW.out.step (HOB.out.alloc _) (Nat.le_refl _) hat2
        have hbel2 := (hbel.alloc hbel.size _).grown hgrow2 (by simp; omega) (own_base HOA.out)
        obtain ⟨A2, c2, rfl⟩ := own_form hown2
        have HOA2 := Lib.hid hown2
        have HOB2 := Lib.hid hob2
        have HTW2 := Lib.hid htw2
        have hbs2 := hbel2.size
        clear hown2 hgrow2 hiff2 hat2 hob2 htw2 HGA HOA HOB HTW
        go_wp2_with (at_builtin; refine wpList_append_own_at _ rfl (.tmp 31) (.tmp 34) 32 rfl w1.heap.size 5 i0 (.int .u8 0) 1 1 Tryd.underlying32 hi hz0 hz1 hz2 rfl (by decide) (.slice Bb j cb) j _ rfl (HOB2.out.alloc _) ⟨w2.heap.size, 0, none⟩ 1 1 _ rfl rfl (cells_new _ _ _) (by simp [Value.oneCell']) (by unfold maxLen; omega) (by omega) (by simp; omega) ?_; intro v3 w3 hown3 hgrow3 hiff3 hat3)
        rw [H54.out, HGB.out] at hown3
        have hoa3 := own_keep (HOA2.out.alloc _) hgrow3 (fun g h1 h2 => HTW2.out g h1 h2)
        have htw3 := (HTW2.out.symm.step (HOA2.out.alloc _) (Nat.le_refl _) hat3).symm
        have hbel3 := (hbel2.alloc hbel2.size _).grown hgrow3 (by simp; omega) (own_base HOB2.out)
        obtain ⟨A3, c3, rfl⟩ := own_form hown3
        go_roundw
        case rel => exact ⟨j + 1, c2, c3, A2, A3, by omega, by go_num, rfl, rfl, hoa3, hown3, htw3, hbel3⟩
        case measure => simp [intOf]; omega
    · have hj64 : j = 64 := by omega
      subst hj64
      rw [List.take_of_length_le (Nat.le_of_eq HLO.out)] at hoa hob
      replace hoa := own_weaken hoa hbel0.size
      replace hob := own_weaken hob hbel0.size
      have hbw := hbel0.trans (hbel.mono hbel0.size)
      have hla : (maskN 92 own).length = 64 := by rw [length_maskN, HLO.out]
      have hlb : (maskN 54 own).length = 64 := by rw [length_maskN, HLO.out]
      have hwa : ∀ x ∈ maskN 92 own, x < 256 := maskN_lt (by decide) HOL.out
      have hwb : ∀ x ∈ maskN 54 own, x < 256 := maskN_lt (by decide) HOL.out
      have hfin : hmacN key msg = digestN (maskN 92 own ++ digestN (maskN 54 own ++ msg)) := by rw [hmacN, hown.out]
      generalize maskN 92 own = ma at *
      generalize maskN 54 own = mb at *
      have HLA := Lib.hid hla
      have HLB := Lib.hid hlb
      have HWA := Lib.hid hwa
      have HWB := Lib.hid hwb
      have HFIN := Lib.hid hfin
      have HOA := Lib.hid hoa
      have HOB := Lib.hid hob
      have HTW := Lib.hid htwo
      have HR := Lib.hid (hr.keep hbw)
      have HWM : Hid (∀ x ∈ mb ++ msg, x < 256) := by
        intro x hx
        rcases List.mem_append.1 hx with h | h
        · exact HWB.out x h
        · exact wf_u8.1 (hr.wf x h)
      clear hla hlb hwa hwb hfin hoa hob htwo hr hK hbel HAT1 HAT0 HLO HOL hown hkk
      have hbws := hbw.size
      go_wp2_with (at_builtin; refine wpList_app rfl (.tmp 37) (.tmp 38) 32 rfl w.heap.size 5 i0 (.int .u8 0) 1 Tryd.underlying32 hi hz0 hz1 hz2 rfl (.slice Bb 64 cb) 64 (ints .u8 mb) rfl HOB.out .u8 A n c msg rfl HR.out (by unfold maxLen; omega) (by omega) hbws ?_; intro v2 w2 hown2 hgrow2)
      rw [← ints_append] at hown2
      have hbw2 := hbw.grown hgrow2 hbws (own_base HOB.out)
      have hoa2 := own_keep HOA.out hgrow2 (fun g h1 h2 => HTW.out g h1 h2)
      obtain ⟨A2, c2, rfl, hr2⟩ := Reads.of_own hown2 (fun x hx => wf_u8.2 (HWM.out x hx))
      have HM2 : Hid (Mine w w2 5 (.slice Aa 64 ca) 64 (ints .u8 ma)) := ⟨hoa2, hbw2⟩
      have HR2 := Lib.hid hr2
      clear hown2 hgrow2 hoa2 hr2 HOA HOB HTW HR hbw hbws
      refine (refSum_c _ _ _ (mb ++ msg) _ HR2.out (by omega)).mono ?_
      rintro en w3 ⟨v3, rfl, hm3⟩
      obtain ⟨A3, c3, rfl, hr3⟩ := Reads.of_own hm3.1 (fun x hx => wf_u8.2 (digestN_lt256 _ x hx))
      have HM3 := Lib.hid (mine_below HM2.out hm3.2)
      have HR3 := Lib.hid hr3
      have hbw3 := HM3.out.2
      have hbs3 := hbw3.size
      have hld := length_digestN (mb ++ msg)
      have hlt := digestN_lt256 (mb ++ msg)
      generalize digestN (mb ++ msg) = dg at *
      have HWD : Hid (∀ x ∈ ma ++ dg, x < 256) := by
        intro x hx
        rcases List.mem_append.1 hx with h | h
        · exact HWA.out x h
        · exact hlt x h
      clear hm3 hr3 HM2 HR2 hbw2 hld hlt
      go_wp2_with (at_builtin; refine wpList_app rfl (.tmp 36) (.tmp 40) 32 rfl w.heap.size 5 i0 (.int .u8 0) 1 Tryd.underlying32 hi hz0 hz1 hz2 rfl (.slice Aa 64 ca) 64 (ints .u8 ma) rfl HM3.out.1 .u8 A3 32 c3 dg rfl HR3.out (by decide) (by decide) hbs3 ?_; intro v4 w4 hown4 hgrow4)
      rw [← ints_append] at hown4
      have hbw4 := hbw3.grown hgrow4 hbs3 (own_base HM3.out.1)
      obtain ⟨A4, c4, rfl, hr4⟩ := Reads.of_own hown4 (fun x hx => wf_u8.2 (HWD.out x hx))
      have HR4 := Lib.hid hr4
      clear hown4 hgrow4 hr4 HM3 HR3 hbw3 hbs3
      refine (refSum_c _ _ _ (ma ++ dg) _ HR4.out (by decide)).mono ?_
      rintro en w5 ⟨v5, rfl, hm5⟩
      obtain ⟨A5, c5, rfl⟩ := own_form hm5.1
      have HM5 := Lib.hid hm5
      clear hm5 HR4
      go_wp2
      go_ret
      rw [TagPost, HFIN.out]
      have hm := HM5.out
      exact ⟨_, rfl, ⟨hm.1.1, hm.1.2.imp id (fun ⟨g, cap, cur, e, h1, h2⟩ => ⟨g, cap, cur, e, Nat.le_trans hbw4.size h1, h2⟩)⟩, hbw4.trans (hm.2.mono hbw4.size)⟩
theorem refTag_c (K : Option Addr) (kn kc : Nat) (key : List Nat) (A : Option Addr) (n c : Nat) (msg : List Nat) (w : World) (hK : Reads .u8 w K kn kc key) (hr : Reads .u8 w A n c msg) (hb : n ≤ 1048576) (hkb : kn ≤ 1048576) :
    Calls Tryd.prog 15 #[.slice K kn kc, .slice A n c] w (RowPost w 5 32 (ints .u8 (hmacN key msg))) := by
  by_cases h : 64 < kn
  · exact refTag_big K kn kc key A n c msg w hK hr hb h hkb
  · exact refTag_small K kn kc key A n c msg w hK hr hb (by omega)
end Go.Proofs.YtjacfihpjolddaaDoor
