/- The walks of the statement HmacChecks: just the tag that a key and a message have is accepted, and equal rows of bytes are told from others. Conditions: key and message read as lists of bytes; the table of the rounds' constants lies as the program lays it. -/
import Derived.Test.YtbaahdhimolllaaDoorAwake3
import Derived.Test.YtbaahdhimolllaaDoorHmacR
namespace Go.Proofs.YtbaahdhimolllaaDoor.hmacChecks
open Go.ChangeShapes Go.WideShapes Go.RowKit
/-- A whole array out of memory, where the operation's guard, if it has one, lets it come up. -/
theorem wpList_load_w {P : Program} {ops : Array Oper} {rest : List Oper} {o : Oper} {a : Act} {w : World} {Q : Exit → Act → World → Prop} (hw : Region.wanted o (yielded ops a.tmps) = true) (ty : TypeId) (x : Operand) (ho : o.op = .load ty x) (ad : Addr) (hx : a.eval x = .pointer (some ad)) (cs : List Value) (d : TypeDesc)
    (hc : ∀ j u, cs[j]? = some u → w.cell? (ad.add j) = some u) (hu : P.underlying ty = some d) (hd : (match d with | .struct _ | .array _ _ => true | _ => false) = true) (hi : (P.info? ty).map (·.size) = some cs.length)
    (h : wpList P ops Q rest (a.put o.dst (.agg cs.toArray)) w) : wpList P ops Q (o :: rest) a w :=
  wpList_step fun K hK => by
    rw [if_pos hw]
    unfold Oper.wp execOp
    simp only [ho, hx, Instr.loadAt, Instr.sureAddr, Sem.run_bind, Sem.run_pure, Result.andThen_ok, run_loadVar_at w ad ty cs d hc hu hd hi]
    exact hK _ _ h
set_option maxHeartbeats 800000 in
theorem walk_big (K : Option Addr) (kn kc : Nat) (A : Option Addr) (n c : Nat) (tag : List Nat) (w : World) (hk : KT w) (hn : 200 < kn ∨ 200 < n) :
    Calls Tryd.prog 5 #[.slice K kn kc, .slice A n c, .agg (ints .u8 tag).toArray] w fun e w' => e = .returned (.bool true) ∧ Below w.heap.size w w' := by
  go_enter Tryd.func5, Tryd.ntmps5
  go_wp2_with fail
  refine (awake3_c _ (hk.below ((Below.refl _ _).alloc (Nat.le_refl _) _))).mono ?_
  rintro e w1 ⟨rfl, hb0⟩
  have hb : Below w.heap.size w w1 := ((Below.refl _ _).alloc (Nat.le_refl _) _).trans (hb0.mono (by simp))
  clear hb0 hk
  by_cases h1 : 200 < kn
  · have hd : decide ((200 : Int) < (kn : Int)) = true := by simp; omega
    go_wp2
    go_ret
    exact ⟨rfl, hb⟩
  · have hd : decide ((200 : Int) < (kn : Int)) = false := by simp; omega
    have hd2 : decide ((200 : Int) < (n : Int)) = true := by simp; omega
    go_wp2
    go_ret
    exact ⟨rfl, hb⟩
set_option maxRecDepth 100000 in
set_option maxHeartbeats 3200000 in
theorem walk_yes (K : Option Addr) (kn kc : Nat) (key : List Nat) (A : Option Addr) (n c : Nat) (msg : List Nat) (tag : List Nat) (w : World) (hk : KT w) (hK : Reads .u8 w K kn kc key) (hr : Reads .u8 w A n c msg) (htl : tag.length = 32) (htw : ∀ x ∈ tag, x < 256) (hkn : kn ≤ 200) (hn : n ≤ 200) (hyn : tag = hmacN key msg) :
    Calls Tryd.prog 5 #[.slice K kn kc, .slice A n c, .agg (ints .u8 tag).toArray] w fun e w' => e = .returned (.bool true) ∧ Below w.heap.size w w' := by
  have hd : decide ((200 : Int) < (kn : Int)) = false := by simp; omega
  have hd2 : decide ((200 : Int) < (n : Int)) = false := by simp; omega
  have HLM := Lib.hid hr.len
  have HFL : Hid ([msg].flatten = msg) := by show _ = _; simp
  obtain ⟨tg, htg⟩ : ∃ tg, Hid (hmacN key msg = tg) := ⟨_, rfl⟩
  rw [htg.out] at hyn
  have HYN := Lib.hid hyn
  have HTL := Lib.hid htl
  have HTW := Lib.hid htw
  have HGL : Hid (tg.length = 32) := by show _ = _; rw [← htg.out]; exact length_hmacN _ _
  have HGW : Hid (∀ x ∈ tg, x < 256) := by show ∀ x ∈ tg, x < 256; rw [← htg.out]; exact hmacN_lt _ _
  clear hyn htl htw
  go_enter Tryd.func5, Tryd.ntmps5
  go_wp2_with fail
  refine name_Calls (fun w1 => Blk w1 w.heap.size 26 (ints .u8 tag) ∧ Below w.heap.size w w1) ⟨Blk.new _ _ (ints .u8 tag), (Below.refl _ _).alloc (Nat.le_refl _) _⟩ ?_
  rintro w1 ⟨hb5, hbel1⟩
  refine (awake3_c _ (hk.below hbel1)).mono ?_
  rintro e w2 ⟨rfl, hb2⟩
  have hbw := hbel1.trans (hb2.mono hbel1.size)
  have HB5 := Lib.hid (hb5.below hb2 hb5.lt)
  have HKT := Lib.hid (hk.below hbw)
  have HK := Lib.hid (hK.keep hbw)
  have HR := Lib.hid (hr.keep hbw)
  have hsz : w.heap.size < w2.heap.size := (hb5.below hb2 hb5.lt).lt
  generalize hg5 : w.heap.size = g5 at *
  have HG5 := Lib.hid hg5
  clear hg5 hb5 hbel1 hb2 hk hK hr
  go_wp2_with fail
  refine (refTag_c _ kn kc key A n c msg _ HK.out HR.out (by omega) (by omega)).mono ?_
  rintro e w3 ⟨v3, rfl, hm3⟩
  rw [htg.out] at hm3
  obtain ⟨A3, c3, rfl, hr3⟩ := Reads.of_own hm3.1 (fun x hx => wf_u8.2 (HGW.out x hx))
  have hb23 := hm3.2
  have HR3 := Lib.hid hr3
  replace HB5 := Lib.hid (HB5.out.below hb23 HB5.out.lt)
  replace HKT := Lib.hid (HKT.out.below hb23)
  replace HK := Lib.hid (HK.out.keep hb23)
  replace HR := Lib.hid (HR.out.keep hb23)
  replace hbw := hbw.trans (hb23.mono (Nat.le_of_lt hsz))
  replace hsz := Nat.lt_of_lt_of_le hsz hb23.size
  clear hm3 hr3 hb23
  go_wp2_with ((with_reducible refine at_load 26 ?_); refine wpList_load_at rfl 26 (.tmp 5) rfl ⟨g5, 0, none⟩ rfl _ _ HB5.out.all Tryd.underlying26 rfl (by rw [length_ints, HTL.out]; kernel_rfl) ?_)
  refine (check_c _ kn kc key tag _ 1 1 [msg] 0 _ ?c1 HTL.out HTW.out ?c2 ?c3 (by omega) (by simp [HLM.out]; omega) (by show _ = _; rw [HFL.out, htg.out, if_pos HYN.out])).mono ?_
  case c1 => exact HK.out.keep ((Below.refl _ _).alloc (Nat.le_refl _) _)
  case c2 => exact readsAll_one HR.out
  case c3 => exact HKT.out.below ((Below.refl _ _).alloc (Nat.le_refl _) _)
  rintro e w4 ⟨rfl, hb4⟩
  have hb34 : Below w3.heap.size w3 w4 := ((Below.refl _ _).alloc (Nat.le_refl _) _).trans (hb4.mono (by simp))
  replace HR3 := Lib.hid (HR3.out.keep hb34)
  replace HB5 := Lib.hid (HB5.out.below hb34 HB5.out.lt)
  replace HKT := Lib.hid (HKT.out.below hb34)
  replace HK := Lib.hid (HK.out.keep hb34)
  replace HR := Lib.hid (HR.out.keep hb34)
  replace hbw := hbw.trans (hb34.mono (Nat.le_of_lt hsz))
  replace hsz := Nat.lt_of_lt_of_le hsz hb34.size
  clear hb4 hb34
  have HRT := Lib.hid (reads_blk HB5.out HTL.out (by decide) HTW.out)
  have HDS : Hid (decide (tg = tag) = true) := by show _ = _; exact decide_eq_true HYN.out.symm
  go_wp2_with fail
  refine (same_c _ _ _ _ _ _ tg tag _ HR3.out HRT.out).mono ?_
  rintro e w5 ⟨rfl, k5, hw5⟩
  rw [HDS.out]
  have hh5 : w5.heap = w4.heap := by rw [hw5]; rfl
  replace HR3 := Lib.hid (HR3.out.of_heap hh5)
  replace HRT := Lib.hid (HRT.out.of_heap hh5)
  replace HKT := Lib.hid (HKT.out.of_heap hh5)
  replace HK := Lib.hid (HK.out.of_heap hh5)
  replace HR := Lib.hid (HR.out.of_heap hh5)
  replace hbw : Below g5 w w5 := by rw [hw5]; exact belowDrewN hbw _
  replace hsz : g5 < w5.heap.size := by rw [hh5]; exact hsz
  clear hw5 hh5 HB5
  go_wp2_with fail
  refine (tag_c _ kn kc key _ 1 1 [msg] _ ?c1 ?c2 ?c3 (by omega) (by simp [HLM.out]; omega)).mono ?_
  case c1 => exact HK.out.keep ((Below.refl _ _).alloc (Nat.le_refl _) _)
  case c2 => exact readsAll_one HR.out
  case c3 => exact HKT.out.below ((Below.refl _ _).alloc (Nat.le_refl _) _)
  rintro e w6 ⟨rfl, hb6⟩
  rw [HFL.out, htg.out]
  have hb56 : Below w5.heap.size w5 w6 := ((Below.refl _ _).alloc (Nat.le_refl _) _).trans (hb6.mono (by simp))
  replace HR3 := Lib.hid (HR3.out.keep hb56)
  replace HRT := Lib.hid (HRT.out.keep hb56)
  replace HKT := Lib.hid (HKT.out.below hb56)
  replace HK := Lib.hid (HK.out.keep hb56)
  replace HR := Lib.hid (HR.out.keep hb56)
  replace hbw := hbw.trans (hb56.mono (Nat.le_of_lt hsz))
  replace hsz := Nat.lt_of_lt_of_le hsz hb56.size
  clear hb6 hb56
  go_upto_region 9 with ((with_reducible refine at_store 26 ?_); refine wpList_store_at rfl rfl 26 (.tmp 10) (.tmp 35) rfl w6.heap.size 0 rfl (ints .u8 tg) rfl zero32 _ (Blk.new _ _ zero32) (by rw [length_ints, HGL.out, length_zero32]; decide) (ints_oneCell _ _) (by rw [length_ints, HGL.out]; kernel_rfl) ?_; intro w7 hb7 hg7)
  rw [splice_all _ _ (by rw [length_ints, HGL.out, length_zero32])] at hb7
  have hb67 := below_of_only ((Below.refl w6.heap.size w6).alloc (Nat.le_refl _) _) hg7 (by simp) (Nat.le_refl _)
  replace HR3 := Lib.hid (HR3.out.keep hb67)
  replace HRT := Lib.hid (HRT.out.keep hb67)
  replace HKT := Lib.hid (HKT.out.below hb67)
  replace HK := Lib.hid (HK.out.keep hb67)
  replace HR := Lib.hid (HR.out.keep hb67)
  replace hbw := hbw.trans (hb67.mono (Nat.le_of_lt hsz))
  replace hsz := Nat.lt_of_lt_of_le hsz hb67.size
  generalize w6.heap.size = g10 at *
  have HB10 := Lib.hid hb7
  clear hb7 hg7 hb67
  obtain ⟨bs, hbs⟩ : ∃ bs : Bool, Hid (decide (key = msg) = bs) := ⟨_, rfl⟩
  have hbb : (bs == bs) = true := by simp
  go_wp2_with fail
  refine (hsame_c _ _ _ _ _ _ key msg _ HK.out HR.out).mono ?_
  rintro e w8 ⟨rfl, k8, hw8⟩
  rw [hbs.out]
  have hh8 : w8.heap = w7.heap := by rw [hw8]; rfl
  replace hbw : Below g5 w w8 := by rw [hw8]; exact belowDrewN hbw _
  replace HR3 := Lib.hid (HR3.out.of_heap hh8)
  replace HRT := Lib.hid (HRT.out.of_heap hh8)
  replace HKT := Lib.hid (HKT.out.of_heap hh8)
  replace HK := Lib.hid (HK.out.of_heap hh8)
  replace HR := Lib.hid (HR.out.of_heap hh8)
  replace HB10 := Lib.hid (HB10.out.of_heap hh8)
  replace hsz : g5 < w8.heap.size := by rw [hh8]; exact hsz
  clear hw8 hh8
  go_wp2_with fail
  refine (same_c _ _ _ _ _ _ key msg _ HK.out HR.out).mono ?_
  rintro e w9 ⟨rfl, k9, hw9⟩
  rw [hbs.out]
  have hh9 : w9.heap = w8.heap := by rw [hw9]; rfl
  replace hbw : Below g5 w w9 := by rw [hw9]; exact belowDrewN hbw _
  replace HR3 := Lib.hid (HR3.out.of_heap hh9)
  replace HRT := Lib.hid (HRT.out.of_heap hh9)
  replace HKT := Lib.hid (HKT.out.of_heap hh9)
  replace HK := Lib.hid (HK.out.of_heap hh9)
  replace HR := Lib.hid (HR.out.of_heap hh9)
  replace HB10 := Lib.hid (HB10.out.of_heap hh9)
  replace hsz : g5 < w9.heap.size := by rw [hh9]; exact hsz
  clear hw9 hh9
  go_wp2_with fail
  refine (hsame_c _ _ _ _ _ _ tg tag _ HR3.out HRT.out).mono ?_
  rintro e w10 ⟨rfl, k10, hw10⟩
  rw [HDS.out]
  have hh10 : w10.heap = w9.heap := by rw [hw10]; rfl
  replace hbw : Below g5 w w10 := by rw [hw10]; exact belowDrewN hbw _
  replace HKT := Lib.hid (HKT.out.of_heap hh10)
  replace HK := Lib.hid (HK.out.of_heap hh10)
  replace HR := Lib.hid (HR.out.of_heap hh10)
  replace HB10 := Lib.hid (HB10.out.of_heap hh10)
  replace hsz : g5 < w10.heap.size := by rw [hh10]; exact hsz
  clear hw10 hh10 HR3 HRT
  go_wp2_with ((with_reducible refine at_load 26 ?_); refine wpList_load_w (by rfl) 26 (.tmp 10) rfl ⟨g10, 0, none⟩ rfl _ _ HB10.out.all Tryd.underlying26 rfl (by rw [length_ints, HGL.out]; kernel_rfl) ?_)
  refine (check_c _ kn kc key tg _ 1 1 [msg] 0 _ ?c1 HGL.out HGW.out ?c2 ?c3 (by omega) (by simp [HLM.out]; omega) (by show _ = _; rw [HFL.out, htg.out, if_pos rfl])).mono ?_
  case c1 => exact HK.out.keep ((Below.refl _ _).alloc (Nat.le_refl _) _)
  case c2 => exact readsAll_one HR.out
  case c3 => exact HKT.out.below ((Below.refl _ _).alloc (Nat.le_refl _) _)
  rintro e w11 ⟨rfl, hb11⟩
  have hb1011 : Below w10.heap.size w10 w11 := ((Below.refl _ _).alloc (Nat.le_refl _) _).trans (hb11.mono (by simp))
  replace hbw := hbw.trans (hb1011.mono (Nat.le_of_lt hsz))
  clear hb11 hb1011 HB10 HKT HK HR
  go_wp2
  go_ret
  exact ⟨rfl, by rw [HG5.out]; exact hbw⟩
set_option maxRecDepth 100000 in
set_option maxHeartbeats 3200000 in
theorem walk_no (K : Option Addr) (kn kc : Nat) (key : List Nat) (A : Option Addr) (n c : Nat) (msg : List Nat) (tag : List Nat) (w : World) (hk : KT w) (hK : Reads .u8 w K kn kc key) (hr : Reads .u8 w A n c msg) (htl : tag.length = 32) (htw : ∀ x ∈ tag, x < 256) (hkn : kn ≤ 200) (hn : n ≤ 200) (hyn : ¬ tag = hmacN key msg) :
    Calls Tryd.prog 5 #[.slice K kn kc, .slice A n c, .agg (ints .u8 tag).toArray] w fun e w' => e = .returned (.bool true) ∧ Below w.heap.size w w' := by
  have hd : decide ((200 : Int) < (kn : Int)) = false := by simp; omega
  have hd2 : decide ((200 : Int) < (n : Int)) = false := by simp; omega
  have HLM := Lib.hid hr.len
  have HFL : Hid ([msg].flatten = msg) := by show _ = _; simp
  obtain ⟨tg, htg⟩ : ∃ tg, Hid (hmacN key msg = tg) := ⟨_, rfl⟩
  rw [htg.out] at hyn
  have HYN := Lib.hid hyn
  have HTL := Lib.hid htl
  have HTW := Lib.hid htw
  have HGL : Hid (tg.length = 32) := by show _ = _; rw [← htg.out]; exact length_hmacN _ _
  have HGW : Hid (∀ x ∈ tg, x < 256) := by show ∀ x ∈ tg, x < 256; rw [← htg.out]; exact hmacN_lt _ _
  clear hyn htl htw
  go_enter Tryd.func5, Tryd.ntmps5
  go_wp2_with fail
  refine name_Calls (fun w1 => Blk w1 w.heap.size 26 (ints .u8 tag) ∧ Below w.heap.size w w1) ⟨Blk.new _ _ (ints .u8 tag), (Below.refl _ _).alloc (Nat.le_refl _) _⟩ ?_
  rintro w1 ⟨hb5, hbel1⟩
  refine (awake3_c _ (hk.below hbel1)).mono ?_
  rintro e w2 ⟨rfl, hb2⟩
  have hbw := hbel1.trans (hb2.mono hbel1.size)
  have HB5 := Lib.hid (hb5.below hb2 hb5.lt)
  have HKT := Lib.hid (hk.below hbw)
  have HK := Lib.hid (hK.keep hbw)
  have HR := Lib.hid (hr.keep hbw)
  have hsz : w.heap.size < w2.heap.size := (hb5.below hb2 hb5.lt).lt
  generalize hg5 : w.heap.size = g5 at *
  have HG5 := Lib.hid hg5
  clear hg5 hb5 hbel1 hb2 hk hK hr
  go_wp2_with fail
  refine (refTag_c _ kn kc key A n c msg _ HK.out HR.out (by omega) (by omega)).mono ?_
  rintro e w3 ⟨v3, rfl, hm3⟩
  rw [htg.out] at hm3
  obtain ⟨A3, c3, rfl, hr3⟩ := Reads.of_own hm3.1 (fun x hx => wf_u8.2 (HGW.out x hx))
  have hb23 := hm3.2
  have HR3 := Lib.hid hr3
  replace HB5 := Lib.hid (HB5.out.below hb23 HB5.out.lt)
  replace HKT := Lib.hid (HKT.out.below hb23)
  replace HK := Lib.hid (HK.out.keep hb23)
  replace HR := Lib.hid (HR.out.keep hb23)
  replace hbw := hbw.trans (hb23.mono (Nat.le_of_lt hsz))
  replace hsz := Nat.lt_of_lt_of_le hsz hb23.size
  clear hm3 hr3 hb23
  go_wp2_with ((with_reducible refine at_load 26 ?_); refine wpList_load_at rfl 26 (.tmp 5) rfl ⟨g5, 0, none⟩ rfl _ _ HB5.out.all Tryd.underlying26 rfl (by rw [length_ints, HTL.out]; kernel_rfl) ?_)
  refine (check_c _ kn kc key tag _ 1 1 [msg] 8 _ ?c1 HTL.out HTW.out ?c2 ?c3 (by omega) (by simp [HLM.out]; omega) (by show _ = _; rw [HFL.out, htg.out, if_neg HYN.out])).mono ?_
  case c1 => exact HK.out.keep ((Below.refl _ _).alloc (Nat.le_refl _) _)
  case c2 => exact readsAll_one HR.out
  case c3 => exact HKT.out.below ((Below.refl _ _).alloc (Nat.le_refl _) _)
  rintro e w4 ⟨rfl, hb4⟩
  have hb34 : Below w3.heap.size w3 w4 := ((Below.refl _ _).alloc (Nat.le_refl _) _).trans (hb4.mono (by simp))
  replace HR3 := Lib.hid (HR3.out.keep hb34)
  replace HB5 := Lib.hid (HB5.out.below hb34 HB5.out.lt)
  replace HKT := Lib.hid (HKT.out.below hb34)
  replace HK := Lib.hid (HK.out.keep hb34)
  replace HR := Lib.hid (HR.out.keep hb34)
  replace hbw := hbw.trans (hb34.mono (Nat.le_of_lt hsz))
  replace hsz := Nat.lt_of_lt_of_le hsz hb34.size
  clear hb4 hb34
  have HRT := Lib.hid (reads_blk HB5.out HTL.out (by decide) HTW.out)
  have HDS : Hid (decide (tg = tag) = false) := by show _ = _; exact decide_eq_false (fun e => HYN.out e.symm)
  go_wp2_with fail
  refine (same_c _ _ _ _ _ _ tg tag _ HR3.out HRT.out).mono ?_
  rintro e w5 ⟨rfl, k5, hw5⟩
  rw [HDS.out]
  have hh5 : w5.heap = w4.heap := by rw [hw5]; rfl
  replace HR3 := Lib.hid (HR3.out.of_heap hh5)
  replace HRT := Lib.hid (HRT.out.of_heap hh5)
  replace HKT := Lib.hid (HKT.out.of_heap hh5)
  replace HK := Lib.hid (HK.out.of_heap hh5)
  replace HR := Lib.hid (HR.out.of_heap hh5)
  replace hbw : Below g5 w w5 := by rw [hw5]; exact belowDrewN hbw _
  replace hsz : g5 < w5.heap.size := by rw [hh5]; exact hsz
  clear hw5 hh5 HB5
  go_wp2_with fail
  refine (tag_c _ kn kc key _ 1 1 [msg] _ ?c1 ?c2 ?c3 (by omega) (by simp [HLM.out]; omega)).mono ?_
  case c1 => exact HK.out.keep ((Below.refl _ _).alloc (Nat.le_refl _) _)
  case c2 => exact readsAll_one HR.out
  case c3 => exact HKT.out.below ((Below.refl _ _).alloc (Nat.le_refl _) _)
  rintro e w6 ⟨rfl, hb6⟩
  rw [HFL.out, htg.out]
  have hb56 : Below w5.heap.size w5 w6 := ((Below.refl _ _).alloc (Nat.le_refl _) _).trans (hb6.mono (by simp))
  replace HR3 := Lib.hid (HR3.out.keep hb56)
  replace HRT := Lib.hid (HRT.out.keep hb56)
  replace HKT := Lib.hid (HKT.out.below hb56)
  replace HK := Lib.hid (HK.out.keep hb56)
  replace HR := Lib.hid (HR.out.keep hb56)
  replace hbw := hbw.trans (hb56.mono (Nat.le_of_lt hsz))
  replace hsz := Nat.lt_of_lt_of_le hsz hb56.size
  clear hb6 hb56
  go_upto_region 9 with ((with_reducible refine at_store 26 ?_); refine wpList_store_at rfl rfl 26 (.tmp 10) (.tmp 35) rfl w6.heap.size 0 rfl (ints .u8 tg) rfl zero32 _ (Blk.new _ _ zero32) (by rw [length_ints, HGL.out, length_zero32]; decide) (ints_oneCell _ _) (by rw [length_ints, HGL.out]; kernel_rfl) ?_; intro w7 hb7 hg7)
  rw [splice_all _ _ (by rw [length_ints, HGL.out, length_zero32])] at hb7
  have hb67 := below_of_only ((Below.refl w6.heap.size w6).alloc (Nat.le_refl _) _) hg7 (by simp) (Nat.le_refl _)
  replace HR3 := Lib.hid (HR3.out.keep hb67)
  replace HRT := Lib.hid (HRT.out.keep hb67)
  replace HKT := Lib.hid (HKT.out.below hb67)
  replace HK := Lib.hid (HK.out.keep hb67)
  replace HR := Lib.hid (HR.out.keep hb67)
  replace hbw := hbw.trans (hb67.mono (Nat.le_of_lt hsz))
  replace hsz := Nat.lt_of_lt_of_le hsz hb67.size
  generalize w6.heap.size = g10 at *
  have HB10 := Lib.hid hb7
  clear hb7 hg7 hb67
  obtain ⟨bs, hbs⟩ : ∃ bs : Bool, Hid (decide (key = msg) = bs) := ⟨_, rfl⟩
  have hbb : (bs == bs) = true := by simp
  go_wp2_with fail
  refine (hsame_c _ _ _ _ _ _ key msg _ HK.out HR.out).mono ?_
  rintro e w8 ⟨rfl, k8, hw8⟩
  rw [hbs.out]
  have hh8 : w8.heap = w7.heap := by rw [hw8]; rfl
  replace hbw : Below g5 w w8 := by rw [hw8]; exact belowDrewN hbw _
  replace HR3 := Lib.hid (HR3.out.of_heap hh8)
  replace HRT := Lib.hid (HRT.out.of_heap hh8)
  replace HKT := Lib.hid (HKT.out.of_heap hh8)
  replace HK := Lib.hid (HK.out.of_heap hh8)
  replace HR := Lib.hid (HR.out.of_heap hh8)
  replace HB10 := Lib.hid (HB10.out.of_heap hh8)
  replace hsz : g5 < w8.heap.size := by rw [hh8]; exact hsz
  clear hw8 hh8
  go_wp2_with fail
  refine (same_c _ _ _ _ _ _ key msg _ HK.out HR.out).mono ?_
  rintro e w9 ⟨rfl, k9, hw9⟩
  rw [hbs.out]
  have hh9 : w9.heap = w8.heap := by rw [hw9]; rfl
  replace hbw : Below g5 w w9 := by rw [hw9]; exact belowDrewN hbw _
  replace HR3 := Lib.hid (HR3.out.of_heap hh9)
  replace HRT := Lib.hid (HRT.out.of_heap hh9)
  replace HKT := Lib.hid (HKT.out.of_heap hh9)
  replace HK := Lib.hid (HK.out.of_heap hh9)
  replace HR := Lib.hid (HR.out.of_heap hh9)
  replace HB10 := Lib.hid (HB10.out.of_heap hh9)
  replace hsz : g5 < w9.heap.size := by rw [hh9]; exact hsz
  clear hw9 hh9
  go_wp2_with fail
  refine (hsame_c _ _ _ _ _ _ tg tag _ HR3.out HRT.out).mono ?_
  rintro e w10 ⟨rfl, k10, hw10⟩
  rw [HDS.out]
  have hh10 : w10.heap = w9.heap := by rw [hw10]; rfl
  replace hbw : Below g5 w w10 := by rw [hw10]; exact belowDrewN hbw _
  replace HKT := Lib.hid (HKT.out.of_heap hh10)
  replace HK := Lib.hid (HK.out.of_heap hh10)
  replace HR := Lib.hid (HR.out.of_heap hh10)
  replace HB10 := Lib.hid (HB10.out.of_heap hh10)
  replace hsz : g5 < w10.heap.size := by rw [hh10]; exact hsz
  clear hw10 hh10 HR3 HRT
  go_wp2_with ((with_reducible refine at_load 26 ?_); refine wpList_load_w (by rfl) 26 (.tmp 10) rfl ⟨g10, 0, none⟩ rfl _ _ HB10.out.all Tryd.underlying26 rfl (by rw [length_ints, HGL.out]; kernel_rfl) ?_)
  refine (check_c _ kn kc key tg _ 1 1 [msg] 0 _ ?c1 HGL.out HGW.out ?c2 ?c3 (by omega) (by simp [HLM.out]; omega) (by show _ = _; rw [HFL.out, htg.out, if_pos rfl])).mono ?_
  case c1 => exact HK.out.keep ((Below.refl _ _).alloc (Nat.le_refl _) _)
  case c2 => exact readsAll_one HR.out
  case c3 => exact HKT.out.below ((Below.refl _ _).alloc (Nat.le_refl _) _)
  rintro e w11 ⟨rfl, hb11⟩
  have hb1011 : Below w10.heap.size w10 w11 := ((Below.refl _ _).alloc (Nat.le_refl _) _).trans (hb11.mono (by simp))
  replace hbw := hbw.trans (hb1011.mono (Nat.le_of_lt hsz))
  clear hb11 hb1011 HB10 HKT HK HR
  go_wp2
  go_ret
  exact ⟨rfl, by rw [HG5.out]; exact hbw⟩
theorem walk (k : Option Addr) (kn kc : Nat) (key : List Nat) (a : Option Addr) (n c : Nat) (msg : List Nat) (tag : List Nat) (w : World) (hK : Reads .u8 w k kn kc key) (hr : Reads .u8 w a n c msg) (hl : tag.length = 32) (hw : ∀ x ∈ tag, (Lit.int .u8 (x : Int)).wf = true) (kt : KT w) :
    Calls Tryd.prog 5 #[.slice k kn kc, .slice a n c, .agg (ints .u8 tag).toArray] w fun e w' => e = .returned (.bool true) ∧ Below w.heap.size w w' := by
  have htw : ∀ x ∈ tag, x < 256 := fun x hx => wf_u8.1 (hw x hx)
  by_cases hbig : 200 < kn ∨ 200 < n
  · exact walk_big k kn kc a n c tag w kt hbig
  · by_cases h : tag = hmacN key msg
    · exact walk_yes k kn kc key a n c msg tag w kt hK hr hl htw (by omega) (by omega) h
    · exact walk_no k kn kc key a n c msg tag w kt hK hr hl htw (by omega) (by omega) h
end Go.Proofs.YtbaahdhimolllaaDoor.hmacChecks
