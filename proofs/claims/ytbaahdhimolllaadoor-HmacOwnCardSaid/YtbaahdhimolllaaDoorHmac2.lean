/- What the functions digest, Sum and Check of package hmac return, for every argument, as a walk through the translated text. Conditions: the bytes read as lists, the parts as a list of lists; the table of the rounds' constants lies as the program lays it. -/
import Derived.Test.YtbaahdhimolllaaDoorHmac1
import Derived.Deep.RegionHeld3
namespace Go.Proofs.YtbaahdhimolllaaDoor
open Go.ChangeShapes Go.WideShapes Go.RowKit

theorem ReadsAll.keep {k : IntKind} {w w' : World} {A : Option Addr} {n c : Nat} {ls : List (List Nat)} (h : ReadsAll k w A n c ls) (hb : Below w.heap.size w w') : ReadsAll k w' A n c ls :=
  ⟨h.len, h.room, h.cap, fun i hi => by
    obtain ⟨ad, R, m, cr, e, hlt, hc, hr⟩ := h.row i hi
    exact ⟨ad, R, m, cr, e, Nat.lt_of_lt_of_le hlt hb.size, (hb.cell (by rw [block_add]; exact hlt)).trans hc, hr.keep hb⟩⟩
theorem ReadsAll.of_heap {k : IntKind} {w w' : World} {A : Option Addr} {n c : Nat} {ls : List (List Nat)} (h : ReadsAll k w A n c ls) (e : w'.heap = w.heap) : ReadsAll k w' A n c ls :=
  ⟨h.len, h.room, h.cap, fun i hi => by
    obtain ⟨ad, R, m, cr, e', hlt, hc, hr⟩ := h.row i hi
    exact ⟨ad, R, m, cr, e', by rw [e]; exact hlt, by rw [← hc]; exact World.cell?_of_block (by rw [e]), hr.of_heap e⟩⟩
theorem flat_succ' (ls : List (List Nat)) (j : Nat) (h : j < ls.length) : (ls.take (j + 1)).flatten = (ls.take j).flatten ++ ls[j] := by
  rw [List.take_succ_eq_append_getElem h, List.flatten_append, List.flatten_cons, List.flatten_nil, List.append_nil]
theorem flat_take_le (ls : List (List Nat)) (j : Nat) : (ls.take j).flatten.length ≤ ls.flatten.length := by
  have h : ls.flatten = (ls.take j).flatten ++ (ls.drop j).flatten := by rw [← List.flatten_append, List.take_append_drop]
  rw [h, List.length_append]; omega
/-- own while its bytes are being combined with m: j are done. -/
def maskTo (m : Nat) (own : List Nat) (j : Nat) : List Nat := maskN m (own.take j) ++ own.drop j
theorem maskTo_zero (m : Nat) (own : List Nat) : maskTo m own 0 = own := by simp [maskTo, maskN]
theorem maskTo_end (m : Nat) (own : List Nat) (n : Nat) (h : own.length = n) : maskTo m own n = maskN m own := by
  rw [maskTo, List.drop_eq_nil_of_le (by omega), List.append_nil, List.take_of_length_le (by omega)]
theorem maskTo_at (m : Nat) (own : List Nat) (j : Nat) (h : j < own.length) : (ints .u8 (maskTo m own j))[j]? = some (.int .u8 (own[j] : Int)) := by
  rw [maskTo, ints_append, List.getElem?_append_right (by rw [length_ints, length_maskN, List.length_take]; omega), length_ints, length_maskN, List.length_take, Nat.min_eq_left (by omega), Nat.sub_self]
  simp [ints, h]
theorem maskTo_set (m : Nat) (own : List Nat) (j : Nat) (h : j < own.length) : (ints .u8 (maskTo m own j)).set j (.int .u8 ((own[j] ^^^ m : Nat) : Int)) = ints .u8 (maskTo m own (j + 1)) := by
  rw [ints_set]
  congr 1
  rw [maskTo, maskTo, List.set_append_right _ _ (by rw [length_maskN, List.length_take]; omega), length_maskN, List.length_take, Nat.min_eq_left (by omega), Nat.sub_self, List.drop_eq_getElem_cons h, List.take_succ_eq_append_getElem h, List.set_cons_zero, maskN, maskN, List.map_append, List.append_assoc]
  rfl
set_option maxRecDepth 100000 in
set_option maxHeartbeats 1600000 in
theorem digest_c (own : List Nat) (m : Nat) (A : Option Addr) (n c : Nat) (ls : List (List Nat)) (w : World) (hl : own.length = 64) (ho : ∀ x ∈ own, x < 256) (hm : m < 256) (hr : ReadsAll .u8 w A n c ls) (hk : KT w) (hb : ls.flatten.length ≤ 274877906944) :
    Calls Tryd.prog 14 #[.agg (ints .u8 own).toArray, .int .u8 (m : Int), .slice A n c] w fun en w' => en = .returned (.agg (ints .u8 (digestN (maskN m own ++ ls.flatten))).toArray) ∧ Below w.heap.size w w' := by
  have hkl := hk.lt
  have HLL := Lib.hid hr.len
  have hnm : n ≤ 9223372036854775807 := by have := hr.room; have := hr.cap; unfold maxLen at this; omega
  have HKT := Lib.hid hk
  have HL := Lib.hid hl
  have HO := Lib.hid ho
  clear hl hk ho
  obtain ⟨mk, hmk⟩ : ∃ mk, Hid (maskN m own = mk) := ⟨_, rfl⟩
  obtain ⟨M, hM⟩ : ∃ M, Hid (mk ++ ls.flatten = M) := ⟨_, rfl⟩
  rw [hmk.out, hM.out]
  go_enter Tryd.func14, Tryd.ntmps14
  go_upto_region 1 with (fail)
  refine name_wp (fun w1 => Blk w1 w.heap.size 31 (ints .u8 (maskTo m own 0)) ∧ Blk w1 (w.heap.size + 1) 26 zero32 ∧ Below w.heap.size w w1) ⟨?_, ?_, ((Below.refl _ _).alloc (Nat.le_refl _) _).alloc (by simp) _⟩ ?_
  · rw [maskTo_zero]
    exact (Blk.new _ _ (ints .u8 own)).alloc _
  · have := Blk.new (w.alloc (.cells (ints .u8 own).toArray 31)) 26 zero32
    rw [World.size_alloc] at this
    exact this
  rintro w1 ⟨hb3, hb6, hbel1⟩
  have HB3 := Lib.hid hb3
  have HB6 := Lib.hid hb6
  clear hb3 hb6
  go_wp2_with fail
  go_loopw [11] (fun i wr => ∃ j : Nat, j ≤ 64 ∧ i = .int .i64 j ∧ Blk wr w.heap.size 31 (ints .u8 (maskTo m own j)) ∧ Blk wr (w.heap.size + 1) 26 zero32 ∧ Below w.heap.size w wr) (fun i _ => 64 - (intOf i).toNat)
  case atStart => exact ⟨0, Nat.zero_le _, rfl, HB3.out, HB6.out, hbel1⟩
  case round =>
    clear HB3 HB6 hbel1
    obtain ⟨j, hj, rfl, hb3, hb6, hbel⟩ := hrel
    by_cases hlt : j < 64
    · have hjo : j < own.length := by rw [HL.out]; exact hlt
      have c3 := (hb3.cell j).trans (maskTo_at m own j hjo)
      have f3 := hb3.frozen j
      have hset := maskTo_set m own j hjo
      have hx : own[j] < 256 := HO.out _ (List.getElem_mem _)
      generalize own[j] = x at *
      have hxm := u8_xor_nat x m hx hm
      have HX := Lib.hid hxm
      have HSET := Lib.hid hset
      have HB3 := Lib.hid hb3
      have HB6 := Lib.hid hb6
      clear hb3 hb6 hset hxm
      have hlt2 : (j : Int) < 64 := by omega
      go_wp2
      go_roundw
      case rel =>
        refine ⟨j + 1, by omega, by go_num, ?_, ?_, ?_⟩
        · rw [← HSET.out, HX.out]
          exact HB3.out.set_ _ _
        · exact HB6.out.far (by simp) _
        · exact hbel.setCell (Nat.le_refl _) _
      case measure => simp [intOf]; omega
    · have hj64 : j = 64 := by omega
      subst hj64
      rw [maskTo_end m own 64 HL.out, hmk.out] at hb3
      have hlm : mk.length = 64 := by rw [← hmk.out, length_maskN, HL.out]
      have hltm : ∀ x ∈ mk, x < 256 := by rw [← hmk.out]; exact maskN_lt hm HO.out
      have HLM := Lib.hid hlm
      have hrm := reads_blk hb3 hlm (by decide) hltm
      clear hlm hltm
      have hs2 : w.heap.size + 1 < wr.heap.size := hb6.lt
      go_wp2_with fail
      refine (new_c _).mono ?_
      rintro en w2 ⟨g, rfl, hgs, hh2, hbel2⟩
      have hrm2 := hrm.keep hbel2
      have HB6 := Lib.hid (hb6.below hbel2 hb6.lt)
      have hbw2 := hbel.trans (hbel2.mono hbel.size)
      have hgw : w.heap.size + 1 < g := by omega
      generalize wr = wo at *
      clear hrm hb6 hbel2 hb3 hbel hs2 hgs
      go_wp2_with fail
      refine (write_c g _ _ _ [] mk _ hh2 hrm2 (fun _ ad e => by cases e; simp; omega) (HKT.out.below hbw2) (by omega) (by simp)).mono ?_
      rintro en w3 ⟨⟨v, rfl⟩, hh3, hg3⟩
      rw [List.nil_append] at hh3
      have hbel3 := below_of_only hbw2 hg3 hbw2.size (by omega)
      have HB6' := Lib.hid (HB6.out.grown hg3 (by simp; omega))
      have HH3 : Hid (HashAt w3 g (mk ++ (ls.take 0).flatten)) := by show HashAt _ _ _; simpa using hh3
      clear hh3 hg3 HB6 hbw2 hh2 hrm2
      go_wp2_with fail
      go_loopw [27] (fun i wr => ∃ j : Nat, j ≤ n ∧ i = .int .i64 j ∧ HashAt wr g (mk ++ (ls.take j).flatten) ∧ Blk wr (w.heap.size + 1) 26 zero32 ∧ Below w.heap.size w wr) (fun i _ => n - (intOf i).toNat)
      case atStart => exact ⟨0, Nat.zero_le _, rfl, HH3.out, HB6'.out, hbel3⟩
      case round =>
        clear HH3 HB6' hbel3
        obtain ⟨j, hj, rfl, hh, hb6, hbel⟩ := hrel
        by_cases hlt : j < n
        · have hjl : j < ls.length := by rw [HLL.out]; exact hlt
          obtain ⟨ad, R, m', cr, rfl, hadlt, hcell, hrow⟩ := hr.row j hjl
          have hcellr := (hbel.cell (p := ad.add j) (by rw [block_add]; exact hadlt)).trans hcell
          have hlt2 : (j : Int) < (n : Int) := by omega
          have hfl := flat_succ' ls j hjl
          have hle := flat_take_le ls (j + 1)
          rw [hfl, List.length_append] at hle
          have hoff : 0 < m' → Off R g := by
            intro h0 ad' e
            obtain ⟨ad2, e2, hl2, _⟩ := hrow.cell 0 (by rw [hrow.len]; exact h0)
            rw [e2] at e; cases e
            omega
          have hrl := hrow.len
          generalize (ls.take j).flatten = msg at *
          generalize ls[j] = l at *
          have HFL := Lib.hid hfl
          have HH := Lib.hid hh
          have HROW := Lib.hid hrow
          have HRL := Lib.hid hrl
          have HLE := Lib.hid hle
          have HB6 := Lib.hid hb6
          clear hfl hh hrow hrl hle hcell hb6
          go_wp2_with fail
          refine (write_c g R m' cr (mk ++ msg) l _ HH.out (HROW.out.keep hbel) hoff (HKT.out.below hbel) (by omega) (by have h1 := HLE.out; have h2 := HRL.out; have h3 := HLM.out; rw [List.length_append]; omega)).mono ?_
          rintro e w4 ⟨⟨v, rfl⟩, hh4, hg4⟩
          rw [List.append_assoc, ← HFL.out] at hh4
          have hbel4 := below_of_only hbel hg4 hbel.size (by omega)
          have HB6' := Lib.hid (HB6.out.grown hg4 (by simp; omega))
          have HH4 := Lib.hid hh4
          clear hh4 hg4 hbel HB6 HH HROW
          go_wp2
          go_roundw
          case rel => exact ⟨j + 1, by omega, by go_num, HH4.out, HB6'.out, hbel4⟩
          case measure => simp [intOf]; omega
        · have hjn : j = n := by omega
          have hfl : (ls.take j).flatten = ls.flatten := by rw [List.take_of_length_le (by rw [HLL.out]; omega)]
          rw [hfl, hM.out] at hh
          have hlen : M.length ≤ 549755813888 := by rw [← hM.out, List.length_append, HLM.out]; omega
          have HLEN := Lib.hid hlen
          have HB6 := Lib.hid hb6
          have HH := Lib.hid hh
          clear hlen hb6 hh hfl
          go_wp2_with fail
          refine (hsum_c g M _ HH.out (HKT.out.below hbel) HLEN.out).mono ?_
          rintro en w5 ⟨rfl, hbel5⟩
          have HB7 := Lib.hid (HB6.out.below hbel5 HB6.out.lt)
          have hbel6 := hbel.trans (hbel5.mono hbel.size)
          have hld := length_digestN M
          clear HB6 hbel hbel5 HH
          go_wp2_with ((with_reducible refine at_store 26 ?_); refine wpList_store_at rfl rfl 26 (.tmp 6) (.tmp 36) rfl (w.heap.size + 1) 0 rfl _ rfl _ _ HB7.out (by rw [length_ints, length_digestN, length_zero32]; decide) (ints_oneCell _ _) (by rw [length_ints, length_digestN]; kernel_rfl) ?_; intro w9 hb9 hg9)
          have hbel9 := below_of_only hbel6 hg9 hbel6.size (by omega)
          rw [splice_all _ _ (by rw [length_ints, length_digestN, length_zero32])] at hb9
          refine bodyPost_ret (v := .agg (ints .u8 (digestN M)).toArray) ?_ rfl ⟨rfl, hbel9⟩
          exact results_cell_row rfl _ _ (w.heap.size + 1) _ _ _ _ rfl hb9 Tryd.underlying26 rfl (by rw [List.size_toArray, length_ints, length_digestN]; kernel_rfl)

/-! ### Whole arrays beside other operations of a region that draws: the load and the store as equations -/
theorem load_eq {P : Program} {W : World} {ty : TypeId} {ad : Addr} {cs : List Value} {d : TypeDesc} (hc : ∀ j u, cs[j]? = some u → W.cell? (ad.add j) = some u) (hu : P.underlying ty = some d) (hd : (match d with | .struct _ | .array _ _ => true | _ => false) = true) (hi : (P.info? ty).map (·.size) = some cs.length) :
    (Instr.loadAt ty (.pointer (some ad))).run P W = .ok (.agg cs.toArray) W := by
  simp only [Instr.loadAt, Instr.sureAddr, Sem.run_bind, Sem.run_pure, Result.andThen_ok, run_loadVar_at W ad ty cs d hc hu hd hi]
theorem store_eq {P : Program} {W : World} {g : Nat} {t ty : TypeId} {cur cs : List Value} (hg : Blk W g t cur) (hl : cs.length = cur.length) (h1 : ∀ v ∈ cs, v.oneCell' = true) (hi : (P.info? ty).map (·.size) = some cs.length) :
    ∃ W', (Instr.storeAt ty (.pointer (some ⟨g, 0, none⟩)) (.agg cs.toArray)).run P W = .ok () W' ∧ Blk W' g t cs ∧ W.grownBy W' (some g) := by
  refine ⟨_, ?_, ?_, only_setRow (World.grownBy.refl W _) (splice cur 0 cs).toArray⟩
  · simp only [Instr.storeAt, Instr.sureAddr, Sem.run_bind, Sem.run_pure, Result.andThen_ok, run_storeVar_at W g 0 ty t cur cs hg (by omega) h1 hi]
  · have := hg.splice_ (off := 0) cs
    rw [splice_all _ _ hl] at this ⊢
    exact this
theorem yieldsIf_load_at {P : Program} {ops : Array Oper} {S : World → Prop} {op : Oper} {a : Act} (hg : op.guard = none) (ty : TypeId) (x : Operand) (ho : op.op = .load ty x)
    (ad : Addr) (hx : a.eval x = .pointer (some ad)) (cs : List Value) (d : TypeDesc) (hS : ∀ w, S w → ∀ j u, cs[j]? = some u → w.cell? (ad.add j) = some u)
    (hu : P.underlying ty = some d) (hd : (match d with | .struct _ | .array _ _ => true | _ => false) = true) (hi : (P.info? ty).map (·.size) = some cs.length) : YieldsIf P ops S op (.agg cs.toArray) a :=
  .inl ⟨by simp [Region.wanted, hg], fun w hw' => by
    unfold execOp
    simp only [ho, hx, load_eq (hS w hw') hu hd hi, Sem.run_bind, Sem.run_pure, Result.andThen_ok]⟩
/-- A whole array into a block that is known whole, as one step of a region that draws. -/
theorem step_store_blk {P : Program} {ops : Array Oper} {o : Oper} {a : Act} {w : World} {K : Act → World → Prop} {Q : Exit → Act → World → Prop} {E : Prop} (hgd : o.guard = none) (hdst : o.dst = none) (ty : TypeId) (p x : Operand) (ho : o.op = .store ty p x)
    (g : Nat) (hp : a.eval p = .pointer (some ⟨g, 0, none⟩)) (cs : List Value) (hx : a.eval x = .agg cs.toArray) (cur : List Value) (t : TypeId) (hg : Blk w g t cur) (hl : cs.length = cur.length) (h1 : ∀ v ∈ cs, v.oneCell' = true) (hi : (P.info? ty).map (·.size) = some cs.length)
    (h : ∀ w', Blk w' g t cs → w.grownBy w' (some g) → K a w') : if Region.wanted o (yielded ops a.tmps) = true then Oper.wp P o a w K Q else E := by
  have hw : Region.wanted o (yielded ops a.tmps) = true := by simp [Region.wanted, hgd]
  rw [if_pos hw]
  obtain ⟨W', e, hb, hgr⟩ := store_eq (P := P) (ty := ty) hg hl h1 hi
  have := h W' hb hgr
  unfold Oper.wp execOp
  simp only [ho, hx, hp, e, Sem.run_bind, Sem.run_pure, Result.andThen_ok, Oper.upon_skip, hdst]
  exact this
/-- One row in a list of rows that has just been made. -/
theorem readsAll_one {w : World} {A : Option Addr} {n c : Nat} {l : List Nat} {t : TypeId} (h : Reads .u8 w A n c l) : ReadsAll .u8 (w.alloc (.cells #[.slice A n c] t)) (some ⟨w.heap.size, 0, none⟩) 1 1 [l] := by
  refine ⟨rfl, Nat.le_refl _, by decide, fun i hi => ?_⟩
  have hi0 : i = 0 := by simpa using hi
  subst hi0
  exact ⟨_, A, n, c, rfl, by simp, cells_new _ _ _ 0 _ rfl, h.keep ((Below.refl _ _).alloc (Nat.le_refl _) _)⟩

set_option maxRecDepth 100000 in
set_option maxHeartbeats 1600000 in
theorem tag_c (K : Option Addr) (kn kc : Nat) (key : List Nat) (A : Option Addr) (n c : Nat) (ls : List (List Nat)) (w : World) (hK : Reads .u8 w K kn kc key) (hr : ReadsAll .u8 w A n c ls) (hk : KT w) (hkb : kn ≤ 274877906944) (hb : ls.flatten.length ≤ 274877906944) :
    Calls Tryd.prog 7 #[.slice K kn kc, .slice A n c] w fun en w' => en = .returned (.agg (ints .u8 (hmacN key ls.flatten)).toArray) ∧ Below w.heap.size w w' := by
  have hlo := length_ownN key
  have hol := ownN_lt (l := key) (fun x hx => wf_u8.1 (hK.wf x hx))
  have HOC : Hid (∀ W : World, Reads .u8 W K kn kc key → KT W → kn ≤ 549755813888 → Calls Tryd.prog 10 #[.slice K kn kc] W fun en w' => en = .returned (.agg (ints .u8 (ownN key)).toArray) ∧ Below W.heap.size W w') := fun W h1 h2 h3 => own_c K kn kc key W h1 h2 h3
  rw [show hmacN key ls.flatten = digestN (maskN 92 (ownN key) ++ [digestN (maskN 54 (ownN key) ++ ls.flatten)].flatten) by simp [hmacN]]
  generalize ownN key = own at *
  have hld := length_digestN (maskN 54 own ++ ls.flatten)
  have hlt := digestN_lt256 (maskN 54 own ++ ls.flatten)
  obtain ⟨dg, hdg⟩ : ∃ dg, Hid (digestN (maskN 54 own ++ ls.flatten) = dg) := ⟨_, rfl⟩
  rw [hdg.out] at hld hlt ⊢
  have HLD := Lib.hid hld
  have HLT := Lib.hid hlt
  have HLO := Lib.hid hlo
  have HOL := Lib.hid hol
  clear hld hlt hlo hol
  have HK := Lib.hid hK
  have HR := Lib.hid hr
  have HKT := Lib.hid hk
  clear hK hr hk
  go_enter Tryd.func7, Tryd.ntmps7
  go_wp2_with fail
  refine name_Calls (fun w1 => Blk w1 w.heap.size 26 zero32 ∧ Below w.heap.size w w1) ⟨Blk.new _ _ zero32, (Below.refl _ _).alloc (Nat.le_refl _) _⟩ ?_
  rintro w1 ⟨hb4, hbel1⟩
  refine (HOC.out _ (HK.out.keep hbel1) (HKT.out.below hbel1) (by omega)).mono ?_
  rintro en w2 ⟨rfl, hbel2⟩
  have HB4 := Lib.hid (hb4.below hbel2 hb4.lt)
  have hbw2 := hbel1.trans (hbel2.mono hbel1.size)
  have hs2 : w.heap.size < w2.heap.size := (hb4.below hbel2 hb4.lt).lt
  clear hb4 hbel1 hbel2 HOC
  go_upto_region 2 with ((with_reducible refine at_store 31 ?_); refine wpList_store_at rfl rfl 31 (.tmp 5) (.tmp 8) rfl w2.heap.size 0 rfl (ints .u8 own) rfl zeroB64 _ (Blk.new _ _ zeroB64) (by rw [length_ints, HLO.out, length_zeroB64]; decide) (ints_oneCell _ _) (by rw [length_ints, HLO.out]; kernel_rfl) ?_; intro w3 hb5 hg5)
  rw [splice_all _ _ (by rw [length_ints, HLO.out, length_zeroB64])] at hb5
  have hbw3 := below_of_only (hbw2.alloc hbw2.size _) hg5 (by simp; omega) (by omega)
  have HB4' := Lib.hid ((HB4.out.alloc _).grown hg5 (by simp; omega))
  have HB5 := Lib.hid hb5
  have hs3 : w2.heap.size < w3.heap.size := hb5.lt
  generalize w2.heap.size = g5 at *
  clear hb5 hg5 HB4 hbw2
  refine wp_region_lit ?_
  refine wpList_load_at rfl 31 (.tmp 5) rfl ⟨g5, 0, none⟩ rfl _ _ HB5.out.all Tryd.underlying31 rfl (by rw [length_ints, HLO.out]; kernel_rfl) ?_
  go_wp2_with fail
  refine (digest_c own 54 A n c ls _ HLO.out HOL.out (by decide) (HR.out.keep hbw3) (HKT.out.below hbw3) hb).mono ?_
  rintro en w4 ⟨rfl, hbel4⟩
  have HB4 := Lib.hid (HB4'.out.below hbel4 HB4'.out.lt)
  have HB5' := Lib.hid (HB5.out.below hbel4 HB5.out.lt)
  have hbw4 := hbw3.trans (hbel4.mono hbw3.size)
  have hs4 : g5 < w4.heap.size := (HB5.out.below hbel4 HB5.out.lt).lt
  rw [hdg.out]
  clear HB4' HB5 hbw3 hbel4 hs3
  go_upto_region 3 with ((with_reducible refine at_store 26 ?_); refine wpList_store_at rfl rfl 26 (.tmp 6) (.tmp 11) rfl w4.heap.size 0 rfl (ints .u8 dg) rfl zero32 _ (Blk.new _ _ zero32) (by rw [length_ints, HLD.out, length_zero32]; decide) (ints_oneCell _ _) (by rw [length_ints, HLD.out]; kernel_rfl) ?_; intro w5 hb6 hg6)
  rw [splice_all _ _ (by rw [length_ints, HLD.out, length_zero32])] at hb6
  have hbw5 := below_of_only (hbw4.alloc hbw4.size _) hg6 (by simp; omega) (by omega)
  have HB7 := Lib.hid ((HB4.out.alloc _).grown hg6 (by simp; omega))
  have HB8 := Lib.hid ((HB5'.out.alloc _).grown hg6 (by simp; omega))
  have HR6 := Lib.hid (reads_blk hb6 HLD.out (by decide) HLT.out)
  have hs5 : w4.heap.size < w5.heap.size := hb6.lt
  generalize w4.heap.size = g6 at *
  clear hb6 hg6 HB4 HB5' hbw4
  refine wp_region_held_drew (S := fun W => Blk W g5 31 (ints .u8 own)) (by kernel_rfl) HB8.out.drew (fun hS => ?_)
  refine wpAnyH_take (i := 0) (oi := ⟨some 12, .load 31 (.tmp 5), _, _, _, _⟩) rfl (by kernel_rfl) (by kernel_rfl) (by kernel_rfl) (fun _ _ _ h => h) (yieldsIf_load_at rfl 31 (.tmp 5) rfl ⟨g5, 0, none⟩ rfl _ _ (fun W hW => Blk.all hW) Tryd.underlying31 rfl (by rw [length_ints, HLO.out]; kernel_rfl)) hS ?_
  simp only [Act.put, List.setIfInBounds_toArray, List.set_cons_zero, List.set_cons_succ]
  refine wpAnyH_take (i := 1) (oi := ⟨some 13, .slice 26 (.tmp 6) none none none, _, _, _, _⟩) (v := .slice (some ⟨g6, 0, none⟩) 32 32) rfl (by kernel_rfl) (by kernel_rfl) (by kernel_rfl) (fun _ _ _ h => h) (Or.inl ⟨by rfl, by intro W hSw; clear hSw; go_simp⟩) hS ?_
  simp only [Act.put, List.setIfInBounds_toArray, List.set_cons_zero, List.set_cons_succ]
  refine wpAnyH_ready (rs := [2]) (by kernel_rfl) (by simp) (AllReadyH.cons (o := ⟨some 14, .buildSlice 38 1 #[(0, .tmp 13)], _, _, _, _⟩) rfl (fun K hK => ?_) AllReadyH.nil)
  go_simp
  refine hK.out _ _ (HB8.out.alloc _).drew (fun hS2 => ?_)
  clear hK K hS
  refine wpAnyH_ready (rs := [3]) (by kernel_rfl) (by simp) (AllReadyH.cons (o := ⟨some 15, .call { callee := .value (.func 14), args := #[.tmp 12, .const (.int .u8 92), .tmp 14], argTypes := #[31, 5, 38] }, _, _, _, _⟩) rfl (fun K hK => ?_) AllReadyH.nil)
  go_simp
  refine (digest_c own 92 _ 1 1 [dg] _ HLO.out HOL.out (by decide) ?hra ?hkt (by simp [HLD.out])).mono ?_
  case hra => exact (readsAll_one HR6.out).of_heap rfl
  case hkt => exact HKT.out.below (hbw5.alloc hbw5.size _).drew
  rintro en w6 ⟨rfl, hbel6⟩
  have hB := Blk.below hS2 hbel6 (Blk.lt hS2)
  have hB7 := (HB7.out.alloc _).drew.below hbel6 (HB7.out.alloc _).drew.lt
  have hbw6 := (hbw5.alloc hbw5.size _).drew.trans (hbel6.mono (hbw5.alloc hbw5.size _).drew.size)
  refine hK.out _ _ hB (fun hS3 => ?_)
  clear hK K hS2 hbel6 hB hbw5
  refine wpAnyH_ready (rs := [4]) (by kernel_rfl) (by simp) (AllReadyH.cons (o := ⟨none, .store 26 (.tmp 4) (.tmp 15), _, _, _, _⟩) rfl (fun K hK => ?_) AllReadyH.nil)
  refine step_store_blk rfl rfl 26 (.tmp 4) (.tmp 15) rfl w.heap.size rfl _ rfl _ _ hB7 (by rw [length_ints, length_digestN, length_zero32]) (ints_oneCell _ _) (by rw [length_ints, length_digestN]; kernel_rfl) ?_
  intro w7 hb7 hg7
  have hbw7 := below_of_only hbw6 hg7 hbw6.size (Nat.le_refl _)
  refine hK.out _ _ (Blk.grown hS3 hg7 (by simp; omega)) (fun hS4 => ?_)
  refine wpAnyH_done (by kernel_rfl) ?_ _
  clear hK K hS3 hS4 hB7 HB7 HB8 HR6
  go_wp2
  refine bodyPost_ret (v := .agg (ints .u8 (digestN (maskN 92 own ++ [dg].flatten))).toArray) ?_ rfl ⟨rfl, hbw7⟩
  exact results_cell_row rfl _ _ w.heap.size _ _ _ _ rfl hb7 Tryd.underlying26 rfl (by rw [List.size_toArray, length_ints, length_digestN]; kernel_rfl)

set_option maxRecDepth 100000 in
set_option maxHeartbeats 1600000 in
theorem check_c (K : Option Addr) (kn kc : Nat) (key tg : List Nat) (A : Option Addr) (n c : Nat) (ls : List (List Nat)) (r : Int) (w : World) (hK : Reads .u8 w K kn kc key) (hl : tg.length = 32) (hlt : ∀ x ∈ tg, x < 256) (hr : ReadsAll .u8 w A n c ls) (hk : KT w) (hkb : kn ≤ 274877906944) (hb : ls.flatten.length ≤ 274877906944)
    (hres : Hid (r = if tg = hmacN key ls.flatten then 0 else 8)) :
    Calls Tryd.prog 12 #[.slice K kn kc, .agg (ints .u8 tg).toArray, .slice A n c] w fun en w' => en = .returned (.int .i64 r) ∧ Below w.heap.size w w' := by
  have HL := Lib.hid hl
  have HLT := Lib.hid hlt
  have HK := Lib.hid hK
  have HR := Lib.hid hr
  have HKT := Lib.hid hk
  clear hl hlt hK hr hk
  go_enter Tryd.func12, Tryd.ntmps12
  go_wp2_with fail
  refine name_Calls (fun w1 => Blk w1 w.heap.size 26 (ints .u8 tg) ∧ Below w.heap.size w w1) ⟨Blk.new _ _ (ints .u8 tg), (Below.refl _ _).alloc (Nat.le_refl _) _⟩ ?_
  rintro w1 ⟨hb4, hbel1⟩
  refine (tag_c K kn kc key A n c ls _ (HK.out.keep hbel1) (HR.out.keep hbel1) (HKT.out.below hbel1) hkb hb).mono ?_
  rintro en w2 ⟨rfl, hbel2⟩
  have HB4 := Lib.hid (hb4.below hbel2 hb4.lt)
  have hbw2 := hbel1.trans (hbel2.mono hbel1.size)
  have hs2 : w.heap.size < w2.heap.size := (hb4.below hbel2 hb4.lt).lt
  have hlm := length_hmacN key ls.flatten
  have hlm2 := hmacN_lt key ls.flatten
  generalize hmacN key ls.flatten = want at *
  have HLM := Lib.hid hlm
  have HLM2 := Lib.hid hlm2
  clear hb4 hbel1 hbel2 hlm hlm2
  go_upto_region 2 with ((with_reducible refine at_store 26 ?_); refine wpList_store_at rfl rfl 26 (.tmp 7) (.tmp 10) rfl w2.heap.size 0 rfl (ints .u8 want) rfl zero32 _ (Blk.new _ _ zero32) (by rw [length_ints, HLM.out, length_zero32]; decide) (ints_oneCell _ _) (by rw [length_ints, HLM.out]; kernel_rfl) ?_; intro w3 hb7 hg7)
  rw [splice_all _ _ (by rw [length_ints, HLM.out, length_zero32])] at hb7
  have hbw3 := below_of_only (hbw2.alloc hbw2.size _) hg7 (by simp; omega) (by omega)
  have HR4 := Lib.hid (reads_blk ((HB4.out.alloc _).grown hg7 (by simp; omega)) HL.out (by decide) HLT.out)
  have HR7 := Lib.hid (reads_blk hb7 HLM.out (by decide) HLM2.out)
  generalize w2.heap.size = g7 at *
  clear hb7 hg7 HB4 hbw2
  have hsame : ∀ W : World, W.heap = w3.heap → Calls Tryd.prog 13 #[.slice (some ⟨w.heap.size, 0, none⟩) 32 32, .slice (some ⟨g7, 0, none⟩) 32 32] W fun e w' => e = .returned (.bool (decide (tg = want))) ∧ ∃ k, w' = W.drewN k :=
    fun W e => hsame_c _ _ 32 32 32 32 tg want W (HR4.out.of_heap e) (HR7.out.of_heap e)
  have HS := Lib.hid hsame
  clear hsame
  by_cases he : tg = want
  · have hd : decide (tg = want) = true := decide_eq_true he
    rw [if_pos he] at hres
    have HD := Lib.hid hd
    have hr0 := hres.out
    clear he hd hres
    subst hr0
    rw [HD.out] at HS
    go_quiet ((go_at_call 13; exact Calls.quiet_of (HS.out _ rfl)))
    go_wp2
    go_ret
    exact ⟨rfl, belowDrewN hbw3 _⟩
  · have hd : decide (tg = want) = false := decide_eq_false he
    rw [if_neg he] at hres
    have HD := Lib.hid hd
    have hr0 := hres.out
    clear he hd hres
    subst hr0
    rw [HD.out] at HS
    go_quiet ((go_at_call 13; exact Calls.quiet_of (HS.out _ rfl)))
    go_wp2
    go_ret
    exact ⟨rfl, belowDrewN hbw3 _⟩
end Go.Proofs.YtbaahdhimolllaaDoor
