/- The walk through GridPlays: for every size and every sequence of operations it returns true and leaves old memory as it was. Conditions: none. -/
import Derived.Test.YtgmfmhlboehdoaaAwake10
import Derived.Test.YtgmfmhlboehdoaaGridD
import Derived.Test.YtgmfmhlboehdoaaRely3
namespace Go.Proofs.Ytgmfmhlboehdoaa.gridPlays
open Go.ChangeShapes Go.WideShapes Go.RowKit
theorem sameG_self (R C : Int) (l : List CellV) : sameG R C l R C l = true := by simp [sameG]
theorem rowReads {W : World} {g n cap : Nat} {f : Nat → CellV} (h : RowAt W g 38 n f) (h1 : n ≤ cap) (h2 : cap ≤ maxLen) : ReadsS cellV 4 W (some ⟨g, 0, none⟩) n cap (tab n f) := by
  have h3 := h.reads 0 n cap (by omega) h1 h2 (A := some ⟨g, 0, none⟩) (fun _ => rfl)
  rwa [show (tab n fun i => f (0 + i)) = tab n f from tab_congr (fun i _ => by rw [Nat.zero_add])] at h3
theorem stable_rowv {R' C' n' : Nat} {f' : Nat → CellV} : Stable (fun v W => ∃ g cap, v = .agg (gridV R' C' (some ⟨g, 0, none⟩) n' cap).toArray ∧ RowAt W g 38 n' f' ∧ n' ≤ cap ∧ cap ≤ maxLen) := by
  rintro v w w' ⟨g, cap, e, h, h1, h2⟩ hb
  exact ⟨g, cap, e, h.below hb, h1, h2⟩
theorem sizeO : (Try.prog.info? 40).map (·.size) = some 8 := by kernel_rfl
/-- A whole struct out of a slice's place, as one step. -/
theorem wp_load_slot {P : Program} {o : Oper} {a : Act} {w : World} {K : Act → World → Prop} {Q : Exit → Act → World → Prop} (ty : TypeId) (p : Operand) (ho : o.op = .load ty p) (ad : Addr) (hp : a.eval p = .pointer (some ad))
    (cs : List Value) (hc : ∀ j u, cs[j]? = some u → w.cell? (ad.add j) = some u) (d : TypeDesc) (hu : P.underlying ty = some d) (hd : (match d with | .struct _ | .array _ _ => true | _ => false) = true) (hi : (P.info? ty).map (·.size) = some cs.length)
    (h : K (a.put o.dst (.agg cs.toArray)) w) : Oper.wp P o a w K Q := by
  unfold Oper.wp execOp
  simp only [ho, hp, load_eq hc hu hd hi, Sem.run_bind, Sem.run_pure, Result.andThen_ok]
  exact h
theorem right_tab {w : World} {b g R C n : Nat} {f : Nat → CellV} (h : BAt w b g R C f) (hn : n = R * C) : rightG R C (tab n f) = true := by
  have h1 := h.rows
  have h2 := h.cols
  have h3 : sizeOk (R : Int) (C : Int) = true := by rw [sizeOk, decide_eq_true_eq]; omega
  have h4 : (tab n f).all okC = true := by
    rw [List.all_eq_true]
    intro x hx
    obtain ⟨i, hi, rfl⟩ := tab_mem hx
    exact h.ok i (by rw [← hn]; exact hi)
  rw [rightG, h3, h4, length_tab, hn, Int.natCast_mul]
  simp
/-- The loop's: the board and the document's grid are alike, in memory of the call's own. -/
structure Pl (w wr : World) (b z : Nat) (g R C : Nat) (A : Option Addr) (n k : Nat) (f : Nat → CellV) : Prop where
  bd : BAt wr b g R C f
  bx : Blk wr z 31 (gridV R C A n k)
  rd : ReadsS cellV 4 wr A n k (tab n f)
  nn : n = R * C
  ap : ∀ ad, A = some ad → ad.block ≠ b ∧ ad.block ≠ g ∧ ad.block ≠ z
  nb : w.heap.size ≤ b
  ng : w.heap.size ≤ g
  zb : b < z ∧ g ≠ z
  bel : Below w.heap.size w wr
set_option maxRecDepth 100000 in
set_option maxHeartbeats 12800000 in
theorem walk (r c : Int) (Al : Option Addr) (nl cl : Nat) (l : List OpV) (w : World) (_ : (Lit.int .i64 r).wf = true) (_ : (Lit.int .i64 c).wf = true) (hr : ReadsS opV 8 w Al nl cl l) (hf : ∀ x ∈ l, fitO x) :
    Calls Try.prog 3 #[.int .i64 r, .int .i64 c, .slice Al nl cl] w fun e w' => e = .returned (.bool true) ∧ Below w.heap.size w w' := by
  have HR := Lib.hid hr
  have HF := Lib.hid hf
  have HLen := Lib.hid hr.len
  clear hr hf
  by_cases hn : 20 < nl
  · have hn2 : decide ((20 : Int) < (nl : Int)) = true := by simp; omega
    go_enter Try.func3, Try.ntmps3
    go_wp2_with fail
    refine (awake10_c w).mono ?_
    rintro en w1 ⟨rfl, hb1⟩
    have HB1 := Lib.hid hb1
    clear hb1
    go_wp2
    go_ret
    exact ⟨rfl, HB1.out⟩
  have hn2 : decide ((20 : Int) < (nl : Int)) = false := by simp; omega
  cases hS : sizeOk r c with
  | false =>
    have HS := Lib.hid hS
    clear hS
    go_enter Try.func3, Try.ntmps3
    go_wp2_with fail
    refine (awake10_c w).mono ?_
    rintro en w1 ⟨rfl, hb1⟩
    have HB1 := Lib.hid hb1
    clear hb1
    go_wp2_with fail
    refine (refSize_c r c w1).mono ?_
    rw [HS.out]
    rintro en w2 ⟨rfl, rfl⟩
    go_wp2_with fail
    refine (new_c r c w1).mono ?_
    rintro en w2 (⟨_, rfl, hb2⟩ | ⟨R, C, b, g, hR, hC, rfl, hn1⟩)
    · have HB2 := Lib.hid (HB1.out.trans (hb2.mono HB1.out.size))
      clear hb2
      go_wp2_with fail
      refine (refSize_c r c w2).mono ?_
      rw [HS.out]
      rintro en w3 ⟨rfl, rfl⟩
      go_wp2
      go_ret
      exact ⟨rfl, HB2.out⟩
    · exfalso
      have h1 := hn1.at_.rows
      have h2 := hn1.at_.cols
      have := of_decide_eq_false HS.out
      omega
  | true =>
    obtain ⟨R, C, rfl, rfl, hR, hC⟩ := sizeOk_iff hS
    have HS := Lib.hid hS
    obtain ⟨N, hN⟩ : ∃ N, Hid (R * C = N) := ⟨_, Lib.hid rfl⟩
    have hsz : N ≤ 60 * 132 := by rw [← hN.out]; exact Nat.mul_le_mul hR.2 hC.2
    have e1 : IntKind.i64.wrap ((R : Int) * (C : Int)) = (N : Int) := by rw [← Int.natCast_mul, hN.out, IntKind.wrap_i64]; omega
    have HRC : Hid (R ≤ 60 ∧ C ≤ 132) := ⟨hR.2, hC.2⟩
    clear hS hR hC
    by_cases hN4 : 400 < N
    · have hN5 : decide ((400 : Int) < (N : Int)) = true := by simp; omega
      go_enter Try.func3, Try.ntmps3
      go_wp2_with fail
      refine (awake10_c w).mono ?_
      rintro en w1 ⟨rfl, hb1⟩
      have HB1 := Lib.hid hb1
      clear hb1
      go_wp2_with fail
      refine (refSize_c R C w1).mono ?_
      rw [HS.out]
      rintro en w2 ⟨rfl, rfl⟩
      go_wp2
      go_ret
      exact ⟨rfl, HB1.out⟩
    have hN5 : decide ((400 : Int) < (N : Int)) = false := by simp; omega
    go_enter Try.func3, Try.ntmps3
    go_wp2_with fail
    refine (awake10_c w).mono ?_
    rintro en w1 ⟨rfl, hb1⟩
    have HB1 := Lib.hid hb1
    clear hb1
    go_wp2_with fail
    refine (refSize_c R C w1).mono ?_
    rw [HS.out]
    rintro en w2 ⟨rfl, rfl⟩
    go_wp2_with fail
    refine (new_c R C w1).mono ?_
    rintro en w2 (⟨hs, _⟩ | ⟨R0, C0, b, g, hR0, hC0, rfl, hn2'⟩)
    · rw [HS.out] at hs; cases hs
    obtain rfl : R = R0 := by omega
    obtain rfl : C = C0 := by omega
    have HB2 := Lib.hid (HB1.out.trans (hn2'.bel.mono HB1.out.size))
    have HBd2 := Lib.hid hn2'.at_
    have hnb : w.heap.size ≤ b := Nat.le_trans HB1.out.size hn2'.nb
    have hng : w.heap.size ≤ g := Nat.le_trans HB1.out.size hn2'.ng
    clear hn2' hR0 hC0
    go_wp2_with fail
    refine (refSize_c R C w2).mono ?_
    rw [HS.out]
    rintro en w3 ⟨rfl, rfl⟩
    go_wp2_with fail
    refine (refNew_c R C N w2 hN.out HRC.out.1 HRC.out.2).mono ?_
    rintro en w3 ⟨A0, k0, rfl, h3⟩
    have HB3 := Lib.hid (HB2.out.trans (h3.bel.mono HB2.out.size))
    have HBd3 := Lib.hid (HBd2.out.below h3.bel)
    have HRd3 := Lib.hid h3.read
    have HNw3 := Lib.hid h3.new
    have hbl2 := HBd2.out.blt
    have hgl2 := HBd2.out.glt
    have hs23 := h3.bel.size
    clear h3
    go_wp2_with ((with_reducible refine at_store 31 ?_); refine wpList_store_at rfl rfl 31 (.tmp 9) (.tmp 52) rfl w3.heap.size 0 rfl _ rfl _ _ (Blk.new w3 31 (gridV 0 0 none 0 0)) (Nat.le_refl 3) (one_gridV _ _ _ _ _) sizeG ?_; intro w4 hb4 hg4; rw [splice_all _ _ (by rfl)] at hb4; have HBk4 := Lib.hid hb4; have HK4 := Lib.hid ((alloc_below' w3 (.cells (gridV 0 0 none 0 0).toArray 31)).grown hg4 (by simp) (fun x hx => by cases hx; exact Nat.le_refl _)); clear hb4 hg4)
    have hpl : Pl w w4 b w3.heap.size g R C A0 N k0 (fun _ => blankV) := by
      refine ⟨HBd3.out.below HK4.out, HBk4.out, HRd3.out.keep HK4.out, hN.out.symm, fun ad e => ?_, hnb, hng, ⟨by omega, by omega⟩, HB3.out.trans (HK4.out.mono HB3.out.size)⟩
      have h1 := HNw3.out ad e
      have h2 : ad.block < w3.heap.size := by
        have hp1 := HBd2.out.size
        rw [hN.out] at hp1
        obtain ⟨ad', e', hlt⟩ := HRd3.out.pos (by omega)
        rw [e] at e'; cases e'; exact hlt
      exact ⟨by omega, by omega, by omega⟩
    have HPl := Lib.hid hpl
    clear HBd2 HBd3 HRd3 HNw3 HBk4 HK4 HB3 HB2 HB1 hpl
    clear hbl2 hgl2 hs23
    generalize hz : w3.heap.size = z at *
    clear hz
    go_wp2
    go_loopw [10] (fun i wr => ∃ (j g R C n k : Nat) (A : Option Addr) (f : Nat → CellV), j ≤ nl ∧ i = .int .i64 j ∧ Hid (Pl w wr b z g R C A n k f)) (fun i _ => nl - (intOf i).toNat)
    case atStart => exact ⟨0, g, R, C, N, k0, A0, _, Nat.zero_le _, rfl, HPl⟩
    case round =>
      obtain ⟨j, g, R, C, n, k, A, f, hj, rfl, hM⟩ := hrel
      by_cases hlt : j < nl
      · have hlt2 : (j : Int) < (nl : Int) := by omega
        have hj0 : (0 : Int) ≤ (j : Int) := by omega
        have hjl : j < l.length := by rw [HLen.out]; exact hlt
        have hbw : Below w.heap.size w wr.drew := hM.out.bel.drew
        obtain ⟨ad, rfl, _, _⟩ := HR.out.cell j hjl
        obtain ⟨o, ho⟩ : ∃ o, Hid (l[j] = o) := ⟨l[j], rfl⟩
        have HFO : Hid (fitO o) := by show fitO o; rw [← ho.out]; exact HF.out _ (List.getElem_mem hjl)
        have HCO : Hid (∀ W, Below wr.drew.heap.size wr.drew W → ∀ i u, (opV o)[i]? = some u → W.cell? ((ad.add (j * 8)).add i) = some u) := by
          intro W hb i u hu
          have h := (HR.out.keep (hbw.trans (hb.mono hbw.size))).at j hjl i u
          rw [ho.out] at h
          exact h hu
        have HGD : Hid (Blk wr.drew z 31 (gridV R C A n k)) := hM.out.bx.drew
        have HBD : Hid (BAt wr.drew b g R C f) := hM.out.bd.of_heap rfl
        have HRD : Hid (ReadsS cellV 4 wr.drew A n k (tab n f)) := hM.out.rd.of_heap rfl
        have HN := Lib.hid hM.out.nn
        have HAP : Hid (∀ ad, A = some ad → ad.block ≠ b ∧ ad.block ≠ g) := fun ad e => ⟨(hM.out.ap ad e).1, (hM.out.ap ad e).2.1⟩
        have HAZ : Hid (∀ ad, A = some ad → ad.block ≠ z) := fun ad e => (hM.out.ap ad e).2.2
        have HLT := Lib.hid hM.out.zb
        have HNG := Lib.hid hM.out.ng
        have HBW := Lib.hid hbw
        have hzl : z < wr.drew.heap.size := HGD.out.lt
        clear hM hbw
        go_upto_region 15 with (fail)
        refine wp_region_any (by kernel_rfl) ?_
        change wpAny _ _ _ _ _ _ _ (World.drew _)
        refine R3.wpAny_relyG (g := 6) [(0, 60), (1, 61), (2, 62), (3, 63), (4, 64), (5, 65)] (condAt [fun v _ => v = .pointer (some ⟨b, 0, none⟩), fun v _ => v = .agg (gridV R C A n k).toArray, fun v _ => v = .slice (some ad) nl cl, fun v _ => v = .int .i64 j, fun v _ => v = .pointer (some (ad.add (j * 8))), fun v _ => v = .agg (opV o).toArray]) [] (by kernel_rfl) rfl (condAt_keep (stable_cons (stable_eq _) (stable_cons (stable_eq _) (stable_cons (stable_eq _) (stable_cons (stable_eq _) (stable_cons (stable_eq _) (stable_cons (stable_eq _) stable_nil))))))) ?hstep ?hend
        case hstep =>
          intro p hp o ho x W hbel hdep K hK
          simp only [List.mem_cons, List.not_mem_nil, or_false] at hp
          rcases hp with rfl | rfl | rfl | rfl | rfl | rfl
          · cases Option.some.inj ho
            simp only [frm, List.foldl_cons, List.foldl_nil, Act.put, List.setIfInBounds_toArray, List.set_cons_zero, List.set_cons_succ] at hK ⊢
            clear hdep ho
            rw [if_pos (by rfl)]
            go_simp
            exact hK _ _ rfl (Below.refl _ _) (by simp)
          · cases Option.some.inj ho
            simp only [frm, List.foldl_cons, List.foldl_nil, Act.put, List.setIfInBounds_toArray, List.set_cons_zero, List.set_cons_succ] at hK ⊢
            clear hdep ho
            rw [if_pos (by rfl)]
            exact wp_load_all 31 (.tmp 9) rfl _ rfl _ _ (HGD.out.below hbel HGD.out.lt) _ Try.underlying31 rfl sizeG (hK _ _ rfl (Below.refl _ _) (by simp))
          · cases Option.some.inj ho
            simp only [frm, List.foldl_cons, List.foldl_nil, Act.put, List.setIfInBounds_toArray, List.set_cons_zero, List.set_cons_succ] at hK ⊢
            clear hdep ho
            rw [if_pos (by rfl)]
            go_simp
            exact hK _ _ rfl (Below.refl _ _) (by simp)
          · cases Option.some.inj ho
            simp only [frm, List.foldl_cons, List.foldl_nil, Act.put, List.setIfInBounds_toArray, List.set_cons_zero, List.set_cons_succ] at hK ⊢
            clear hdep ho
            rw [if_pos (by rfl)]
            go_simp
            exact hK _ _ rfl (Below.refl _ _) (by simp)
          · cases Option.some.inj ho
            have d2 : x 2 = .slice (some ad) nl cl := hdep ⟨2, .data⟩ (by simp) rfl rfl
            have d3 : x 3 = .int .i64 j := hdep ⟨3, .data⟩ (by simp) rfl rfl
            simp only [frm, List.foldl_cons, List.foldl_nil, Act.put, List.setIfInBounds_toArray, List.set_cons_zero, List.set_cons_succ] at hK ⊢
            clear hdep ho
            rw [d2, d3] at hK ⊢
            clear d2 d3
            rw [if_pos (by rfl)]
            go_simp
            exact hK _ _ rfl (Below.refl _ _) (by simp)
          · cases Option.some.inj ho
            have d4 : x 4 = .pointer (some (ad.add (j * 8))) := hdep ⟨4, .data⟩ (by simp) rfl rfl
            simp only [frm, List.foldl_cons, List.foldl_nil, Act.put, List.setIfInBounds_toArray, List.set_cons_zero, List.set_cons_succ] at hK ⊢
            clear hdep ho
            rw [d4] at hK ⊢
            clear d4
            rw [if_pos (by rfl)]
            exact wp_load_slot 40 (.tmp 64) rfl (ad.add (j * 8)) rfl _ (HCO.out W hbel) _ Try.underlying40 rfl sizeO (hK _ _ rfl (Below.refl _ _) (by simp))
        case hend =>
          intro x W hbel hall _
          have d0 : x 0 = .pointer (some ⟨b, 0, none⟩) := hall (0, 60) (by simp)
          have d1 : x 1 = .agg (gridV R C A n k).toArray := hall (1, 61) (by simp)
          have d5 : x 5 = .agg (opV o).toArray := hall (5, 65) (by simp)
          simp only [frm, List.foldl_cons, List.foldl_nil, Act.put, List.setIfInBounds_toArray, List.set_cons_zero, List.set_cons_succ]
          rw [d0, d1, d5]
          clear hall d0 d1 d5
          generalize x 2 = z2
          generalize x 3 = z3
          generalize x 4 = z4
          refine wpAny_ready (rs := [6]) (by kernel_rfl) (by simp) (AllReady.cons (o := ⟨some 66, .call { callee := .value (.func 10), args := #[.tmp 60, .tmp 61, .tmp 65], argTypes := #[25, 31, 40] }, _, _, _, _⟩) rfl (fun K hK => ?_) AllReady.nil)
          go_simp
          refine (do_c b g R C A n k f o.1 o.2.1 o.2.2.1 o.2.2.2.1 o.2.2.2.2 W (HBD.out.below hbel) (HRD.out.keep hbel) HN.out HAP.out HFO.out.2.2.2.1 HFO.out.2.2.2.2).mono ?_
          rintro en w4 ⟨g', R', C', n', k', A', f', rfl, h4, hn4, hr4, ha4, hg4, hc4, ha5⟩
          have HN6 := Lib.hid hn4
          clear hn4
          refine hK _ _ ?_
          clear hK K
          try simp only [Act.put, List.setIfInBounds_toArray, List.set_cons_zero, List.set_cons_succ]
          refine wpAny_take (i := 7) (oi := ⟨some 59, .move (.tmp 66), _, _, _, _⟩) (v := ?_) rfl (by kernel_rfl) (by kernel_rfl) (by kernel_rfl) (fun _ _ _ h => h) (Or.inl ⟨by rfl, ?_⟩) ?_
          rotate_left
          · intro W; go_simp; try with_reducible rfl
          simp only [Act.put, List.setIfInBounds_toArray, List.set_cons_zero, List.set_cons_succ]
          refine wpAny_take (i := 8) (oi := ⟨some 67, .extract (.tmp 59) 0, _, _, _, _⟩) (v := ?_) rfl (by kernel_rfl) (by kernel_rfl) (by kernel_rfl) (fun _ _ _ h => h) (Or.inl ⟨by rfl, ?_⟩) ?_
          rotate_left
          · intro W; go_simp; try with_reducible rfl
          simp only [Act.put, List.setIfInBounds_toArray, List.set_cons_zero, List.set_cons_succ]
          refine wpAny_take (i := 9) (oi := ⟨some 68, .extract (.tmp 59) 1, _, _, _, _⟩) (v := ?_) rfl (by kernel_rfl) (by kernel_rfl) (by kernel_rfl) (fun _ _ _ h => h) (Or.inl ⟨by rfl, ?_⟩) ?_
          rotate_left
          · intro W; go_simp; try with_reducible rfl
          simp only [Act.put, List.setIfInBounds_toArray, List.set_cons_zero, List.set_cons_succ]
          have hz4 := (HGD.out.below hbel HGD.out.lt).chg hc4 (by have := HLT.out; omega)
          refine wpAny_ready (rs := [10]) (by kernel_rfl) (by simp) (AllReady.cons (o := ⟨none, .store 31 (.tmp 9) (.tmp 67), _, _, _, _⟩) rfl (fun K hK => ?_) AllReady.nil)
          refine step_store_blk rfl rfl 31 (.tmp 9) (.tmp 67) rfl z rfl (gridV R' C' A' n' k') rfl _ _ hz4 rfl (one_gridV _ _ _ _ _) sizeG ?_
          intro w5 hb5 hg5
          refine hK _ _ ?_
          clear hK K hz4
          try simp only [Act.put, List.setIfInBounds_toArray, List.set_cons_zero, List.set_cons_succ]
          refine wpAny_take (i := 11) (oi := ⟨some 11, .assign (.tmp 68), _, _, _, _⟩) (v := ?_) rfl (by kernel_rfl) (by kernel_rfl) (by kernel_rfl) (fun _ _ _ h => h) (Or.inl ⟨by rfl, ?_⟩) ?_
          rotate_left
          · intro W; go_simp; try with_reducible rfl
          simp only [Act.put, List.setIfInBounds_toArray, List.set_cons_zero, List.set_cons_succ]
          refine wpAny_done (by kernel_rfl) ?_ _
          have hsz5 := hbel.size
          have k5 : Chg (fun i => i = z) w4 w5 := Chg.of_only hg5 (fun i hi => (Option.some.inj hi).symm)
          have hgz : g' ≠ z := by have := HLT.out; rcases hg4 with h | h <;> omega
          have hzb := HLT.out
          have haz : ∀ ad, A' = some ad → ad.block ≠ z := by
            intro ad e
            rcases ha5 with h | h
            · exact HAZ.out ad (h ▸ e)
            · have := h ad e; omega
          have HBD6 : Hid (BAt w5.drew b g' R' C' f') := (h4.chg k5 (by omega) (by omega)).of_heap rfl
          have HGD6 : Hid (Blk w5.drew z 31 (gridV R' C' A' n' k')) := hb5.drew
          have HRD6 : Hid (ReadsS cellV 4 w5.drew A' n' k' (tab n' f')) := (hr4.chg k5 (fun _ ad e => haz ad e)).of_heap rfl
          have HRG := Lib.hid (right_tab HBD6.out HN6.out)
          have HAP6 : Hid (∀ ad, A' = some ad → ad.block ≠ b ∧ ad.block ≠ g' ∧ ad.block ≠ z) := fun ad e => ⟨(ha4 ad e).1, (ha4 ad e).2, haz ad e⟩
          have hbW : Below w.heap.size w W := HBW.out.trans (hbel.mono HBW.out.size)
          have HNG6 : Hid (w.heap.size ≤ g') := by
            show _ ≤ _
            have := HNG.out
            have := hbW.size
            rcases hg4 with h | h <;> omega
          have HB6 : Hid (Below w.heap.size w w5.drew) := (k5.below (hc4.below hbW hbW.size (fun i hi => by have := HNG.out; omega)) (by have := hbW.size; have := hc4.size; omega) (fun i hi => by have := hbW.size; omega)).drew
          have HZB6 : Hid (b < z ∧ g' ≠ z) := ⟨hzb.1, hgz⟩
          clear h4 hr4 ha4 hg4 hc4 ha5 hb5 hg5 k5 hgz hzb haz hbW hsz5 hbel
          go_upto_region 16 with (fail)
          refine wp_region_any (by kernel_rfl) ?_
          change wpAny _ _ _ _ _ _ _ (World.drew _)
          refine wpAny_relyG (g := 0) [(0, 69), (1, 70), (2, 71), (3, 72), (4, 73), (5, 74), (6, 75), (7, 76), (8, 77), (9, 78), (10, 79), (11, 80), (12, 81), (13, 82), (14, 83)] (condAt [fun v _ => v = .bool true, fun v _ => v = .bool false, fun v _ => v = .bool false, fun v _ => v = .pointer (some ⟨b, 0, none⟩), fun v W => ∃ g cap, v = .agg (gridV R' C' (some ⟨g, 0, none⟩) n' cap).toArray ∧ RowAt W g 38 n' f' ∧ n' ≤ cap ∧ cap ≤ maxLen, fun v _ => v = .agg (gridV R' C' A' n' k').toArray, fun v _ => v = .bool true, fun v _ => v = .bool false, fun v _ => v = .bool false, fun v _ => v = .bool false, fun v _ => v = .pointer (some ⟨b, 0, none⟩), fun v W => ∃ g cap, v = .agg (gridV R' C' (some ⟨g, 0, none⟩) n' cap).toArray ∧ RowAt W g 38 n' f' ∧ n' ≤ cap ∧ cap ≤ maxLen, fun v _ => v = .bool true, fun v _ => v = .bool false, fun v _ => v = .bool false]) [] (by kernel_rfl) rfl (condAt_keep (stable_cons (stable_eq _) (stable_cons (stable_eq _) (stable_cons (stable_eq _) (stable_cons (stable_eq _) (stable_cons stable_rowv (stable_cons (stable_eq _) (stable_cons (stable_eq _) (stable_cons (stable_eq _) (stable_cons (stable_eq _) (stable_cons (stable_eq _) (stable_cons (stable_eq _) (stable_cons stable_rowv (stable_cons (stable_eq _) (stable_cons (stable_eq _) (stable_cons (stable_eq _) stable_nil)))))))))))))))) ?hstep6 ?hend6
          case hstep6 =>
            intro p hp o ho x W hbel hdep K hK
            simp only [List.mem_cons, List.not_mem_nil, or_false] at hp
            rcases hp with rfl | rfl | rfl | rfl | rfl | rfl | rfl | rfl | rfl | rfl | rfl | rfl | rfl | rfl | rfl
            · cases Option.some.inj ho
              simp only [frm, List.foldl_cons, List.foldl_nil, Act.put, List.setIfInBounds_toArray, List.set_cons_zero, List.set_cons_succ] at hK ⊢
              clear hdep ho
              rw [if_pos (by rfl)]
              go_simp
              exact hK _ _ rfl (Below.refl _ _) (by simp)
            · cases Option.some.inj ho
              have d0 : x 0 = .bool true := hdep ⟨0, .data⟩ (by simp) rfl rfl
              simp only [frm, List.foldl_cons, List.foldl_nil, Act.put, List.setIfInBounds_toArray, List.set_cons_zero, List.set_cons_succ] at hK ⊢
              clear hdep ho
              rw [d0] at hK ⊢
              clear d0
              rw [if_pos (by rfl)]
              go_simp
              exact hK _ _ rfl (Below.refl _ _) (by simp)
            · cases Option.some.inj ho
              have d1 : x 1 = .bool false := hdep ⟨1, .data⟩ (by simp) rfl rfl
              simp only [frm, List.foldl_cons, List.foldl_nil, Act.put, List.setIfInBounds_toArray, List.set_cons_zero, List.set_cons_succ] at hK ⊢
              clear hdep ho
              rw [d1] at hK ⊢
              clear d1
              rw [if_pos (by rfl)]
              go_simp
              exact hK _ _ rfl (Below.refl _ _) (by simp)
            · cases Option.some.inj ho
              have d2 : x 2 = .bool false := hdep ⟨2, .guard⟩ (by simp) rfl rfl
              simp only [frm, List.foldl_cons, List.foldl_nil, Act.put, List.setIfInBounds_toArray, List.set_cons_zero, List.set_cons_succ] at hK ⊢
              clear hdep ho
              rw [d2] at hK ⊢
              clear d2
              rw [if_pos (by rfl)]
              go_simp
              exact hK _ _ rfl (Below.refl _ _) (by simp)
            · cases Option.some.inj ho
              have d3 : x 3 = .pointer (some ⟨b, 0, none⟩) := hdep ⟨3, .data⟩ (by simp) rfl rfl
              have d2 : x 2 = .bool false := hdep ⟨2, .guard⟩ (by simp) rfl rfl
              simp only [frm, List.foldl_cons, List.foldl_nil, Act.put, List.setIfInBounds_toArray, List.set_cons_zero, List.set_cons_succ] at hK ⊢
              clear hdep ho
              rw [d3, d2] at hK ⊢
              clear d3 d2
              rw [if_pos (by rfl)]
              go_simp
              refine (grid_c b g' R' C' f' W (HBD6.out.below hbel)).mono ?_
              rw [← HN6.out]
              rintro e w' ⟨g2, cap2, rfl, hn2⟩
              exact hK _ _ ⟨g2, cap2, rfl, hn2.row, hn2.room, hn2.cap⟩ hn2.bel (by simp)
            · cases Option.some.inj ho
              have d2 : x 2 = .bool false := hdep ⟨2, .guard⟩ (by simp) rfl rfl
              simp only [frm, List.foldl_cons, List.foldl_nil, Act.put, List.setIfInBounds_toArray, List.set_cons_zero, List.set_cons_succ] at hK ⊢
              clear hdep ho
              rw [d2] at hK ⊢
              clear d2
              rw [if_pos (by rfl)]
              exact wp_load_all 31 (.tmp 9) rfl _ rfl _ _ (HGD6.out.below hbel HGD6.out.lt) _ Try.underlying31 rfl sizeG (hK _ _ rfl (Below.refl _ _) (by simp))
            · cases Option.some.inj ho
              have h4 : ∃ g cap, (x 4) = .agg (gridV R' C' (some ⟨g, 0, none⟩) n' cap).toArray ∧ RowAt W g 38 n' f' ∧ n' ≤ cap ∧ cap ≤ maxLen := hdep ⟨4, .data⟩ (by simp) rfl rfl
              have d5 : x 5 = .agg (gridV R' C' A' n' k').toArray := hdep ⟨5, .data⟩ (by simp) rfl rfl
              have d2 : x 2 = .bool false := hdep ⟨2, .guard⟩ (by simp) rfl rfl
              simp only [frm, List.foldl_cons, List.foldl_nil, Act.put, List.setIfInBounds_toArray, List.set_cons_zero, List.set_cons_succ] at hK ⊢
              clear hdep ho
              rw [d5, d2] at hK ⊢
              clear d5 d2
              rw [if_pos (by rfl)]
              obtain ⟨g2, cap2, d4, hrow2, hc3, hc4'⟩ := h4
              rw [d4] at hK ⊢
              clear d4
              go_simp
              refine (refSameG_c R' C' (some ⟨g2, 0, none⟩) n' cap2 (tab n' f') R' C' A' n' k' (tab n' f') W (rowReads hrow2 hc3 hc4') (HRD6.out.keep hbel)).mono ?_
              rw [sameG_self]
              rintro e w' ⟨rfl, hb⟩
              exact hK _ _ rfl hb (by simp)
            · cases Option.some.inj ho
              have d6 : x 6 = .bool true := hdep ⟨6, .data⟩ (by simp) rfl rfl
              have d2 : x 2 = .bool false := hdep ⟨2, .guard⟩ (by simp) rfl rfl
              simp only [frm, List.foldl_cons, List.foldl_nil, Act.put, List.setIfInBounds_toArray, List.set_cons_zero, List.set_cons_succ] at hK ⊢
              clear hdep ho
              rw [d6, d2] at hK ⊢
              clear d6 d2
              rw [if_pos (by rfl)]
              go_simp
              exact hK _ _ rfl (Below.refl _ _) (by simp)
            · cases Option.some.inj ho
              have d2 : x 2 = .bool false := hdep ⟨2, .data⟩ (by simp) rfl rfl
              have d7 : x 7 = .bool false := hdep ⟨7, .data⟩ (by simp) rfl rfl
              simp only [frm, List.foldl_cons, List.foldl_nil, Act.put, List.setIfInBounds_toArray, List.set_cons_zero, List.set_cons_succ] at hK ⊢
              clear hdep ho
              rw [d2, d7] at hK ⊢
              clear d2 d7
              rw [if_pos (by rfl)]
              go_simp
              exact hK _ _ rfl (Below.refl _ _) (by simp)
            · cases Option.some.inj ho
              have d8 : x 8 = .bool false := hdep ⟨8, .data⟩ (by simp) rfl rfl
              simp only [frm, List.foldl_cons, List.foldl_nil, Act.put, List.setIfInBounds_toArray, List.set_cons_zero, List.set_cons_succ] at hK ⊢
              clear hdep ho
              rw [d8] at hK ⊢
              clear d8
              rw [if_pos (by rfl)]
              go_simp
              exact hK _ _ rfl (Below.refl _ _) (by simp)
            · cases Option.some.inj ho
              have d9 : x 9 = .bool false := hdep ⟨9, .guard⟩ (by simp) rfl rfl
              simp only [frm, List.foldl_cons, List.foldl_nil, Act.put, List.setIfInBounds_toArray, List.set_cons_zero, List.set_cons_succ] at hK ⊢
              clear hdep ho
              rw [d9] at hK ⊢
              clear d9
              rw [if_pos (by rfl)]
              go_simp
              exact hK _ _ rfl (Below.refl _ _) (by simp)
            · cases Option.some.inj ho
              have d10 : x 10 = .pointer (some ⟨b, 0, none⟩) := hdep ⟨10, .data⟩ (by simp) rfl rfl
              have d9 : x 9 = .bool false := hdep ⟨9, .guard⟩ (by simp) rfl rfl
              simp only [frm, List.foldl_cons, List.foldl_nil, Act.put, List.setIfInBounds_toArray, List.set_cons_zero, List.set_cons_succ] at hK ⊢
              clear hdep ho
              rw [d10, d9] at hK ⊢
              clear d10 d9
              rw [if_pos (by rfl)]
              go_simp
              refine (grid_c b g' R' C' f' W (HBD6.out.below hbel)).mono ?_
              rw [← HN6.out]
              rintro e w' ⟨g2, cap2, rfl, hn2⟩
              exact hK _ _ ⟨g2, cap2, rfl, hn2.row, hn2.room, hn2.cap⟩ hn2.bel (by simp)
            · cases Option.some.inj ho
              have h11 : ∃ g cap, (x 11) = .agg (gridV R' C' (some ⟨g, 0, none⟩) n' cap).toArray ∧ RowAt W g 38 n' f' ∧ n' ≤ cap ∧ cap ≤ maxLen := hdep ⟨11, .data⟩ (by simp) rfl rfl
              have d9 : x 9 = .bool false := hdep ⟨9, .guard⟩ (by simp) rfl rfl
              simp only [frm, List.foldl_cons, List.foldl_nil, Act.put, List.setIfInBounds_toArray, List.set_cons_zero, List.set_cons_succ] at hK ⊢
              clear hdep ho
              rw [d9] at hK ⊢
              clear d9
              rw [if_pos (by rfl)]
              obtain ⟨g2, cap2, d11, hrow2, hc3, hc4'⟩ := h11
              rw [d11] at hK ⊢
              clear d11
              go_simp
              refine (gright_c R' C' (some ⟨g2, 0, none⟩) n' cap2 (tab n' f') W (rowReads hrow2 hc3 hc4')).mono ?_
              rw [HRG.out]
              rintro e w' ⟨rfl, hb⟩
              exact hK _ _ rfl hb (by simp)
            · cases Option.some.inj ho
              have d12 : x 12 = .bool true := hdep ⟨12, .data⟩ (by simp) rfl rfl
              have d9 : x 9 = .bool false := hdep ⟨9, .guard⟩ (by simp) rfl rfl
              simp only [frm, List.foldl_cons, List.foldl_nil, Act.put, List.setIfInBounds_toArray, List.set_cons_zero, List.set_cons_succ] at hK ⊢
              clear hdep ho
              rw [d12, d9] at hK ⊢
              clear d12 d9
              rw [if_pos (by rfl)]
              go_simp
              exact hK _ _ rfl (Below.refl _ _) (by simp)
            · cases Option.some.inj ho
              have d9 : x 9 = .bool false := hdep ⟨9, .data⟩ (by simp) rfl rfl
              have d13 : x 13 = .bool false := hdep ⟨13, .data⟩ (by simp) rfl rfl
              simp only [frm, List.foldl_cons, List.foldl_nil, Act.put, List.setIfInBounds_toArray, List.set_cons_zero, List.set_cons_succ] at hK ⊢
              clear hdep ho
              rw [d9, d13] at hK ⊢
              clear d9 d13
              rw [if_pos (by rfl)]
              go_simp
              exact hK _ _ rfl (Below.refl _ _) (by simp)
          case hend6 =>
            intro x W6 hbel hall _
            have d14 : x 14 = .bool false := hall (14, 83) (by simp)
            simp only [frm, List.foldl_cons, List.foldl_nil, Act.put, List.setIfInBounds_toArray, List.set_cons_zero, List.set_cons_succ]
            rw [d14]
            clear hall d14
            generalize x 0 = z0
            generalize x 1 = z1
            generalize x 2 = z2
            generalize x 3 = z3
            generalize x 4 = z4
            generalize x 5 = z5
            generalize x 6 = z6
            generalize x 7 = z7
            generalize x 8 = z8
            generalize x 9 = z9
            generalize x 10 = z10
            generalize x 11 = z11
            generalize x 12 = z12
            generalize x 13 = z13
            refine wpAny_done (by kernel_rfl) ?_ _
            have hpl : Pl w W6 b z g' R' C' A' n' k' f' := ⟨HBD6.out.below hbel, HGD6.out.below hbel HGD6.out.lt, HRD6.out.keep hbel, HN6.out, HAP6.out, hnb, HNG6.out, HZB6.out, HB6.out.trans (hbel.mono HB6.out.size)⟩
            have HPl6 := Lib.hid hpl
            obtain ⟨c0, c1, c2⟩ := boxG hpl.bx
            clear hpl hbel
            by_cases h1k : 1000 < n'
            · have h1d : decide ((1000 : Int) < (n' : Int)) = true := by simp; omega
              go_wp2
              go_ret
              exact ⟨rfl, HPl6.out.bel⟩
            · have h1d : decide ((1000 : Int) < (n' : Int)) = false := by simp; omega
              go_wp2
              go_roundw
              case rel => exact ⟨j + 1, g', R', C', n', k', A', f', by omega, by go_num, HPl6⟩
              case measure => simp [intOf]; omega
      · obtain rfl : j = nl := by omega
        go_wp2
        go_ret
        exact ⟨rfl, hM.out.bel⟩
end Go.Proofs.Ytgmfmhlboehdoaa.gridPlays
