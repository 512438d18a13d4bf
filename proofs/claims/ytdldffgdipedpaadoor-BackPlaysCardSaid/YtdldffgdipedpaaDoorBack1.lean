/- What slices.Clone and Cut of package back do with any cells, and what the reference's Cut does, as walks through the translated text. Conditions: slices read as lists of cells, at most 2^40 of them. -/
import Derived.Test.YtdldffgdipedpaaDoorBack0
import Derived.Test.YtdldffgdipedpaaDoorCell3
namespace Go.Proofs.YtdldffgdipedpaaDoor
open Go.ChangeShapes Go.WideShapes Go.RowKit
/-- It returns new cells that read as l. -/
def NewS (w : World) (l : List CellV) (en : Ending) (w' : World) : Prop := ∃ V n d, en = .returned (.slice V n d) ∧ ReadsS cellV 4 w' V n d l ∧ (∀ rd, V = some rd → w.heap.size ≤ rd.block) ∧ Below w.heap.size w w'
theorem ReadsS.src2 {w : World} {ad : Addr} {n c : Nat} {l : List CellV} (h : ReadsS cellV 4 w (some ad) n c l) : ∀ j u, (l.flatMap cellV)[j]? = some u → ad.block < w.heap.size ∧ w.cell? (ad.add j) = some u := by
  intro j v hv
  have hl : (l.flatMap cellV).length = l.length * 4 := length_flatF length_cellV l
  have hj : j < l.length * 4 := by
    rcases Nat.lt_or_ge j (l.length * 4) with h | h
    · exact h
    · rw [List.getElem?_eq_none (by rw [hl]; exact h)] at hv; cases hv
  have hq : j / 4 < l.length := by omega
  have e : j = j / 4 * 4 + j % 4 := by omega
  rw [e, flatF_at length_cellV _ _ _ hq (by omega)] at hv
  rw [e, ← add_add]
  obtain ⟨ad', e2, hlt, hc⟩ := h.cell _ hq
  cases e2
  exact ⟨hlt, hc _ _ hv⟩
set_option maxHeartbeats 1600000 in
theorem bclone_c (A : Option Addr) (n c : Nat) (l : List CellV) (w : World) (hr : ReadsS cellV 4 w A n c l) (hn : n ≤ 1099511627776) :
    Calls Tryd.prog 19 #[.slice A n c] w (NewS w l) := by
  cases A with
  | none =>
    have h0 : l = [] := by
      cases l with
      | nil => rfl
      | cons x t => obtain ⟨ad, e, _⟩ := hr.cell 0 (by simp); cases e
    subst h0
    have heq : ∀ W : World, (binOp .eql 31 (.slice none n c) (.slice none 0 0)).run Tryd.prog W = .ok (.bool true) W := by
      intro W
      simp only [binOp]
      simp [run_equal_slice_nil W 31 43 none n c Tryd.underlying31]
    clear hr
    go_enter Tryd.func19, Tryd.ntmps19
    go_wp2
    go_ret
    exact ⟨none, 0, 0, rfl, .nil (by simp [maxLen]), by simp, Below.refl _ _⟩
  | some ad =>
    obtain ⟨i0, hi, hz0, hz1, hz2⟩ := info_parts infoC
    have HS := Lib.hid hr.src2
    have HL := Lib.hid hr.len
    clear hr
    have heq : ∀ W : World, (binOp .eql 31 (.slice (some ad) n c) (.slice none 0 0)).run Tryd.prog W = .ok (.bool false) W := by
      intro W
      simp only [binOp]
      simp [run_equal_slice_nil W 31 43 (some ad) n c Tryd.underlying31]
    go_enter Tryd.func19, Tryd.ntmps19
    go_wp2_with (at_builtin; refine wpList_append_own_at _ rfl (.tmp 5) (.tmp 6) 31 rfl w.heap.size 43 i0 _ 4 32 Tryd.underlying31 hi hz0 hz1 hz2 rfl (by decide) _ 0 [] rfl (World.ownsRow_made w #[] 0 (Nat.le_refl _) (by decide) rfl) ad n c (l.flatMap cellV) rfl (by rw [length_flatF length_cellV, HL.out]) (fun j u hu => ((alloc_below' w _).cell (by rw [block_add]; exact (HS.out j u hu).1)).trans (HS.out j u hu).2) (flatF_one one_cellV _) (by unfold maxLen; omega) (by omega) (by simp) ?_; intro v1 w1 ho1 hg1 _ hat1)
    rw [Nat.zero_add, List.nil_append] at ho1
    have hb1 := (alloc_below' w _).grown hg1 (by simp) (fun x hx => by cases hx; exact Nat.le_refl _)
    have hbs := ownK_base ho1
    obtain ⟨V, d, rfl, hR⟩ := ReadsS.of_own length_cellV (by decide) ho1
    have HP : Hid (ReadsS cellV 4 w1 V n d l ∧ (∀ rd, V = some rd → w.heap.size ≤ rd.block) ∧ Below w.heap.size w w1) := ⟨hR, fun rd e => hbs _ (by rw [e]; rfl), hb1⟩
    clear ho1 hg1 hat1 hR hb1 hbs
    go_wp2
    go_ret
    exact ⟨V, n, d, rfl, HP.out⟩
theorem sizeCell : (Tryd.prog.info? 43).map (·.size) = some 4 := by kernel_rfl
set_option maxHeartbeats 1600000 in
theorem bcut_c (A : Option Addr) (n c : Nat) (l : List CellV) (w : World) (hr : ReadsS cellV 4 w A n c l) (hn : n ≤ 1099511627776) :
    Calls Tryd.prog 17 #[.slice A n c] w (NewS w (cutC l)) := by
  have HL := Lib.hid hr.len
  have HR := Lib.hid hr
  have hc := hr.room
  have hcap : c ≤ 9223372036854775807 := by have := hr.cap; unfold maxLen at this; omega
  clear hr
  go_enter Tryd.func17, Tryd.ntmps17
  go_wp2_with fail
  refine (blank_c (0, 0, 0) w).mono ?_
  rintro en w1 ⟨rfl, hb1⟩
  simp only [cellV]
  go_upto_region 2 with (fail)
  refine name_wp (fun w5 => Blk w5 w1.heap.size 43 (cellV blankC) ∧ Below w.heap.size w w5) ⟨Blk.new _ _ _, hb1.alloc hb1.size _⟩ ?_
  rintro w2 ⟨hB2, hb2⟩
  obtain ⟨q0, q1, q2, q3⟩ := fourB hB2
  have HR2 := Lib.hid (HR.out.keep hb2)
  have HB2 := Lib.hid hb2
  clear hb2 hB2 HR hb1
  go_wp2_with fail
  go_loopw [4] (fun e wr => ∃ q : Nat, q ≤ n ∧ e = .int .i64 q ∧ Hid (cutN l q = cutN l n) ∧ ∃ k, wr = w2.drewN k) (fun e _ => (intOf e).toNat)
  case atStart => exact ⟨n, Nat.le_refl _, rfl, rfl, 0, rfl⟩
  case round =>
    obtain ⟨q, hq, rfl, hcut, k, rfl⟩ := hrel
    have HCL : Hid (∀ q k, cutN l q = q → cutN l q = cutN l n → Calls Tryd.prog 19 #[.slice A q c] (w2.drewN k) (NewS (w2.drewN k) (cutC l))) := by
      intro q k e1 e2
      have h1 := bclone_c A q c (l.take q) (w2.drewN k) (readsS_pre (HR2.out.of_heap (w' := w2.drewN k) rfl) q (by have := cutN_le l n; omega)) (by have := cutN_le l n; omega)
      have e3 : cutC l = l.take q := by rw [cutC, HL.out, ← e2, e1]
      rw [e3]
      exact h1
    rcases Nat.eq_zero_or_pos q with h0 | h0
    · subst h0
      have HC := Lib.hid (HCL.out 0 · rfl hcut.out)
      clear HCL
      go_wp2_with fail
      go_quiet (fail)
      go_wp2_with ((with_reducible refine at_slice_h 31 ?_); refine wpList_cut_hK rfl (.tmp 22) (.tmp 23) rfl Tryd.underlying31 sizeCell rfl .i64 0 _ rfl rfl (by omega) ?_)
      refine (HC.out _).mono ?_
      rintro en w4 ⟨V, m, d, rfl, hrV, hbV, hb4⟩
      have HP : Hid (ReadsS cellV 4 w4 V m d (cutC l) ∧ (∀ rd, V = some rd → w.heap.size ≤ rd.block) ∧ Below w.heap.size w w4) := ⟨hrV, fun rd e => Nat.le_trans HB2.out.size (hbV rd e), HB2.out.trans ((belowDrewN (Below.refl _ w2) _).trans hb4 |>.mono HB2.out.size)⟩
      clear hrV hbV hb4
      go_wp2
      go_ret
      exact ⟨V, m, d, rfl, HP.out⟩
    · obtain ⟨p, hp⟩ : ∃ p, Hid (q = p + 1) := ⟨q - 1, by show _ = _; omega⟩
      have hp' := hp.out
      have hpl : p < l.length := by rw [HL.out]; omega
      obtain ⟨ad, rfl, _, hca⟩ := HR2.out.cell p hpl
      obtain ⟨x, HX⟩ : ∃ x, Hid (l[p] = x) := ⟨l[p], rfl⟩
      rw [HX.out] at hca
      obtain ⟨a0, a1, a2, a3⟩ := four hca
      have hq1 : (q : Int) - 1 = (p : Int) := by omega
      have hq0 : decide ((0 : Int) < (q : Int)) = true := by rw [decide_eq_true_eq]; omega
      have hp0 : (0 : Int) ≤ (p : Int) := by omega
      have hpn : (p : Int) < (n : Int) := by omega
      have hpm : (p : Int) ≤ 9223372036854775807 := by omega
      have hwp : IntKind.i64.wrap (p : Int) = (p : Int) := IntWalk.i64_in _ (by omega)
      have heq := fun W => run_eq_cell W x blankC
      clear hca hp'
      by_cases hx : x = blankC
      · have HCut : Hid (cutN l p = cutN l n) := by
          show _ = _
          rw [← hcut.out, hp.out, cutN_blank hpl (by rw [HX.out, hx])]
        rw [decide_eq_true hx] at heq
        simp only [cellV] at heq
        clear hx
        go_wp2_with fail
        go_quiet (fail)
        go_wp2
        go_roundw
        case rel => exact ⟨p, by omega, rfl, HCut, _, rfl⟩
        case measure => have := hp.out; simp [intOf]; omega
      · have e1 : cutN l q = q := by rw [hp.out, cutN_full hpl (by rw [HX.out]; exact hx)]
        have HC := Lib.hid (HCL.out q · e1 hcut.out)
        rw [decide_eq_false hx] at heq
        simp only [cellV] at heq
        clear hx HCL e1
        go_wp2_with fail
        go_quiet (fail)
        go_wp2_with ((with_reducible refine at_slice_h 31 ?_); refine wpList_cut_hK rfl (.tmp 22) (.tmp 23) rfl Tryd.underlying31 sizeCell rfl .i64 q _ rfl rfl (by omega) ?_)
        refine (HC.out _).mono ?_
        rintro en w4 ⟨V, m, d, rfl, hrV, hbV, hb4⟩
        have HP : Hid (ReadsS cellV 4 w4 V m d (cutC l) ∧ (∀ rd, V = some rd → w.heap.size ≤ rd.block) ∧ Below w.heap.size w w4) := ⟨hrV, fun rd e => Nat.le_trans HB2.out.size (hbV rd e), HB2.out.trans ((belowDrewN (Below.refl _ w2) _).trans hb4 |>.mono HB2.out.size)⟩
        clear hrV hbV hb4
        go_wp2
        go_ret
        exact ⟨V, m, d, rfl, HP.out⟩
set_option maxHeartbeats 1600000 in
theorem refCutB_step (p q : Nat) (hp : Hid (q = p + 1)) (A : Option Addr) (c : Nat) (l : List CellV) (w : World) (hr : ReadsS cellV 4 w A q c l)
    (hrec : Hid (Calls Tryd.prog 18 #[.slice A p c] w fun e w' => e = .returned (.slice A (cutN l p) c) ∧ w = w')) :
    Calls Tryd.prog 18 #[.slice A q c] w fun e w' => e = .returned (.slice A (cutN l q) c) ∧ w = w' := by
  have hp' := hp.out
  have hpl : p < l.length := by rw [hr.len]; omega
  have hc := hr.room
  have hcap : c ≤ 9223372036854775807 := by have := hr.cap; unfold maxLen at this; omega
  obtain ⟨ad, rfl, _, hca⟩ := hr.cell p hpl
  obtain ⟨x, HX⟩ : ∃ x, Hid (l[p] = x) := ⟨l[p], rfl⟩
  rw [HX.out] at hca
  obtain ⟨a0, a1, a2, a3⟩ := four hca
  have hq1 : (q : Int) - 1 = (p : Int) := by omega
  have hq0 : ((q : Int) == 0) = false := by rw [beq_eq_false_iff_ne]; omega
  have hp0 : (0 : Int) ≤ (p : Int) := by omega
  have hpn : (p : Int) < (q : Int) := by omega
  have hpc : p ≤ c := by omega
  have hwp : IntKind.i64.wrap (p : Int) = (p : Int) := IntWalk.i64_in _ (by omega)
  have heq := fun W => run_eq_cell W x blankC
  clear hca hp' hr
  by_cases hx : x = blankC
  · have HCut : Hid (cutN l q = cutN l p) := by
      show _ = _
      rw [hp.out, cutN_blank hpl (by rw [HX.out, hx])]
    rw [decide_eq_true hx] at heq
    simp only [cellV, blankC] at heq
    rw [HCut.out]
    clear hx
    go_enter Tryd.func18, Tryd.ntmps18
    go_wp2_with ((with_reducible refine at_slice_h 31 ?_); refine wpList_cut_hK rfl (.tmp 17) (.tmp 20) rfl Tryd.underlying31 sizeCell rfl .i64 p _ rfl rfl hpc ?_)
    refine hrec.out.mono ?_
    rintro en w4 ⟨rfl, rfl⟩
    go_wp2
    go_ret
    exact ⟨rfl, rfl⟩
  · have HCut : Hid (cutN l q = q) := by
      show _ = _
      rw [hp.out, cutN_full hpl (by rw [HX.out]; exact hx)]
    rw [decide_eq_false hx] at heq
    simp only [cellV, blankC] at heq
    rw [HCut.out]
    clear hx
    go_enter Tryd.func18, Tryd.ntmps18
    go_wp2
    go_ret
    exact ⟨rfl, rfl⟩
theorem refCutB_c (A : Option Addr) (n c : Nat) (l : List CellV) (w : World) (hr : ReadsS cellV 4 w A n c l) :
    Calls Tryd.prog 18 #[.slice A n c] w fun e w' => e = .returned (.slice A (cutN l n) c) ∧ w = w' := by
  induction n generalizing l with
  | zero =>
    clear hr
    go_enter Tryd.func18, Tryd.ntmps18
    go_wp2
    go_ret
    exact ⟨rfl, rfl⟩
  | succ p ih =>
    have h := ih (l.take p) (readsS_pre hr p (by omega))
    rw [cutN_take _ _ _ (Nat.le_refl _)] at h
    exact refCutB_step p (p + 1) (Lib.hid rfl) A c l w hr h
end Go.Proofs.YtdldffgdipedpaaDoor
