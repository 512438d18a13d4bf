/- What Apply of the document's answer of layer 12 returns, for every pen that may be and every slice of numbers, as a walk through the translated text. Conditions: the slice reads as a list. -/
import Derived.Test.YtajllkfoaigdlaaDoorPenR1
import Derived.Test.YtajllkfoaigdlaaDoorPen2
namespace Go.Proofs.YtajllkfoaigdlaaDoor
open Go.ChangeShapes Go.WideShapes Go.RowKit
theorem marks_at : ∀ k, k < 7 → marksV[k * 2]? = some (.int .i64 (kMark k : Int)) ∧ marksV[k * 2 + 1]? = some (.int .i64 (bMark k : Int)) := by
  intro k hk
  have h : k = 0 ∨ k = 1 ∨ k = 2 ∨ k = 3 ∨ k = 4 ∨ k = 5 ∨ k = 6 := by omega
  rcases h with rfl | rfl | rfl | rfl | rfl | rfl | rfl <;> exact ⟨rfl, rfl⟩
theorem kMark_le : ∀ k, k < 7 → 1 ≤ kMark k ∧ kMark k ≤ 9 := by decide
/-- The document's Apply: the pen as it has become, the place in the numbers. -/
structure RpSt (w wr : World) (z : Nat) (p : PenN) (A : Option Addr) (n c : Nat) (l : List Int) (a : Nat) (q : PenN) : Prop where
  box : Blk wr z 23 (penW p)
  res : Blk wr (z + 1) 23 (penW (0, 0, 0))
  row : ReadsI .i64 wr A n c l
  ok : p.ok
  eq : applyL p (l.drop a) = q
  bel : Below z w wr
/-- Its loop through the marks. -/
structure RmSt (w wr : World) (z : Nat) (p : PenN) (x : Int) (g k : Nat) (A : Option Addr) (n c : Nat) (l : List Int) : Prop where
  box : Blk wr z 23 (penW (p.1, p.2.1, refM x k p.2.2))
  res : Blk wr (z + 1) 23 (penW (0, 0, 0))
  mks : Blk wr g 40 marksV
  row : ReadsI .i64 wr A n c l
  bel : Below z w wr
set_option maxHeartbeats 12800000 in
set_option maxRecDepth 100000 in
theorem refApply_c (p : PenN) (A : Option Addr) (n c : Nat) (l : List Int) (w : World) (hp : p.ok) (hr : ReadsI .i64 w A n c l) (hn40 : n ≤ 1000) : Calls Tryd.prog 10 #[.agg (penW p).toArray, .slice A n c] w (PenPost w (applyA p l)) := by
  have hlen := hr.len
  cases hl : l with
  | nil =>
    subst hl
    obtain rfl : n = 0 := hlen.symm
    rw [show applyA p [] = (0, 0, 0) from rfl]
    obtain ⟨f, b, m⟩ := p
    simp only [penW]
    clear hr hlen
    go_enter Tryd.func10, Tryd.ntmps10
    go_wp2
    refine bodyPost_ret (v := .agg (penW (0, 0, 0)).toArray) ?_ rfl ⟨rfl, below_two _ _ _⟩
    exact results_cell_row rfl _ _ (w.heap.size + 1) _ _ _ _ rfl (blk_two _ _ _ (0, 0, 0)) Tryd.underlying23 rfl (by kernel_rfl)
  | cons x0 r0 =>
    rw [show applyA p (x0 :: r0) = applyL p l by unfold applyA; rw [if_neg (by simp), hl]]
    have hn0 : 0 < n := by rw [hl] at hlen; simp at hlen; omega
    have t0 : decide (n = 0) = false ∧ ((n : Int) == 0) = false := by simp; omega
    obtain ⟨t0, t0'⟩ := t0
    have hoff : ∀ ad, A = some ad → ad.block < w.heap.size := by
      obtain ⟨ad, e, h, _⟩ := hr.cell 0 (by rw [hlen]; exact hn0)
      intro ad' e'
      rw [e] at e'; cases e'; exact h
    clear hl
    obtain ⟨q, hq⟩ : ∃ q, Hid (applyL p l = q) := ⟨_, rfl⟩
    rw [hq.out]
    obtain ⟨z, hz⟩ : ∃ z, Hid (w.heap.size = z) := ⟨_, rfl⟩
    rw [hz.out] at hoff
    have HLen := Lib.hid hlen
    have HR := Lib.hid hr
    have HOff := Lib.hid hoff
    have HP := Lib.hid hp
    clear hr hp hlen hoff
    obtain ⟨f0, b0, m0⟩ := p
    simp only [penW]
    go_enter Tryd.func10, Tryd.ntmps10
    go_upto_region 1 with (fail)
    rw [hz.out]
    refine name_wp (fun w1 => RpSt w w1 z (f0, b0, m0) A n c l 0 q) ?_ ?_
    · rw [← hz.out]
      exact ⟨(Blk.new w _ (penW (f0, b0, m0))).alloc _, blk_two _ _ _ (0, 0, 0), HR.out.keep (below_two _ _ _), HP.out, hq.out, below_two _ _ _⟩
    intro w1 hs1
    have HS1 := Lib.hid hs1
    clear hs1 HR HP hq
    go_upto_region 4 with (fail)
    go_loopw [5] (fun v wr => ∃ (a : Nat) (p' : PenN), v = .int .i64 a ∧ Hid (a ≤ n + 4) ∧ Hid (RpSt w wr z p' A n c l a q)) (fun v _ => n + 4 - (intOf v).toNat)
    case atStart => exact ⟨0, (f0, b0, m0), rfl, Lib.hid (Nat.zero_le _), HS1⟩
    case round =>
      obtain ⟨a, p', rfl, ha, HS⟩ := hrel
      clear HS1 t0 t0' hn0
      obtain ⟨f, b, m⟩ := p'
      have c0 : wr.cell? ⟨z, 0, none⟩ = some (.int .i64 (f : Int)) := HS.out.box.cell 0
      have c1 : wr.cell? ⟨z, 1, none⟩ = some (.int .i64 (b : Int)) := HS.out.box.cell 1
      have c2 : wr.cell? ⟨z, 2, none⟩ = some (.int .i64 (m : Int)) := HS.out.box.cell 2
      by_cases hlt : a < n
      rotate_left
      · have t1 : decide ((a : Int) < (n : Int)) = false ∧ decide (a < n) = false := by simp; omega
        obtain ⟨t1, t1'⟩ := t1
        have hq : q = (f, b, m) := by rw [← HS.out.eq, List.drop_eq_nil_of_le (by rw [HLen.out]; omega), applyL_nil]
        subst hq
        go_wp2_with ((with_reducible refine at_store 23 ?_); refine wpList_store_at rfl rfl 23 (.tmp 4) (.tmp 177) rfl (z + 1) 0 rfl (penW (f, b, m)) rfl _ _ HS.out.res (Nat.le_refl 3) (one_penW _) sizePen ?_; intro w8 hb8 hg8; rw [splice_all _ _ (by rfl)] at hb8; have HB8 := Lib.hid hb8; have HG8 := Lib.hid hg8; clear hb8 hg8)
        refine bodyPost_ret (v := .agg (penW (f, b, m)).toArray) ?_ rfl ⟨rfl, ?_⟩
        · exact results_cell_row rfl _ _ (z + 1) _ _ _ _ rfl HB8.out Tryd.underlying23 rfl (by kernel_rfl)
        · rw [hz.out]
          exact HS.out.bel.grown HG8.out (by have := HS.out.bel.size; have := hz.out; omega) (fun x hx => by cases hx; omega)
      · have hal : a < l.length := by rw [HLen.out]; exact hlt
        have t1 : decide ((a : Int) < (n : Int)) = true ∧ decide (a < n) = true := by simp; omega
        obtain ⟨t1, t1'⟩ := t1
        have hlt2 : (a : Int) < (n : Int) := by omega
        have a0 : (0 : Int) ≤ (a : Int) := by omega
        have a1 : (a : Int) ≤ 1000 := by omega
        obtain ⟨ad, rfl, _, hcx⟩ := HS.out.row.cell a hal
        have hwf := range_i64 _ (HS.out.row.wf l[a] (List.getElem_mem hal))
        have hdr : l.drop a = l[a] :: l.drop (a + 1) := List.drop_eq_getElem_cons hal
        have hEq := HS.out.eq
        rw [hdr] at hEq
        obtain ⟨x, hx⟩ : ∃ x, Hid (l[a] = x) := ⟨l[a], rfl⟩
        rw [hx.out] at hcx hwf hEq
        have HEq := Lib.hid hEq
        clear hdr hEq
        by_cases hx0 : x ≤ 0
        · have t2 : decide (x ≤ 0) = true := by simpa using hx0
          go_wp2_with ((with_reducible refine at_store 23 ?_); refine wpList_store_at rfl rfl 23 (.tmp 2) (.tmp 28) rfl z 0 rfl (penW (0, 0, 0)) rfl _ _ HS.out.box (Nat.le_refl 3) (one_penW _) sizePen ?_; intro w8 hb8 hg8; rw [splice_all _ _ (by rfl)] at hb8; have HB8 := Lib.hid hb8; have HG8 := Lib.hid hg8; clear hb8 hg8)
          go_roundw
          case rel =>
            refine ⟨a + 1, (0, 0, 0), by go_num, Lib.hid (by omega), Lib.hid ⟨HB8.out, HS.out.res.grown HG8.out (by simp), HS.out.row.off_kept (fun ad' e => Nat.ne_of_lt (HOff.out ad' e)) HG8.out, ⟨by decide, by decide, by decide⟩, ?_, ?_⟩⟩
            · rw [← HEq.out, applyL_one _ _ (by omega)]
              congr 1
              unfold change
              rw [if_pos hx0]
            · exact HS.out.bel.grown HG8.out (by have := HS.out.box.lt; omega) (fun x hx => by cases hx; omega)
          case measure => simp [intOf]; omega
        · have t2 : decide (x ≤ 0) = false := by simpa using hx0
          obtain ⟨g, hg⟩ : ∃ g, Hid (wr.heap.size = g) := ⟨_, rfl⟩
          have hzg : z + 1 < g := by have := HS.out.res.lt; have := hg.out; omega
          have HM := pMarks_c wr
          rw [hg.out] at HM
          replace HM := Lib.hid HM
          go_upto_region 9 with (fail)
          generalize wr = wo at *
          go_wp2_with fail
          refine HM.out.mono ?_
          rintro en w2 ⟨rfl, hw2⟩
          have HR2 : Hid (RmSt w w2 z (f, b, m) x g 0 (some ad) n c l) := by
            subst hw2
            refine ⟨HS.out.box.alloc _, HS.out.res.alloc _, ?_, HS.out.row.keep ((Below.refl _ _).alloc (Nat.le_refl _) _), HS.out.bel.alloc (Nat.le_of_lt HS.out.box.lt) _⟩
            rw [← hg.out]
            exact Blk.new wo _ marksV
          clear hw2 HM c0 c1 c2 hcx
          go_upto_region 11 with (fail)
          go_loopw [8] (fun i wr => ∃ k : Nat, k ≤ 7 ∧ i = .int .i64 k ∧ Hid (RmSt w wr z (f, b, m) x g k (some ad) n c l)) (fun i _ => 7 - (intOf i).toNat)
          case atStart => exact ⟨0, Nat.zero_le _, rfl, HR2⟩
          case round =>
            obtain ⟨k, hk, rfl, HK⟩ := hrel
            clear HR2
            by_cases hk7 : k < 7
            · have t3 : decide ((k : Int) < 7) = true ∧ decide (k < 7) = true := by simp; omega
              obtain ⟨t3, t3'⟩ := t3
              have k0 : (0 : Int) ≤ (k : Int) := by omega
              have hk2 : (k : Int) < 7 := by omega
              have hkm := kMark_le k hk7
              have hbm := bMark_pos k hk7
              have d0 : wr.cell? ⟨g, k * 2, none⟩ = some (.int .i64 (kMark k : Int)) := by rw [HK.out.mks.cell]; exact (marks_at k hk7).1
              have d1 : wr.cell? ⟨g, k * 2 + 1, none⟩ = some (.int .i64 (bMark k : Int)) := by rw [HK.out.mks.cell]; exact (marks_at k hk7).2
              have hmk := refM_lt x HS.out.ok.2.2 k hk
              have hsn := (setN_lt _ hmk k hk7).2.2
              have HBox := Lib.hid HK.out.box
              obtain ⟨K, hK⟩ : ∃ K, Hid (kMark k = K) := ⟨_, rfl⟩
              obtain ⟨B, hB⟩ : ∃ B, Hid (bMark k = B) := ⟨_, rfl⟩
              simp only at hmk hsn HBox
              obtain ⟨M, hM⟩ : ∃ M, Hid (refM x k m = M) := ⟨_, rfl⟩
              rw [hM.out] at hmk hsn HBox
              rw [hB.out] at hsn hbm d1
              rw [hK.out] at hkm d0
              have HS1 : Hid (∀ W, Calls Tryd.prog 17 #[.int .i64 (M : Int), .int .i64 (B : Int), .bool true] W fun en w' => en = .returned (.int .i64 ((setN M B true : Nat) : Int)) ∧ W = w') := fun W => pSet_c M B true W hmk hbm.1 hbm.2 hsn
              have HS2 : Hid (∀ W, Calls Tryd.prog 17 #[.int .i64 (M : Int), .int .i64 (B : Int), .bool false] W fun en w' => en = .returned (.int .i64 ((setN M B false : Nat) : Int)) ∧ W = w') := fun W => pSet_c M B false W hmk hbm.1 hbm.2 hsn
              obtain ⟨M1, hM1⟩ : ∃ M1, Hid (setN M B true = M1) := ⟨_, rfl⟩
              obtain ⟨M2, hM2⟩ : ∃ M2, Hid (setN M B false = M2) := ⟨_, rfl⟩
              rw [hM1.out] at HS1
              rw [hM2.out] at HS2
              have e2 : wr.cell? ⟨z, 2, none⟩ = some (.int .i64 (M : Int)) := HBox.out.cell 2
              have f2 := HBox.out.frozen 2
              obtain ⟨hk1, hk9⟩ := hkm
              have gz1 : ¬ (g = z) := by omega
              have gz2 : ¬ (z = g) := by omega
              have gz3 : (g == z) = false := by rw [beq_eq_false_iff_ne]; omega
              clear hbm hsn hmk
              -- BEGIN-MARKS
              have hcs : (x = (K : Int)) ∨ (x ≠ (K : Int) ∧ x = (K : Int) + 20 ∧ 22 < x) ∨ (x ≠ (K : Int) ∧ x = (K : Int) + 20 ∧ x = 22 ∧ K ≤ 2) ∨ (x ≠ (K : Int) ∧ x = (K : Int) + 20 ∧ ¬ 22 < x ∧ x ≠ 22) ∨ (x ≠ (K : Int) ∧ x ≠ (K : Int) + 20 ∧ x = 22 ∧ K ≤ 2) ∨ (x ≠ (K : Int) ∧ x ≠ (K : Int) + 20 ∧ x = 22 ∧ ¬ K ≤ 2) ∨ (x ≠ (K : Int) ∧ x ≠ (K : Int) + 20 ∧ x ≠ 22) := by omega
              rcases hcs with hc | hc | hc | hc | hc | hc | hc
              · have s1 : (x == (K : Int)) = true := by rw [beq_iff_eq]; omega
                have s2 : (x == (K : Int) + 20) = false := by rw [beq_eq_false_iff_ne]; omega
                have s4 : (x == 22) = false := by rw [beq_eq_false_iff_ne]; omega
                have HNew : Hid (refM x (k + 1) m = M1) := by
                  show offN x k (onN x k (refM x k m)) = _
                  unfold offN onN offT
                  rw [hK.out, hB.out, hM.out, if_neg (by rw [decide_eq_true_eq]; omega), if_pos (by omega), hM1.out]
                clear hc
                as_aux_lemma =>
                  go_upto_region 14 with (fail)
                  go_region_with ((go_at_call 17; refine (HS1.out _).mono ?_; rintro en w5 ⟨rfl, rfl⟩))
                  all_goals
                    go_wp2
                    go_roundw
                    case rel => exact ⟨k + 1, by omega, by go_num, Lib.hid ⟨by rw [HNew.out]; exact (HBox.out.drew).set_ 2 _, (HK.out.res.drew).far (by simp) _, (HK.out.mks.drew).far (by simp; omega) _, (HK.out.row.of_heap (w' := wr.drew) rfl).off_kept (fun ad' e => Nat.ne_of_lt (HOff.out ad' e)) (only_setCell (World.grownBy.refl wr.drew _) rfl _), (belowDrewN HK.out.bel 1).setCell (Nat.le_refl _) _⟩⟩
                    case measure => simp [intOf]; omega
              · have s1 : (x == (K : Int)) = false := by rw [beq_eq_false_iff_ne]; omega
                have s2 : (x == (K : Int) + 20) = true := by rw [beq_iff_eq]; omega
                have s3 : decide (22 < x) = true := by simp; omega
                have HNew : Hid (refM x (k + 1) m = M2) := by
                  show offN x k (onN x k (refM x k m)) = _
                  unfold offN onN offT
                  rw [hK.out, hB.out, hM.out, if_pos (by rw [decide_eq_true_eq]; omega), if_neg (by omega), hM2.out]
                clear hc
                as_aux_lemma =>
                  go_upto_region 16 with (fail)
                  go_region_with ((go_at_call 17; refine (HS2.out _).mono ?_; rintro en w5 ⟨rfl, rfl⟩))
                  all_goals
                    go_wp2
                    go_roundw
                    case rel => exact ⟨k + 1, by omega, by go_num, Lib.hid ⟨by rw [HNew.out]; exact (HBox.out.drew).set_ 2 _, (HK.out.res.drew).far (by simp) _, (HK.out.mks.drew).far (by simp; omega) _, (HK.out.row.of_heap (w' := wr.drew) rfl).off_kept (fun ad' e => Nat.ne_of_lt (HOff.out ad' e)) (only_setCell (World.grownBy.refl wr.drew _) rfl _), (belowDrewN HK.out.bel 1).setCell (Nat.le_refl _) _⟩⟩
                    case measure => simp [intOf]; omega
              · have s1 : (x == (K : Int)) = false := by rw [beq_eq_false_iff_ne]; omega
                have s2 : (x == (K : Int) + 20) = true := by rw [beq_iff_eq]; omega
                have s3 : decide (22 < x) = false := by simp; omega
                have s4 : (x == 22) = true := by rw [beq_iff_eq]; omega
                have s5 : decide ((K : Int) ≤ 2) = true ∧ decide (K ≤ 2) = true := by simp; omega
                obtain ⟨s5, s5'⟩ := s5
                have HNew : Hid (refM x (k + 1) m = M2) := by
                  show offN x k (onN x k (refM x k m)) = _
                  unfold offN onN offT
                  rw [hK.out, hB.out, hM.out, if_pos (by rw [decide_eq_true_eq]; omega), if_neg (by omega), hM2.out]
                clear hc
                as_aux_lemma =>
                  go_upto_region 16 with (fail)
                  go_region_with ((go_at_call 17; refine (HS2.out _).mono ?_; rintro en w5 ⟨rfl, rfl⟩))
                  all_goals
                    go_wp2
                    go_roundw
                    case rel => exact ⟨k + 1, by omega, by go_num, Lib.hid ⟨by rw [HNew.out]; exact (HBox.out.drew).set_ 2 _, (HK.out.res.drew).far (by simp) _, (HK.out.mks.drew).far (by simp; omega) _, (HK.out.row.of_heap (w' := wr.drew) rfl).off_kept (fun ad' e => Nat.ne_of_lt (HOff.out ad' e)) (only_setCell (World.grownBy.refl wr.drew _) rfl _), (belowDrewN HK.out.bel 1).setCell (Nat.le_refl _) _⟩⟩
                    case measure => simp [intOf]; omega
              · have s1 : (x == (K : Int)) = false := by rw [beq_eq_false_iff_ne]; omega
                have s2 : (x == (K : Int) + 20) = true := by rw [beq_iff_eq]; omega
                have s3 : decide (22 < x) = false := by simp; omega
                have s4 : (x == 22) = false := by rw [beq_eq_false_iff_ne]; omega
                have HNew : Hid (refM x (k + 1) m = M) := by
                  show offN x k (onN x k (refM x k m)) = _
                  unfold offN onN offT
                  rw [hK.out, hB.out, hM.out, if_neg (by rw [decide_eq_true_eq]; omega), if_neg (by omega)]
                clear hc
                as_aux_lemma =>
                  go_wp2
                  go_roundw
                  case rel => exact ⟨k + 1, by omega, by go_num, Lib.hid ⟨by rw [HNew.out]; exact HBox.out, HK.out.res, HK.out.mks, HK.out.row, HK.out.bel⟩⟩
                  case measure => simp [intOf]; omega
              · have s1 : (x == (K : Int)) = false := by rw [beq_eq_false_iff_ne]; omega
                have s2 : (x == (K : Int) + 20) = false := by rw [beq_eq_false_iff_ne]; omega
                have s4 : (x == 22) = true := by rw [beq_iff_eq]; omega
                have s5 : decide ((K : Int) ≤ 2) = true ∧ decide (K ≤ 2) = true := by simp; omega
                obtain ⟨s5, s5'⟩ := s5
                have HNew : Hid (refM x (k + 1) m = M2) := by
                  show offN x k (onN x k (refM x k m)) = _
                  unfold offN onN offT
                  rw [hK.out, hB.out, hM.out, if_pos (by rw [decide_eq_true_eq]; omega), if_neg (by omega), hM2.out]
                clear hc
                as_aux_lemma =>
                  go_upto_region 16 with (fail)
                  go_region_with ((go_at_call 17; refine (HS2.out _).mono ?_; rintro en w5 ⟨rfl, rfl⟩))
                  all_goals
                    go_wp2
                    go_roundw
                    case rel => exact ⟨k + 1, by omega, by go_num, Lib.hid ⟨by rw [HNew.out]; exact (HBox.out.drew).set_ 2 _, (HK.out.res.drew).far (by simp) _, (HK.out.mks.drew).far (by simp; omega) _, (HK.out.row.of_heap (w' := wr.drew) rfl).off_kept (fun ad' e => Nat.ne_of_lt (HOff.out ad' e)) (only_setCell (World.grownBy.refl wr.drew _) rfl _), (belowDrewN HK.out.bel 1).setCell (Nat.le_refl _) _⟩⟩
                    case measure => simp [intOf]; omega
              · have s1 : (x == (K : Int)) = false := by rw [beq_eq_false_iff_ne]; omega
                have s2 : (x == (K : Int) + 20) = false := by rw [beq_eq_false_iff_ne]; omega
                have s4 : (x == 22) = true := by rw [beq_iff_eq]; omega
                have s5 : decide ((K : Int) ≤ 2) = false ∧ decide (K ≤ 2) = false := by simp; omega
                obtain ⟨s5, s5'⟩ := s5
                have HNew : Hid (refM x (k + 1) m = M) := by
                  show offN x k (onN x k (refM x k m)) = _
                  unfold offN onN offT
                  rw [hK.out, hB.out, hM.out, if_neg (by rw [decide_eq_true_eq]; omega), if_neg (by omega)]
                clear hc
                as_aux_lemma =>
                  go_wp2
                  go_roundw
                  case rel => exact ⟨k + 1, by omega, by go_num, Lib.hid ⟨by rw [HNew.out]; exact HBox.out, HK.out.res, HK.out.mks, HK.out.row, HK.out.bel⟩⟩
                  case measure => simp [intOf]; omega
              · have s1 : (x == (K : Int)) = false := by rw [beq_eq_false_iff_ne]; omega
                have s2 : (x == (K : Int) + 20) = false := by rw [beq_eq_false_iff_ne]; omega
                have s4 : (x == 22) = false := by rw [beq_eq_false_iff_ne]; omega
                have HNew : Hid (refM x (k + 1) m = M) := by
                  show offN x k (onN x k (refM x k m)) = _
                  unfold offN onN offT
                  rw [hK.out, hB.out, hM.out, if_neg (by rw [decide_eq_true_eq]; omega), if_neg (by omega)]
                clear hc
                as_aux_lemma =>
                  go_wp2
                  go_roundw
                  case rel => exact ⟨k + 1, by omega, by go_num, Lib.hid ⟨by rw [HNew.out]; exact HBox.out, HK.out.res, HK.out.mks, HK.out.row, HK.out.bel⟩⟩
                  case measure => simp [intOf]; omega
              -- END-MARKS
            · obtain rfl : k = 7 := by omega
              have t3 : decide (((7 : Nat) : Int) < 7) = false := by decide
              have HBox := Lib.hid HK.out.box
              simp only at HBox
              have hcr := change_ref HS.out.ok (show 0 < x by omega)
              have hok := change_ok x HS.out.ok
              simp only at hcr
              have hc3 := colN_range x 30
              have hc4 := colN_range x 40
              have HC3 : Hid (∀ W, Calls Tryd.prog 18 #[.int .i64 x, .int .i64 30] W fun en w' => en = .returned (.int .i64 (colN x 30)) ∧ W = w') := fun W => pColour_c x 30 W (by decide) hwf.1 hwf.2
              have HC4 : Hid (∀ W, Calls Tryd.prog 18 #[.int .i64 x, .int .i64 40] W fun en w' => en = .returned (.int .i64 (colN x 40)) ∧ W = w') := fun W => pColour_c x 40 W (by decide) hwf.1 hwf.2
              have fr0 := HBox.out.frozen 0
              have fr1 := HBox.out.frozen 1
              have e0 : wr.cell? ⟨z, 0, none⟩ = some (.int .i64 (f : Int)) := HBox.out.cell 0
              have e1 : wr.cell? ⟨z, 1, none⟩ = some (.int .i64 (b : Int)) := HBox.out.cell 1
              by_cases hx38 : x = 38 ∨ x = 48
              rotate_left
              · have s1 : (x != 38) = true ∧ (x != 48) = true ∧ decide (x = 38) = false ∧ decide (x = 48) = false := by simp; omega
                obtain ⟨s1, s2, s3, s4⟩ := s1
                have HE2 : Hid (applyL (change (f, b, m) x) (l.drop (a + 1)) = q) := by
                  show _ = q
                  rw [← applyL_one _ _ hx38]; exact HEq.out
                rw [hcr] at HE2 hok
                obtain ⟨M, hM⟩ : ∃ M, Hid (refM x 7 m = M) := ⟨_, rfl⟩
                rw [hM.out] at HE2 hok HBox
                replace hok := Lib.hid hok
                clear hcr hx38
                generalize colN x 30 = y1 at *
                generalize colN x 40 = y2 at *
                -- BEGIN-COLS
                by_cases q1 : 0 ≤ y1 <;> by_cases q2 : 0 ≤ y2
                · have g1 : decide (0 ≤ y1) = true := by simp; omega
                  have g2 : decide (0 ≤ y2) = true := by simp; omega
                  obtain ⟨v1, rfl⟩ : ∃ v : Nat, y1 = v := ⟨y1.toNat, by omega⟩
                  obtain ⟨v2, rfl⟩ : ∃ v : Nat, y2 = v := ⟨y2.toNat, by omega⟩
                  rw [show keepN f (v1 : Int) = v1 by unfold keepN; rw [if_pos (by omega)]; rfl, show keepN b (v2 : Int) = v2 by unfold keepN; rw [if_pos (by omega)]; rfl] at HE2 hok
                  clear q1 q2
                  as_aux_lemma =>
                    go_wp2_with fail
                    refine (HC3.out _).mono ?_
                    rintro en w5 ⟨rfl, rfl⟩
                    go_wp2_with fail
                    refine (HC4.out _).mono ?_
                    rintro en w5 ⟨rfl, rfl⟩
                    go_wp2
                    go_roundw
                    case rel => exact ⟨a + 1, (v1, v2, M), by go_num, Lib.hid (by omega), Lib.hid ⟨((HBox.out).set_ 0 _).set_ 1 _, ((HK.out.res).far (by simp) _).far (by simp) _, ((HK.out.row).off_kept (fun ad' e => Nat.ne_of_lt (HOff.out ad' e)) (only_setCell (World.grownBy.refl _ _) rfl _)).off_kept (fun ad' e => Nat.ne_of_lt (HOff.out ad' e)) (only_setCell (World.grownBy.refl _ _) rfl _), hok.out, HE2.out, ((HK.out.bel).setCell (Nat.le_refl _) _).setCell (Nat.le_refl _) _⟩⟩
                    case measure => simp [intOf]; omega
                · have g1 : decide (0 ≤ y1) = true := by simp; omega
                  have g2 : decide (0 ≤ y2) = false := by simp; omega
                  obtain ⟨v1, rfl⟩ : ∃ v : Nat, y1 = v := ⟨y1.toNat, by omega⟩
                  rw [show keepN f (v1 : Int) = v1 by unfold keepN; rw [if_pos (by omega)]; rfl, show keepN b y2 = b by unfold keepN; rw [if_neg q2]] at HE2 hok
                  clear q1 q2
                  as_aux_lemma =>
                    go_wp2_with fail
                    refine (HC3.out _).mono ?_
                    rintro en w5 ⟨rfl, rfl⟩
                    go_wp2_with fail
                    refine (HC4.out _).mono ?_
                    rintro en w5 ⟨rfl, rfl⟩
                    go_wp2
                    go_roundw
                    case rel => exact ⟨a + 1, (v1, b, M), by go_num, Lib.hid (by omega), Lib.hid ⟨(HBox.out).set_ 0 _, (HK.out.res).far (by simp) _, (HK.out.row).off_kept (fun ad' e => Nat.ne_of_lt (HOff.out ad' e)) (only_setCell (World.grownBy.refl _ _) rfl _), hok.out, HE2.out, (HK.out.bel).setCell (Nat.le_refl _) _⟩⟩
                    case measure => simp [intOf]; omega
                · have g1 : decide (0 ≤ y1) = false := by simp; omega
                  have g2 : decide (0 ≤ y2) = true := by simp; omega
                  obtain ⟨v2, rfl⟩ : ∃ v : Nat, y2 = v := ⟨y2.toNat, by omega⟩
                  rw [show keepN f y1 = f by unfold keepN; rw [if_neg q1], show keepN b (v2 : Int) = v2 by unfold keepN; rw [if_pos (by omega)]; rfl] at HE2 hok
                  clear q1 q2
                  as_aux_lemma =>
                    go_wp2_with fail
                    refine (HC3.out _).mono ?_
                    rintro en w5 ⟨rfl, rfl⟩
                    go_wp2_with fail
                    refine (HC4.out _).mono ?_
                    rintro en w5 ⟨rfl, rfl⟩
                    go_wp2
                    go_roundw
                    case rel => exact ⟨a + 1, (f, v2, M), by go_num, Lib.hid (by omega), Lib.hid ⟨(HBox.out).set_ 1 _, (HK.out.res).far (by simp) _, (HK.out.row).off_kept (fun ad' e => Nat.ne_of_lt (HOff.out ad' e)) (only_setCell (World.grownBy.refl _ _) rfl _), hok.out, HE2.out, (HK.out.bel).setCell (Nat.le_refl _) _⟩⟩
                    case measure => simp [intOf]; omega
                · have g1 : decide (0 ≤ y1) = false := by simp; omega
                  have g2 : decide (0 ≤ y2) = false := by simp; omega
                  rw [show keepN f y1 = f by unfold keepN; rw [if_neg q1], show keepN b y2 = b by unfold keepN; rw [if_neg q2]] at HE2 hok
                  clear q1 q2
                  as_aux_lemma =>
                    go_wp2_with fail
                    refine (HC3.out _).mono ?_
                    rintro en w5 ⟨rfl, rfl⟩
                    go_wp2_with fail
                    refine (HC4.out _).mono ?_
                    rintro en w5 ⟨rfl, rfl⟩
                    go_wp2
                    go_roundw
                    case rel => exact ⟨a + 1, (f, b, M), by go_num, Lib.hid (by omega), Lib.hid ⟨HBox.out, HK.out.res, HK.out.row, hok.out, HE2.out, HK.out.bel⟩⟩
                    case measure => simp [intOf]; omega
                -- END-COLS
              · have HM : Hid (refM x 7 m = m) := refM_big (by omega) m 7 (Nat.le_refl _)
                have hy3 : colN x 30 = -1 := by rcases hx38 with rfl | rfl <;> decide
                have hy4 : colN x 40 = -1 := by rcases hx38 with rfl | rfl <;> decide
                rw [hy3] at HC3
                rw [hy4] at HC4
                rw [HM.out] at HBox
                have e2 : wr.cell? ⟨z, 2, none⟩ = some (.int .i64 (m : Int)) := HBox.out.cell 2
                have HD : Hid (∀ u, l.drop (a + 1 + u) = (l.drop (a + 1)).drop u) := fun u => by rw [List.drop_drop]
                have HOk := Lib.hid HS.out.ok
                have HRow := Lib.hid HK.out.row
                clear hcr hok hy3 hy4 hc3 hc4 hx0
                obtain ⟨r, hr⟩ : ∃ r, Hid (l.drop (a + 1) = r) := ⟨_, rfl⟩
                rw [hr.out] at HD HEq
                have hrl : Hid (r.length = n - (a + 1)) := by show _ = _; rw [← hr.out, List.length_drop, HLen.out]
                have HCell : Hid (∀ i, (h : i < r.length) → wr.cell? (ad.add (a + 1 + i)) = some (.int .i64 r[i])) := by
                  intro i hi
                  obtain ⟨ad', e, _, hc⟩ := HRow.out.cell (a + 1 + i) (by rw [HLen.out]; have := hrl.out; omega)
                  cases e
                  rw [hc]
                  simp only [← hr.out, List.getElem_drop]
                have hxx : (x == 38) = decide (x = 38) := by rw [Bool.eq_iff_iff]; simp
                rcases hx38 with rfl | rfl
                -- BEGIN-TOLD
                · go_wp2_with fail
                  refine (HC3.out _).mono ?_
                  rintro en w5 ⟨rfl, rfl⟩
                  go_wp2_with fail
                  refine (HC4.out _).mono ?_
                  rintro en w5 ⟨rfl, rfl⟩
                  go_upto_region 24 with (fail)
                  clear HC3 HC4 t1 t1' t2 t3 hxx hwf HRow
                  match r, hrl, HD, HEq, HCell with
                  | [], hrl, HD, HEq, HCell =>
                    have hn : Hid (n = a + 1) := by show _ = _; have := hrl.out; simp at this; omega
                    have hnn := hn.out
                    have q1 : decide ((a : Int) + 1 + 1 < (n : Int)) = false ∧ decide (a + 1 + 1 < n) = false := by simp; omega
                    obtain ⟨q1, q1'⟩ := q1
                    have q2 : decide ((n : Int) ≤ (a : Int) + 1) = true ∧ decide (n ≤ a + 1) = true := by simp; omega
                    obtain ⟨q2, q2'⟩ := q2
                    have HE2 : Hid (applyL (f, b, m) (l.drop (a + 1)) = q) := by
                      show _ = q
                      rw [show a + 1 = a + 1 + 0 by omega, HD.out]
                      exact told_none (.inl rfl) HEq.out rfl rfl
                    clear HD HEq HCell hnn
                    as_aux_lemma =>
                      go_wp2
                      go_roundw
                      case rel => exact ⟨a + 1, (f, b, m), by go_num, Lib.hid (by omega), Lib.hid ⟨HBox.out, HK.out.res, HK.out.row, HOk.out, HE2.out, HK.out.bel⟩⟩
                      case measure => simp [intOf]; omega
                  | [y], hrl, HD, HEq, HCell =>
                    have hn : Hid (n = a + 2) := by show _ = _; have := hrl.out; simp at this; omega
                    have hnn := hn.out
                    have q1 : decide ((a : Int) + 1 + 1 < (n : Int)) = false ∧ decide (a + 1 + 1 < n) = false := by simp; omega
                    obtain ⟨q1, q1'⟩ := q1
                    have q2 : decide ((n : Int) ≤ (a : Int) + 1) = false ∧ decide (n ≤ a + 1) = false := by simp; omega
                    obtain ⟨q2, q2'⟩ := q2
                    have hy : wr.cell? ⟨ad.block, ad.off + (a + 1), none⟩ = some (.int .i64 y) := HCell.out 0 (by simp)
                    have hy2 : (a : Int) + 1 < (n : Int) := by omega
                    by_cases h5 : y = 5
                    · subst h5
                      have HE2 : Hid (applyL (f, b, m) (l.drop (a + 3)) = q) := by
                        show _ = q
                        rw [show a + 3 = a + 1 + 2 by omega, HD.out]
                        exact told_none (.inl rfl) HEq.out (by simp [colZ]) (by simp [colZ])
                      clear HD HEq HCell hnn
                      as_aux_lemma =>
                        go_wp2
                        go_roundw
                        case rel => exact ⟨a + 3, (f, b, m), by go_num, Lib.hid (by omega), Lib.hid ⟨HBox.out, HK.out.res, HK.out.row, HOk.out, HE2.out, HK.out.bel⟩⟩
                        case measure => simp [intOf]; omega
                    · have q3 : (y == 5) = false ∧ decide (y = 5) = false := by simp [h5]
                      obtain ⟨q3, q3'⟩ := q3
                      by_cases h2 : y = 2
                      · subst h2
                        have HE2 : Hid (applyL (f, b, m) (l.drop (a + 5)) = q) := by
                          show _ = q
                          rw [show a + 5 = a + 1 + 4 by omega, HD.out]
                          exact told_none (.inl rfl) HEq.out (by simp [colZ]) (by simp [colZ])
                        clear HD HEq HCell hnn
                        as_aux_lemma =>
                          go_wp2
                          go_roundw
                          case rel => exact ⟨a + 5, (f, b, m), by go_num, Lib.hid (by omega), Lib.hid ⟨HBox.out, HK.out.res, HK.out.row, HOk.out, HE2.out, HK.out.bel⟩⟩
                          case measure => simp [intOf]; omega
                      · have q4 : (y == 2) = false ∧ decide (y = 2) = false := by simp [h2]
                        obtain ⟨q4, q4'⟩ := q4
                        have HE2 : Hid (applyL (f, b, m) (l.drop (a + 2)) = q) := by
                          show _ = q
                          rw [show a + 2 = a + 1 + 1 by omega, HD.out]
                          exact told_none (.inl rfl) HEq.out (by simp [colZ]) (by simp [colZ])
                        clear HD HEq HCell hnn
                        as_aux_lemma =>
                          go_wp2
                          go_roundw
                          case rel => exact ⟨a + 2, (f, b, m), by go_num, Lib.hid (by omega), Lib.hid ⟨HBox.out, HK.out.res, HK.out.row, HOk.out, HE2.out, HK.out.bel⟩⟩
                          case measure => simp [intOf]; omega
                  | y :: y2 :: r2, hrl, HD, HEq, HCell =>
                    have hn : Hid (n = a + 3 + r2.length) := by show _ = _; have := hrl.out; simp at this; omega
                    have hnn := hn.out
                    have q1 : decide ((a : Int) + 1 + 1 < (n : Int)) = true ∧ decide (a + 1 + 1 < n) = true := by simp; omega
                    obtain ⟨q1, q1'⟩ := q1
                    have q2 : decide ((n : Int) ≤ (a : Int) + 1) = false ∧ decide (n ≤ a + 1) = false := by simp; omega
                    obtain ⟨q2, q2'⟩ := q2
                    have hy : wr.cell? ⟨ad.block, ad.off + (a + 1), none⟩ = some (.int .i64 y) := HCell.out 0 (by simp)
                    have hz2 : wr.cell? ⟨ad.block, ad.off + (a + 1 + 1), none⟩ = some (.int .i64 y2) := HCell.out 1 (by simp)
                    have hy2 : (a : Int) + 1 < (n : Int) := by omega
                    have hy3 : (a : Int) + 1 + 1 < (n : Int) := by omega
                    by_cases h5 : y = 5
                    · subst h5
                      by_cases h0 : y2 < 0
                      · have q5 : decide (0 ≤ y2) = false := by simp; omega
                        have HE2 : Hid (applyL (f, b, m) (l.drop (a + 3)) = q) := by
                          show _ = q
                          rw [show a + 3 = a + 1 + 2 by omega, HD.out]
                          exact told_none (.inl rfl) HEq.out (by rw [colZ_bad _ (.inl h0)]) (by rw [colZ_bad _ (.inl h0)])
                        clear HD HEq HCell hnn
                        as_aux_lemma =>
                          go_wp2
                          go_roundw
                          case rel => exact ⟨a + 3, (f, b, m), by go_num, Lib.hid (by omega), Lib.hid ⟨HBox.out, HK.out.res, HK.out.row, HOk.out, HE2.out, HK.out.bel⟩⟩
                          case measure => simp [intOf]; omega
                      · have q5 : decide (0 ≤ y2) = true := by simp; omega
                        by_cases h1 : 255 < y2
                        · have q6 : decide (y2 ≤ 255) = false := by simp; omega
                          have HE2 : Hid (applyL (f, b, m) (l.drop (a + 3)) = q) := by
                            show _ = q
                            rw [show a + 3 = a + 1 + 2 by omega, HD.out]
                            exact told_none (.inl rfl) HEq.out (by rw [colZ_bad _ (.inr h1)]) (by rw [colZ_bad _ (.inr h1)])
                          clear HD HEq HCell hnn
                          as_aux_lemma =>
                            go_wp2
                            go_roundw
                            case rel => exact ⟨a + 3, (f, b, m), by go_num, Lib.hid (by omega), Lib.hid ⟨HBox.out, HK.out.res, HK.out.row, HOk.out, HE2.out, HK.out.bel⟩⟩
                            case measure => simp [intOf]; omega
                        · have q6 : decide (y2 ≤ 255) = true := by simp; omega
                          obtain ⟨k2, rfl⟩ : ∃ k2 : Nat, y2 = k2 := ⟨y2.toNat, by omega⟩
                          have h6 : k2 ≤ 255 := by omega
                          have HE2 : Hid (applyL (k2 + 1, b, m) (l.drop (a + 3)) = q) := by
                            show _ = q
                            rw [show a + 3 = a + 1 + 2 by omega, HD.out]
                            exact told_fg (p := (f, b, m)) HEq.out (by rw [colZ_hit _ (by omega) (by omega)]) (by rw [colZ_hit _ (by omega) (by omega)])
                          clear HD HEq HCell hnn
                          as_aux_lemma =>
                            go_wp2
                            go_roundw
                            case rel => exact ⟨a + 3, (k2 + 1, b, m), by go_num, Lib.hid (by omega), Lib.hid ⟨(HBox.out).set_ 0 _, (HK.out.res).far (by simp) _, (HK.out.row).off_kept (fun ad' e => Nat.ne_of_lt (HOff.out ad' e)) (only_setCell (World.grownBy.refl _ _) rfl _), ⟨by show k2 + 1 ≤ 256; omega, HOk.out.2⟩, HE2.out, (HK.out.bel).setCell (Nat.le_refl _) _⟩⟩
                            case measure => simp [intOf]; omega
                    · have q3 : (y == 5) = false ∧ decide (y = 5) = false := by simp [h5]
                      obtain ⟨q3, q3'⟩ := q3
                      by_cases h2 : y = 2
                      · subst h2
                        have HE2 : Hid (applyL (f, b, m) (l.drop (a + 5)) = q) := by
                          show _ = q
                          rw [show a + 5 = a + 1 + 4 by omega, HD.out]
                          exact told_none (.inl rfl) HEq.out (by rw [colZ_two]) (by rw [colZ_two]; exact drop_two (2 :: y2 :: r2))
                        clear HD HEq HCell hnn
                        as_aux_lemma =>
                          go_wp2
                          go_roundw
                          case rel => exact ⟨a + 5, (f, b, m), by go_num, Lib.hid (by omega), Lib.hid ⟨HBox.out, HK.out.res, HK.out.row, HOk.out, HE2.out, HK.out.bel⟩⟩
                          case measure => simp [intOf]; omega
                      · have q4 : (y == 2) = false ∧ decide (y = 2) = false := by simp [h2]
                        obtain ⟨q4, q4'⟩ := q4
                        have HE2 : Hid (applyL (f, b, m) (l.drop (a + 2)) = q) := by
                          show _ = q
                          rw [show a + 2 = a + 1 + 1 by omega, HD.out]
                          exact told_none (.inl rfl) HEq.out (by rw [colZ_other _ h2 (.inl h5)]) (by rw [colZ_other _ h2 (.inl h5)])
                        clear HD HEq HCell hnn
                        as_aux_lemma =>
                          go_wp2
                          go_roundw
                          case rel => exact ⟨a + 2, (f, b, m), by go_num, Lib.hid (by omega), Lib.hid ⟨HBox.out, HK.out.res, HK.out.row, HOk.out, HE2.out, HK.out.bel⟩⟩
                          case measure => simp [intOf]; omega
                · go_wp2_with fail
                  refine (HC3.out _).mono ?_
                  rintro en w5 ⟨rfl, rfl⟩
                  go_wp2_with fail
                  refine (HC4.out _).mono ?_
                  rintro en w5 ⟨rfl, rfl⟩
                  go_upto_region 24 with (fail)
                  clear HC3 HC4 t1 t1' t2 t3 hxx hwf HRow
                  match r, hrl, HD, HEq, HCell with
                  | [], hrl, HD, HEq, HCell =>
                    have hn : Hid (n = a + 1) := by show _ = _; have := hrl.out; simp at this; omega
                    have hnn := hn.out
                    have q1 : decide ((a : Int) + 1 + 1 < (n : Int)) = false ∧ decide (a + 1 + 1 < n) = false := by simp; omega
                    obtain ⟨q1, q1'⟩ := q1
                    have q2 : decide ((n : Int) ≤ (a : Int) + 1) = true ∧ decide (n ≤ a + 1) = true := by simp; omega
                    obtain ⟨q2, q2'⟩ := q2
                    have HE2 : Hid (applyL (f, b, m) (l.drop (a + 1)) = q) := by
                      show _ = q
                      rw [show a + 1 = a + 1 + 0 by omega, HD.out]
                      exact told_none (.inr rfl) HEq.out rfl rfl
                    clear HD HEq HCell hnn
                    as_aux_lemma =>
                      go_wp2
                      go_roundw
                      case rel => exact ⟨a + 1, (f, b, m), by go_num, Lib.hid (by omega), Lib.hid ⟨HBox.out, HK.out.res, HK.out.row, HOk.out, HE2.out, HK.out.bel⟩⟩
                      case measure => simp [intOf]; omega
                  | [y], hrl, HD, HEq, HCell =>
                    have hn : Hid (n = a + 2) := by show _ = _; have := hrl.out; simp at this; omega
                    have hnn := hn.out
                    have q1 : decide ((a : Int) + 1 + 1 < (n : Int)) = false ∧ decide (a + 1 + 1 < n) = false := by simp; omega
                    obtain ⟨q1, q1'⟩ := q1
                    have q2 : decide ((n : Int) ≤ (a : Int) + 1) = false ∧ decide (n ≤ a + 1) = false := by simp; omega
                    obtain ⟨q2, q2'⟩ := q2
                    have hy : wr.cell? ⟨ad.block, ad.off + (a + 1), none⟩ = some (.int .i64 y) := HCell.out 0 (by simp)
                    have hy2 : (a : Int) + 1 < (n : Int) := by omega
                    by_cases h5 : y = 5
                    · subst h5
                      have HE2 : Hid (applyL (f, b, m) (l.drop (a + 3)) = q) := by
                        show _ = q
                        rw [show a + 3 = a + 1 + 2 by omega, HD.out]
                        exact told_none (.inr rfl) HEq.out (by simp [colZ]) (by simp [colZ])
                      clear HD HEq HCell hnn
                      as_aux_lemma =>
                        go_wp2
                        go_roundw
                        case rel => exact ⟨a + 3, (f, b, m), by go_num, Lib.hid (by omega), Lib.hid ⟨HBox.out, HK.out.res, HK.out.row, HOk.out, HE2.out, HK.out.bel⟩⟩
                        case measure => simp [intOf]; omega
                    · have q3 : (y == 5) = false ∧ decide (y = 5) = false := by simp [h5]
                      obtain ⟨q3, q3'⟩ := q3
                      by_cases h2 : y = 2
                      · subst h2
                        have HE2 : Hid (applyL (f, b, m) (l.drop (a + 5)) = q) := by
                          show _ = q
                          rw [show a + 5 = a + 1 + 4 by omega, HD.out]
                          exact told_none (.inr rfl) HEq.out (by simp [colZ]) (by simp [colZ])
                        clear HD HEq HCell hnn
                        as_aux_lemma =>
                          go_wp2
                          go_roundw
                          case rel => exact ⟨a + 5, (f, b, m), by go_num, Lib.hid (by omega), Lib.hid ⟨HBox.out, HK.out.res, HK.out.row, HOk.out, HE2.out, HK.out.bel⟩⟩
                          case measure => simp [intOf]; omega
                      · have q4 : (y == 2) = false ∧ decide (y = 2) = false := by simp [h2]
                        obtain ⟨q4, q4'⟩ := q4
                        have HE2 : Hid (applyL (f, b, m) (l.drop (a + 2)) = q) := by
                          show _ = q
                          rw [show a + 2 = a + 1 + 1 by omega, HD.out]
                          exact told_none (.inr rfl) HEq.out (by simp [colZ]) (by simp [colZ])
                        clear HD HEq HCell hnn
                        as_aux_lemma =>
                          go_wp2
                          go_roundw
                          case rel => exact ⟨a + 2, (f, b, m), by go_num, Lib.hid (by omega), Lib.hid ⟨HBox.out, HK.out.res, HK.out.row, HOk.out, HE2.out, HK.out.bel⟩⟩
                          case measure => simp [intOf]; omega
                  | y :: y2 :: r2, hrl, HD, HEq, HCell =>
                    have hn : Hid (n = a + 3 + r2.length) := by show _ = _; have := hrl.out; simp at this; omega
                    have hnn := hn.out
                    have q1 : decide ((a : Int) + 1 + 1 < (n : Int)) = true ∧ decide (a + 1 + 1 < n) = true := by simp; omega
                    obtain ⟨q1, q1'⟩ := q1
                    have q2 : decide ((n : Int) ≤ (a : Int) + 1) = false ∧ decide (n ≤ a + 1) = false := by simp; omega
                    obtain ⟨q2, q2'⟩ := q2
                    have hy : wr.cell? ⟨ad.block, ad.off + (a + 1), none⟩ = some (.int .i64 y) := HCell.out 0 (by simp)
                    have hz2 : wr.cell? ⟨ad.block, ad.off + (a + 1 + 1), none⟩ = some (.int .i64 y2) := HCell.out 1 (by simp)
                    have hy2 : (a : Int) + 1 < (n : Int) := by omega
                    have hy3 : (a : Int) + 1 + 1 < (n : Int) := by omega
                    by_cases h5 : y = 5
                    · subst h5
                      by_cases h0 : y2 < 0
                      · have q5 : decide (0 ≤ y2) = false := by simp; omega
                        have HE2 : Hid (applyL (f, b, m) (l.drop (a + 3)) = q) := by
                          show _ = q
                          rw [show a + 3 = a + 1 + 2 by omega, HD.out]
                          exact told_none (.inr rfl) HEq.out (by rw [colZ_bad _ (.inl h0)]) (by rw [colZ_bad _ (.inl h0)])
                        clear HD HEq HCell hnn
                        as_aux_lemma =>
                          go_wp2
                          go_roundw
                          case rel => exact ⟨a + 3, (f, b, m), by go_num, Lib.hid (by omega), Lib.hid ⟨HBox.out, HK.out.res, HK.out.row, HOk.out, HE2.out, HK.out.bel⟩⟩
                          case measure => simp [intOf]; omega
                      · have q5 : decide (0 ≤ y2) = true := by simp; omega
                        by_cases h1 : 255 < y2
                        · have q6 : decide (y2 ≤ 255) = false := by simp; omega
                          have HE2 : Hid (applyL (f, b, m) (l.drop (a + 3)) = q) := by
                            show _ = q
                            rw [show a + 3 = a + 1 + 2 by omega, HD.out]
                            exact told_none (.inr rfl) HEq.out (by rw [colZ_bad _ (.inr h1)]) (by rw [colZ_bad _ (.inr h1)])
                          clear HD HEq HCell hnn
                          as_aux_lemma =>
                            go_wp2
                            go_roundw
                            case rel => exact ⟨a + 3, (f, b, m), by go_num, Lib.hid (by omega), Lib.hid ⟨HBox.out, HK.out.res, HK.out.row, HOk.out, HE2.out, HK.out.bel⟩⟩
                            case measure => simp [intOf]; omega
                        · have q6 : decide (y2 ≤ 255) = true := by simp; omega
                          obtain ⟨k2, rfl⟩ : ∃ k2 : Nat, y2 = k2 := ⟨y2.toNat, by omega⟩
                          have h6 : k2 ≤ 255 := by omega
                          have HE2 : Hid (applyL (f, k2 + 1, m) (l.drop (a + 3)) = q) := by
                            show _ = q
                            rw [show a + 3 = a + 1 + 2 by omega, HD.out]
                            exact told_bg (p := (f, b, m)) HEq.out (by rw [colZ_hit _ (by omega) (by omega)]) (by rw [colZ_hit _ (by omega) (by omega)])
                          clear HD HEq HCell hnn
                          as_aux_lemma =>
                            go_wp2
                            go_roundw
                            case rel => exact ⟨a + 3, (f, k2 + 1, m), by go_num, Lib.hid (by omega), Lib.hid ⟨(HBox.out).set_ 1 _, (HK.out.res).far (by simp) _, (HK.out.row).off_kept (fun ad' e => Nat.ne_of_lt (HOff.out ad' e)) (only_setCell (World.grownBy.refl _ _) rfl _), ⟨HOk.out.1, by show k2 + 1 ≤ 256; omega, HOk.out.2.2⟩, HE2.out, (HK.out.bel).setCell (Nat.le_refl _) _⟩⟩
                            case measure => simp [intOf]; omega
                    · have q3 : (y == 5) = false ∧ decide (y = 5) = false := by simp [h5]
                      obtain ⟨q3, q3'⟩ := q3
                      by_cases h2 : y = 2
                      · subst h2
                        have HE2 : Hid (applyL (f, b, m) (l.drop (a + 5)) = q) := by
                          show _ = q
                          rw [show a + 5 = a + 1 + 4 by omega, HD.out]
                          exact told_none (.inr rfl) HEq.out (by rw [colZ_two]) (by rw [colZ_two]; exact drop_two (2 :: y2 :: r2))
                        clear HD HEq HCell hnn
                        as_aux_lemma =>
                          go_wp2
                          go_roundw
                          case rel => exact ⟨a + 5, (f, b, m), by go_num, Lib.hid (by omega), Lib.hid ⟨HBox.out, HK.out.res, HK.out.row, HOk.out, HE2.out, HK.out.bel⟩⟩
                          case measure => simp [intOf]; omega
                      · have q4 : (y == 2) = false ∧ decide (y = 2) = false := by simp [h2]
                        obtain ⟨q4, q4'⟩ := q4
                        have HE2 : Hid (applyL (f, b, m) (l.drop (a + 2)) = q) := by
                          show _ = q
                          rw [show a + 2 = a + 1 + 1 by omega, HD.out]
                          exact told_none (.inr rfl) HEq.out (by rw [colZ_other _ h2 (.inl h5)]) (by rw [colZ_other _ h2 (.inl h5)])
                        clear HD HEq HCell hnn
                        as_aux_lemma =>
                          go_wp2
                          go_roundw
                          case rel => exact ⟨a + 2, (f, b, m), by go_num, Lib.hid (by omega), Lib.hid ⟨HBox.out, HK.out.res, HK.out.row, HOk.out, HE2.out, HK.out.bel⟩⟩
                          case measure => simp [intOf]; omega
                -- END-TOLD
end Go.Proofs.YtajllkfoaigdlaaDoor
