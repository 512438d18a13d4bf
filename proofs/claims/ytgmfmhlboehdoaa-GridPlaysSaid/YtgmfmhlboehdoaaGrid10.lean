/- What a board's Fill of package grid does, as a walk through the translated text. Conditions: the board lies in memory of its own. -/
import Derived.Test.YtgmfmhlboehdoaaGrid9
namespace Go.Proofs.Ytgmfmhlboehdoaa
open Go.ChangeShapes Go.WideShapes Go.RowKit
set_option maxRecDepth 100000 in
set_option maxHeartbeats 1600000 in
theorem bfill_c (b g R C : Nat) (f : Nat → CellV) (r fr to : Int) (y : CellV) (w : World) (h : BAt w b g R C f) :
    Calls Try.prog 32 #[.pointer (some ⟨b, 0, none⟩), .int .i64 r, .int .i64 fr, .int .i64 to, .agg (cellV y).toArray] w (MPost w b g R C (if hasB R C r 0 && okC y then fillF C r.toNat (max fr 0).toNat (min to C).toNat y f else f)) := by
  have H := Lib.hid h
  have hz : b < w.heap.size := h.blt
  have hz2 : g < w.heap.size := h.glt
  clear h
  cases hB : hasB R C r 0 with
  | false =>
    have HB := Lib.hid hB
    rw [if_neg (by simp)]
    clear hB
    simp only [cellV]
    go_enter Try.func32, Try.ntmps32
    go_upto_region 1 with (fail)
    refine name_wp (fun w1 => Blk w1 w.heap.size 38 (cellV y) ∧ Below w.heap.size w w1) ⟨Blk.new _ _ _, alloc_below' _ _⟩ ?_
    rintro w1 ⟨hb1, hbel1⟩
    have HBel := Lib.hid hbel1
    have HB1 := Lib.hid hb1
    obtain ⟨a0, a1, a2, a3⟩ := fourB' hb1
    have H1 := Lib.hid (has_c b g R C f r 0 w1 (H.out.below hbel1))
    rw [HB.out] at H1
    clear hb1 hbel1
    go_wp2_with fail
    refine H1.out.mono ?_
    rintro en w2 ⟨rfl, rfl⟩
    go_wp2
    go_end0
    exact ⟨⟨_, rfl⟩, H.out.below HBel.out, Chg.of_below HBel.out⟩
  | true =>
    obtain ⟨q, p, hr, hp, hq, hp2⟩ := has_parts hB
    subst hr
    have HB := Lib.hid hB
    clear hB hp hp2 p
    rw [Bool.true_and]
    cases hM : okC y with
    | false =>
      have HM := Lib.hid hM
      rw [if_neg (by simp)]
      clear hM
      simp only [cellV]
      go_enter Try.func32, Try.ntmps32
      go_upto_region 1 with (fail)
      refine name_wp (fun w1 => Blk w1 w.heap.size 38 (cellV y) ∧ Below w.heap.size w w1) ⟨Blk.new _ _ _, alloc_below' _ _⟩ ?_
      rintro w1 ⟨hb1, hbel1⟩
      have HBel := Lib.hid hbel1
      have HB1 := Lib.hid hb1
      obtain ⟨a0, a1, a2, a3⟩ := fourB' hb1
      have H1 := Lib.hid (has_c b g R C f q 0 w1 (H.out.below hbel1))
      rw [HB.out] at H1
      clear hb1 hbel1
      go_wp2_with fail
      refine H1.out.mono ?_
      rintro en w2 ⟨rfl, rfl⟩
      go_wp2_with fail
      refine (right_c y _).mono ?_
      rw [HM.out]
      rintro en w2 ⟨rfl, hb2⟩
      have HB2 := Lib.hid (HBel.out.trans (hb2.mono HBel.out.size))
      clear hb2 a0 a1 a2 a3
      go_wp2
      go_end0
      exact ⟨⟨_, rfl⟩, H.out.below HB2.out, Chg.of_below HB2.out⟩
    | true =>
      rw [if_pos rfl, show (q : Int).toNat = q from rfl]
      have HM := Lib.hid hM
      clear hM
      obtain ⟨a, ha⟩ : ∃ a : Nat, Hid (max fr 0 = (a : Int)) := ⟨(max fr 0).toNat, Lib.hid (by omega)⟩
      obtain ⟨Z, hZ⟩ : ∃ Z : Int, Hid (min to (C : Int) = Z) := ⟨_, Lib.hid rfl⟩
      rw [ha.out, hZ.out, show (a : Int).toNat = a from rfl]
      have hZC : Z ≤ (C : Int) := by have := hZ.out; omega
      have ea := ha.out
      have eZ := hZ.out
      simp only [cellV]
      go_enter Try.func32, Try.ntmps32
      go_upto_region 1 with (fail)
      refine name_wp (fun w1 => Blk w1 w.heap.size 38 (cellV y) ∧ Below w.heap.size w w1) ⟨Blk.new _ _ _, alloc_below' _ _⟩ ?_
      rintro w1 ⟨hb1, hbel1⟩
      have HBel := Lib.hid hbel1
      have HB1 := Lib.hid hb1
      obtain ⟨a0, a1, a2, a3⟩ := fourB' hb1
      have H1 := Lib.hid (has_c b g R C f q 0 w1 (H.out.below hbel1))
      rw [HB.out] at H1
      clear hb1 hbel1
      go_wp2_with fail
      refine H1.out.mono ?_
      rintro en w2 ⟨rfl, rfl⟩
      go_wp2_with fail
      refine (right_c y _).mono ?_
      rw [HM.out]
      rintro en w2 ⟨rfl, hb2⟩
      have HB2 := Lib.hid (HBel.out.trans (hb2.mono HBel.out.size))
      have HBD0 : Hid (Blk w2.drew w.heap.size 38 (cellV y)) := (HB1.out.below hb2 HB1.out.lt).drew
      have HD : Hid (BAt w2.drew b g R C f) := (H.out.below HB2.out).of_heap rfl
      clear hb2 a0 a1 a2 a3
      go_upto_region 2 with (fail)
      obtain ⟨cap, _, _, _, c1, _⟩ := HD.out.three
      refine wp_region_held_drew (S := fun W => W.cell? ⟨b, 1, none⟩ = some (.int .i64 C)) (by kernel_rfl) c1 (fun hS => ?_)
      refine wpAnyH_take (i := 0) (oi := ⟨some 19, .move (.tmp 2), _, _, _, _⟩) (v := ?_) rfl (by kernel_rfl) (by kernel_rfl) (by kernel_rfl) (fun _ _ _ h => h) (Or.inl ⟨by rfl, ?_⟩) hS ?_
      rotate_left
      · intro W hSw; clear hSw; go_simp; try with_reducible rfl
      simp only [Act.put, List.setIfInBounds_toArray, List.set_cons_zero, List.set_cons_succ]
      refine wpAnyH_take (i := 1) (oi := ⟨some 20, .call { callee := .builtin .max, args := #[.tmp 19, .const (.int .i64 0)], argTypes := #[3, 3] }, _, _, _, _⟩) (v := ?_) rfl (by kernel_rfl) (by kernel_rfl) (by kernel_rfl) (fun _ _ _ h => h) (Or.inl ⟨by rfl, ?_⟩) hS ?_
      rotate_left
      · intro W hSw; clear hSw; go_simp; try with_reducible rfl
      simp only [Act.put, List.setIfInBounds_toArray, List.set_cons_zero, List.set_cons_succ]
      refine wpAnyH_take (i := 2) (oi := ⟨some 21, .move (.tmp 3), _, _, _, _⟩) (v := ?_) rfl (by kernel_rfl) (by kernel_rfl) (by kernel_rfl) (fun _ _ _ h => h) (Or.inl ⟨by rfl, ?_⟩) hS ?_
      rotate_left
      · intro W hSw; clear hSw; go_simp; try with_reducible rfl
      simp only [Act.put, List.setIfInBounds_toArray, List.set_cons_zero, List.set_cons_succ]
      refine wpAnyH_take (i := 3) (oi := ⟨some 22, .move (.tmp 0), _, _, _, _⟩) (v := ?_) rfl (by kernel_rfl) (by kernel_rfl) (by kernel_rfl) (fun _ _ _ h => h) (Or.inl ⟨by rfl, ?_⟩) hS ?_
      rotate_left
      · intro W hSw; clear hSw; go_simp; try with_reducible rfl
      simp only [Act.put, List.setIfInBounds_toArray, List.set_cons_zero, List.set_cons_succ]
      refine wpAnyH_take (i := 4) (oi := ⟨some 23, .nilCheck (.tmp 22), _, _, _, _⟩) (v := ?_) rfl (by kernel_rfl) (by kernel_rfl) (by kernel_rfl) (fun _ _ _ h => h) (Or.inl ⟨by rfl, ?_⟩) hS ?_
      rotate_left
      · intro W hSw; clear hSw; go_simp; try with_reducible rfl
      simp only [Act.put, List.setIfInBounds_toArray, List.set_cons_zero, List.set_cons_succ]
      refine wpAnyH_take (i := 5) (oi := ⟨some 24, .fieldAddr 61 (.tmp 23) 0, _, _, _, _⟩) (v := ?_) rfl (by kernel_rfl) (by kernel_rfl) (by kernel_rfl) (fun _ _ _ h => h) (Or.inl ⟨by rfl, ?_⟩) hS ?_
      rotate_left
      · intro W hSw; clear hSw; go_simp; try with_reducible rfl
      simp only [Act.put, List.setIfInBounds_toArray, List.set_cons_zero, List.set_cons_succ]
      refine wpAnyH_take (i := 6) (oi := ⟨some 25, .fieldAddr 31 (.tmp 24) 1, _, _, _, _⟩) (v := ?_) rfl (by kernel_rfl) (by kernel_rfl) (by kernel_rfl) (fun _ _ _ h => h) (Or.inl ⟨by rfl, ?_⟩) hS ?_
      rotate_left
      · intro W hSw; clear hSw; go_simp; try with_reducible rfl
      simp only [Act.put, List.setIfInBounds_toArray, List.set_cons_zero, List.set_cons_succ]
      refine wpAnyH_take (i := 7) (oi := ⟨some 26, .load 3 (.tmp 25), _, _, _, _⟩) (v := ?_) rfl (by kernel_rfl) (by kernel_rfl) (by kernel_rfl) (fun _ _ _ h => h) (Or.inl ⟨by rfl, ?_⟩) hS ?_
      rotate_left
      · intro W hSw; have c1 := hSw; clear hSw; go_simp; try with_reducible rfl
      simp only [Act.put, List.setIfInBounds_toArray, List.set_cons_zero, List.set_cons_succ]
      refine wpAnyH_take (i := 8) (oi := ⟨some 27, .call { callee := .builtin .min, args := #[.tmp 21, .tmp 26], argTypes := #[3, 3] }, _, _, _, _⟩) (v := ?_) rfl (by kernel_rfl) (by kernel_rfl) (by kernel_rfl) (fun _ _ _ h => h) (Or.inl ⟨by rfl, ?_⟩) hS ?_
      rotate_left
      · intro W hSw; clear hSw; go_simp; try with_reducible rfl
      simp only [Act.put, List.setIfInBounds_toArray, List.set_cons_zero, List.set_cons_succ]
      refine wpAnyH_take (i := 9) (oi := ⟨some 2, .assign (.tmp 20), _, _, _, _⟩) (v := ?_) rfl (by kernel_rfl) (by kernel_rfl) (by kernel_rfl) (fun _ _ _ h => h) (Or.inl ⟨by rfl, ?_⟩) hS ?_
      rotate_left
      · intro W hSw; clear hSw; go_simp; try with_reducible rfl
      simp only [Act.put, List.setIfInBounds_toArray, List.set_cons_zero, List.set_cons_succ]
      refine wpAnyH_take (i := 10) (oi := ⟨some 3, .assign (.tmp 27), _, _, _, _⟩) (v := ?_) rfl (by kernel_rfl) (by kernel_rfl) (by kernel_rfl) (fun _ _ _ h => h) (Or.inl ⟨by rfl, ?_⟩) hS ?_
      rotate_left
      · intro W hSw; clear hSw; go_simp; try with_reducible rfl
      simp only [Act.put, List.setIfInBounds_toArray, List.set_cons_zero, List.set_cons_succ]
      refine wpAnyH_done (by kernel_rfl) ?_ _
      clear hS c1
      have HBD : Hid (Blk w2.drew.drew w.heap.size 38 (cellV y)) := HBD0.out.drew
      have HB4 : Hid (Below w.heap.size w w2.drew) := HB2.out.drew
      have HB3 : Hid (Below w.heap.size w w2.drew.drew) := HB4.out.drew
      have HD2 : Hid (BAt w2.drew.drew b g R C f) := HD.out.of_heap rfl
      clear HD ea eZ
      by_cases hlt : (a : Int) < Z
      · obtain ⟨z, rfl⟩ : ∃ z : Nat, Z = (z : Int) := ⟨Z.toNat, by omega⟩
        have HD := HD2
        clear HD2
        have ha0 : (0 : Int) ≤ (a : Int) := by omega
        have haz : (a : Int) ≤ (z : Int) := by omega
        have hlt2 : a < z := by omega
        go_upto_region 4 with (fail)
        refine wp_region_any (by kernel_rfl) ?_
        change wpAny _ _ _ _ _ _ _ (World.drew _)
        refine wpAny_relyG (g := 1) [(0, 31), (1, 32), (2, 33), (3, 34), (4, 35), (5, 36), (6, 37)] (condAt [fun v _ => v = .pointer (some ⟨b, 0, none⟩), fun v _ => v = .int .i64 q, fun v _ => ∃ cc, v = .slice (some ⟨g, q * C * 4, none⟩) C cc ∧ C ≤ cc ∧ cc ≤ maxLen, fun v _ => v = .int .i64 a, fun v _ => v = .int .i64 z, fun v _ => ∃ cc, v = .slice (some ⟨g, q * C * 4 + a * 4, none⟩) (z - a) cc, fun v _ => v = .agg (cellV y).toArray]) [] (by kernel_rfl) rfl (condAt_keep (stable_cons (stable_eq _) (stable_cons (stable_eq _) (stable_cons (stable_of _) (stable_cons (stable_eq _) (stable_cons (stable_eq _) (stable_cons (stable_of _) (stable_cons (stable_eq _) stable_nil)))))))) ?hstep2 ?hend2
        case hstep2 =>
          intro p hp o ho x W hbel hdep K hK
          simp only [List.mem_cons, List.not_mem_nil, or_false] at hp
          rcases hp with rfl | rfl | rfl | rfl | rfl | rfl | rfl
          · cases Option.some.inj ho
            simp only [frm, List.foldl_cons, List.foldl_nil, Act.put, List.setIfInBounds_toArray, List.set_cons_zero, List.set_cons_succ] at hK ⊢
            clear hdep ho
            rw [if_pos (by rfl)]
            go_simp
            exact hK _ _ rfl (Below.refl _ _) (by simp)
          · cases Option.some.inj ho
            simp only [frm, List.foldl_cons, List.foldl_nil, Act.put, List.setIfInBounds_toArray, List.set_cons_zero, List.set_cons_succ] at hK ⊢
            clear hdep ho
            rw [if_pos (by rfl)]
            go_simp
            exact hK _ _ rfl (Below.refl _ _) (by simp)
          · cases Option.some.inj ho
            have d0 : x 0 = .pointer (some ⟨b, 0, none⟩) := hdep ⟨0, .data⟩ (by simp) rfl rfl
            have d1 : x 1 = .int .i64 q := hdep ⟨1, .data⟩ (by simp) rfl rfl
            simp only [frm, List.foldl_cons, List.foldl_nil, Act.put, List.setIfInBounds_toArray, List.set_cons_zero, List.set_cons_succ] at hK ⊢
            clear hdep ho
            rw [d0, d1] at hK ⊢
            clear d0 d1
            rw [if_pos (by rfl)]
            go_simp
            refine (line_c b g R C f q W (HD.out.below hbel) hq).mono ?_
            rintro e w' ⟨cc, rfl, h1, h2, k, rfl⟩
            exact hK _ _ ⟨cc, rfl, h1, h2⟩ (belowDrewN (Below.refl _ _) _) (by simp)
          · cases Option.some.inj ho
            simp only [frm, List.foldl_cons, List.foldl_nil, Act.put, List.setIfInBounds_toArray, List.set_cons_zero, List.set_cons_succ] at hK ⊢
            clear hdep ho
            rw [if_pos (by rfl)]
            go_simp
            exact hK _ _ rfl (Below.refl _ _) (by simp)
          · cases Option.some.inj ho
            simp only [frm, List.foldl_cons, List.foldl_nil, Act.put, List.setIfInBounds_toArray, List.set_cons_zero, List.set_cons_succ] at hK ⊢
            clear hdep ho
            rw [if_pos (by rfl)]
            go_simp
            exact hK _ _ rfl (Below.refl _ _) (by simp)
          · cases Option.some.inj ho
            have h2 : ∃ cc, (x 2) = .slice (some ⟨g, q * C * 4, none⟩) C cc ∧ C ≤ cc ∧ cc ≤ maxLen := hdep ⟨2, .data⟩ (by simp) rfl rfl
            have d3 : x 3 = .int .i64 a := hdep ⟨3, .data⟩ (by simp) rfl rfl
            have d4 : x 4 = .int .i64 z := hdep ⟨4, .data⟩ (by simp) rfl rfl
            simp only [frm, List.foldl_cons, List.foldl_nil, Act.put, List.setIfInBounds_toArray, List.set_cons_zero, List.set_cons_succ] at hK ⊢
            clear hdep ho
            rw [d3, d4] at hK ⊢
            clear d3 d4
            rw [if_pos (by rfl)]
            obtain ⟨cc, d2, hcc1, hcc2⟩ := h2
            rw [d2] at hK ⊢
            clear d2
            have q1 : (z : Int) ≤ (cc : Int) := by omega
            have q2 : ¬ cc = a := by omega
            go_simp
            exact hK _ _ ⟨_, rfl⟩ (Below.refl _ _) (by simp)
          · cases Option.some.inj ho
            simp only [frm, List.foldl_cons, List.foldl_nil, Act.put, List.setIfInBounds_toArray, List.set_cons_zero, List.set_cons_succ] at hK ⊢
            clear hdep ho
            rw [if_pos (by rfl)]
            exact wp_load_all 38 (.tmp 9) rfl _ rfl _ _ (HBD.out.below hbel HBD.out.lt) _ Try.underlying38 rfl sizeC (hK _ _ rfl (Below.refl _ _) (by simp))
        case hend2 =>
          intro x W2 hbel hall _
          obtain ⟨cd, d5⟩ : ∃ cc, (x 5) = .slice (some ⟨g, q * C * 4 + a * 4, none⟩) (z - a) cc := hall (5, 36) (by simp)
          have d6 : x 6 = .agg (cellV y).toArray := hall (6, 37) (by simp)
          simp only [frm, List.foldl_cons, List.foldl_nil, Act.put, List.setIfInBounds_toArray, List.set_cons_zero, List.set_cons_succ]
          rw [d5, d6]
          clear hall d5 d6
          generalize x 0 = z0
          generalize x 1 = z1
          generalize x 2 = z2
          generalize x 3 = z3
          generalize x 4 = z4
          have hle := row_le (C := C) hq
          have hzC : z ≤ C := by omega
          obtain ⟨hc1, hc2⟩ := HD.out.cols
          refine wpAny_ready (rs := [7]) (by kernel_rfl) (by simp) (AllReady.cons (o := ⟨some 38, .call { callee := .value (.func 54), args := #[.tmp 36, .tmp 37], argTypes := #[29, 38] }, _, _, _, _⟩) rfl (fun K hK => ?_) AllReady.nil)
          go_simp
          refine (fill_c g (q * C + a) (z - a) cd (R * C) _ f y W2 (HD.out.row.below hbel) (by omega) (fun _ => by rw [Nat.add_mul]) (by omega)).mono ?_
          rintro en w4 ⟨⟨v, rfl⟩, hR4, hC4⟩
          refine hK _ _ ?_
          clear hK K
          try simp only [Act.put, List.setIfInBounds_toArray, List.set_cons_zero, List.set_cons_succ]
          refine wpAny_done (by kernel_rfl) ?_ _
          have hch : Chg (fun i => i = g) w w4 := ((Chg.of_below HB3.out).trans' (Chg.of_below hbel)).trans' hC4
          have e2 : q * C + a + (z - a) = q * C + z := by omega
          have hrow := hR4.congr (f' := fillF C q a z y f) (fun i _ => by simp only [fillF, e2])
          have HF := Lib.hid (H.out.turn hch hrow (fillF_ok HM.out H.out.ok))
          have HCH := Lib.hid hch
          clear hR4 hC4 hch hbel hrow hle e2
          go_wp2
          go_end0
          exact ⟨⟨_, rfl⟩, HF.out, HCH.out⟩
      · have hd : decide ((a : Int) < Z) = false := by rw [decide_eq_false_iff_not]; exact hlt
        have Hlt := Lib.hid hlt
        clear hlt
        go_wp2
        go_end0
        have hn := Hlt.out
        have hB := H.out.below HB4.out
        refine ⟨⟨_, rfl⟩, H.out.turn (Chg.of_below HB4.out) (hB.row.congr (fun i _ => ?_)) (fillF_ok HM.out H.out.ok), Chg.of_below HB4.out⟩
        rw [fillF, if_neg (by omega)]
end Go.Proofs.Ytgmfmhlboehdoaa
