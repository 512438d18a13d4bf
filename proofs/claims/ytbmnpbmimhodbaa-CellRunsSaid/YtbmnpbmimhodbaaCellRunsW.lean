/- The walk through CellRuns: for every cells and runs it returns true and leaves old memory as it was. Conditions: none. -/
import Derived.Test.YtbmnpbmimhodbaaAwake9
import Derived.Test.YtbmnpbmimhodbaaCellM
import Derived.Test.YtbmnpbmimhodbaaOpen5
namespace Go.Proofs.Ytbmnpbmimhodbaa.cellRuns
open Go.ChangeShapes Go.WideShapes Go.RowKit
set_option maxRecDepth 100000 in
set_option maxHeartbeats 6400000 in
theorem walk (A : Option Addr) (n c : Nat) (l : List CellV) (B : Option Addr) (m d : Nat) (O : List RunV) (w : World) (hr : ReadsS cellV 4 w A n c l) (hf : ∀ x ∈ l, fitC x) (ho : ReadsS runV 5 w B m d O) (hof : ∀ x ∈ O, fit64 x.1 ∧ fitC x.2) :
    Calls Try.prog 4 #[.slice A n c, .slice B m d] w fun e w' => e = .returned (.bool true) ∧ Below w.heap.size w w' := by
  have HR := Lib.hid hr
  have HO := Lib.hid ho
  have HOF := Lib.hid hof
  clear hr ho hf hof
  by_cases hn : 100 < n
  · have hn2 : decide ((100 : Int) < (n : Int)) = true := by simp; omega
    go_enter Try.func4, Try.ntmps4
    go_wp2_with fail
    refine (awake9_c w).mono ?_
    rintro en w1 ⟨rfl, hb1⟩
    go_wp2
    go_ret
    exact ⟨rfl, hb1⟩
  have hn2 : decide ((100 : Int) < (n : Int)) = false := by simp; omega
  by_cases hm : 20 < m
  · have hm2 : decide ((20 : Int) < (m : Int)) = true := by simp; omega
    go_enter Try.func4, Try.ntmps4
    go_wp2_with fail
    refine (awake9_c w).mono ?_
    rintro en w1 ⟨rfl, hb1⟩
    go_wp2
    go_ret
    exact ⟨rfl, hb1⟩
  have hm2 : decide ((20 : Int) < (m : Int)) = false := by simp; omega
  have HL := Lib.hid HR.out.len
  have HM := Lib.hid HO.out.len
  go_enter Try.func4, Try.ntmps4
  go_wp2_with fail
  refine (awake9_c w).mono ?_
  rintro en w1 ⟨rfl, hb1⟩
  have HR1 := Lib.hid (HR.out.keep hb1)
  go_wp2_with fail
  refine (runs_c A n c l w1 HR1.out (by omega)).mono ?_
  rintro en w2 ⟨v, rfl, hO2, hb2⟩
  have HR2 := Lib.hid (HR1.out.keep hb2)
  have HO2 := Lib.hid ((HO.out.keep hb1).keep hb2)
  have HB2 : Hid (Below w.heap.size w w2) := hb1.trans (hb2.mono hb1.size)
  obtain ⟨R, hR⟩ : ∃ R, Hid (runsL l = R) := ⟨_, rfl⟩
  rw [hR.out] at hO2
  obtain ⟨hpos, hchain⟩ := runs_good l
  have hcl := cells_runs l
  have hrl := runsL_len l
  rw [hR.out] at hpos hchain hcl hrl
  have HPos := Lib.hid hpos
  have HChain := Lib.hid hchain
  have HCl := Lib.hid hcl
  obtain ⟨V, e, rfl, hRR⟩ := ReadsS.of_own length_runV (by decide) hO2
  obtain ⟨L, hL⟩ : ∃ L, Hid (R.length = L) := ⟨_, Lib.hid rfl⟩
  rw [hL.out] at hRR hrl
  have hLn : L ≤ n := by rw [← HL.out]; exact hrl
  have HRR := Lib.hid hRR
  clear hO2 hb1 hb2 HR1 hpos hchain hcl hRR hrl HR HO
  rw [hL.out]
  go_wp2
  go_loopw [6, 7] (fun t i wr => ∃ j q : Nat, j ≤ L ∧ i = .int .i64 j ∧ t = .int .i64 q ∧ Hid ((cellsL (R.take j)).length = q) ∧ ∃ k, wr = w2.drewN k) (fun _ i _ => L - (intOf i).toNat)
  case atStart => exact ⟨0, 0, Nat.zero_le _, rfl, rfl, rfl, 0, rfl⟩
  case round =>
    obtain ⟨j, q, hj, rfl, rfl, hq, k, rfl⟩ := hrel
    by_cases hlt : j < L
    · have hjl : j < R.length := by rw [hL.out]; exact hlt
      have hpj := HRR.out.cell j hjl
      obtain ⟨ad, rfl, hadlt, hca⟩ := hpj
      obtain ⟨x, HX⟩ : ∃ x, Hid (R[j] = x) := ⟨R[j], rfl⟩
      rw [HX.out] at hca
      obtain ⟨a0, a1, a2, a3, a4⟩ := five hca
      clear hca
      have hx1 : 1 ≤ x.1 := by rw [← HX.out]; exact HPos.out _ (List.getElem_mem hjl)
      obtain ⟨N, hN⟩ : ∃ N : Nat, x.1 = (N : Int) := ⟨x.1.toNat, by omega⟩
      have hroom : q + N ≤ n := by
        have h := cellsL_room R j hjl
        rw [hq.out, HX.out, HCl.out, HL.out, hN] at h
        simpa using h
      rw [hN] at a0 hx1
      have HN := Lib.hid hN
      clear hN
      have f1 : decide ((N : Int) < 1) = false := by rw [decide_eq_false_iff_not]; omega
      have f2 : decide ((n : Int) - (q : Int) < (N : Int)) = false := by rw [decide_eq_false_iff_not]; omega
      have f3 : IntKind.i64.wrap ((n : Int) - (q : Int)) = (n : Int) - (q : Int) := IntWalk.i64_in _ (by omega)
      have hlt2 : (j : Int) < (L : Int) := by omega
      have hj0 : (0 : Int) ≤ (j : Int) := by omega
      rcases Nat.eq_zero_or_pos j with h0 | h0
      · have H0 := Lib.hid h0
        have g1 : decide ((0 : Int) < (j : Int)) = false := by rw [decide_eq_false_iff_not]; omega
        have g2 : decide (0 < j) = false := by rw [decide_eq_false_iff_not]; omega
        clear h0
        go_wp2_with fail
        go_quiet (fail)
        go_upto_region 13 with (fail)
        clear g1 g2
        go_loopw [8] (fun t wr => ∃ p : Nat, p ≤ N ∧ t = .int .i64 p ∧ ∃ k, wr = w2.drewN k) (fun t _ => N - (intOf t).toNat)
        case atStart => exact ⟨0, Nat.zero_le _, rfl, _, World.drewN_drewN _ _ _⟩
        case round =>
          obtain ⟨p, hp, rfl, k2, rfl⟩ := hrel
          by_cases hpl : p < N
          · have hpd : (p : Int) < (N : Int) := by omega
            have hll : q + p < l.length := by rw [HL.out]; omega
            have hlx : l[q + p] = x.2 := by
              have h := cellsL_at R j p hjl (by rw [HX.out, HN.out]; simpa using hpl)
              rw [HCl.out, List.getElem?_eq_some_iff] at h
              obtain ⟨h1, h2⟩ := h
              simp only [hq.out, HX.out] at h2
              exact h2
            obtain ⟨bd, rfl, _, hcl⟩ := HR2.out.cell (q + p) hll
            rw [hlx] at hcl
            obtain ⟨c0, c1, c2, c3⟩ := four hcl
            have f5 : IntKind.i64.wrap ((q : Int) + (p : Int)) = ((q + p : Nat) : Int) := by rw [IntWalk.i64_in _ (by omega)]; omega
            have f6 : ((q + p : Nat) : Int) < (n : Int) := by omega
            have f7 : (0 : Int) ≤ ((q + p : Nat) : Int) := by omega
            clear hcl hlx
            go_wp2_with fail
            go_quiet (fail)
            go_wp2
            go_roundw
            case rel => exact ⟨p + 1, by omega, by go_num, _, rfl⟩
            case measure => simp [intOf]; omega
          · obtain rfl : p = N := by omega
            go_wp2
            go_roundw
            case rel =>
              refine ⟨j + 1, q + p, by omega, by go_num, by go_num, ?_, _, rfl⟩
              show _ = _
              rw [cellsL_take R j hjl, List.length_append, hq.out, HX.out, List.length_replicate, HN.out]
              simp
            case measure => simp [intOf]; omega
      · have g1 : decide ((0 : Int) < (j : Int)) = true := by rw [decide_eq_true_eq]; omega
        have g2 : decide (0 < j) = true := by rw [decide_eq_true_eq]; omega
        obtain ⟨i, hi⟩ : ∃ i, Hid (j = i + 1) := ⟨j - 1, Lib.hid (by omega)⟩
        have hil : i < R.length := by rw [hi.out] at hjl; omega
        obtain ⟨y, HY⟩ : ∃ x, Hid (R[i] = x) := ⟨R[i], rfl⟩
        have hcb := HRR.out.at i hil
        rw [HY.out] at hcb
        obtain ⟨b0, b1, b2, b3, b4⟩ := five hcb
        have hne : x.2 ≠ y.2 := by
          rw [← HX.out, ← HY.out]
          have h := chain_at HChain.out i (by rw [← hi.out]; exact hjl)
          simpa only [hi.out] using h
        have heq := fun W => run_eq_cell W x.2 y.2
        rw [decide_eq_false hne] at heq
        simp only [cellV] at heq
        have f4 : IntKind.i64.wrap ((j : Int) - 1) = (i : Int) := by rw [IntWalk.i64_in _ (by omega), hi.out]; omega
        have hi1 : (i : Int) < (L : Int) := by have := hi.out; omega
        have hi0 : (0 : Int) ≤ (i : Int) := by omega
        have Hne := Lib.hid hne
        clear hcb hne h0
        go_wp2_with fail
        go_quiet (fail)
        go_upto_region 13 with (fail)
        clear g1 g2
        go_loopw [8] (fun t wr => ∃ p : Nat, p ≤ N ∧ t = .int .i64 p ∧ ∃ k, wr = w2.drewN k) (fun t _ => N - (intOf t).toNat)
        case atStart => exact ⟨0, Nat.zero_le _, rfl, _, World.drewN_drewN _ _ _⟩
        case round =>
          obtain ⟨p, hp, rfl, k2, rfl⟩ := hrel
          by_cases hpl : p < N
          · have hpd : (p : Int) < (N : Int) := by omega
            have hll : q + p < l.length := by rw [HL.out]; omega
            have hlx : l[q + p] = x.2 := by
              have h := cellsL_at R j p hjl (by rw [HX.out, HN.out]; simpa using hpl)
              rw [HCl.out, List.getElem?_eq_some_iff] at h
              obtain ⟨h1, h2⟩ := h
              simp only [hq.out, HX.out] at h2
              exact h2
            obtain ⟨bd, rfl, _, hcl⟩ := HR2.out.cell (q + p) hll
            rw [hlx] at hcl
            obtain ⟨c0, c1, c2, c3⟩ := four hcl
            have f5 : IntKind.i64.wrap ((q : Int) + (p : Int)) = ((q + p : Nat) : Int) := by rw [IntWalk.i64_in _ (by omega)]; omega
            have f6 : ((q + p : Nat) : Int) < (n : Int) := by omega
            have f7 : (0 : Int) ≤ ((q + p : Nat) : Int) := by omega
            clear hcl hlx
            go_wp2_with fail
            go_quiet (fail)
            go_wp2
            go_roundw
            case rel => exact ⟨p + 1, by omega, by go_num, _, rfl⟩
            case measure => simp [intOf]; omega
          · obtain rfl : p = N := by omega
            go_wp2
            go_roundw
            case rel =>
              refine ⟨j + 1, q + p, by omega, by go_num, by go_num, ?_, _, rfl⟩
              show _ = _
              rw [cellsL_take R j hjl, List.length_append, hq.out, HX.out, List.length_replicate, HN.out]
              simp
            case measure => simp [intOf]; omega
    · obtain rfl : j = L := by omega
      obtain rfl : q = n := by
        have h := hq.out
        rw [List.take_of_length_le (by rw [hL.out]; omega), HCl.out, HL.out] at h
        exact h.symm
      clear hq hlt hj
      go_wp2
      refine name_wp (fun w3 => ReadsS cellV 4 w3 A q c l ∧ ReadsS runV 5 w3 B m d O ∧ ReadsS runV 5 w3 V j e R ∧ Below w.heap.size w w3) ⟨HR2.out.of_heap rfl, HO2.out.of_heap rfl, HRR.out.of_heap rfl, belowDrewN HB2.out _⟩ ?_
      rintro w3 ⟨hR3, hO3, hRR3, hB3⟩
      have HR3 := Lib.hid hR3
      have HO3 := Lib.hid hO3
      have HRR3 := Lib.hid hRR3
      have HB3 := Lib.hid hB3
      clear hR3 hO3 hRR3 hB3 HR2 HO2 HRR HB2
      obtain ⟨i0, hi, hz0, hz1, hz2⟩ := info_parts infoC
      go_loopw [9, 10] (fun v i wr => ∃ t : Nat, t ≤ m ∧ i = .int .i64 t ∧ Hid (MineS cellV 4 w3 wr 25 v (cellsL (O.take t))) ∧ Hid ((cellsL (O.take t)).length ≤ 100 * t)) (fun _ i _ => m - (intOf i).toNat)
      case atStart => exact ⟨0, Nat.zero_le _, rfl, ⟨World.ownsRow_nil _ _ _ _, Below.refl _ _⟩, Nat.zero_le _⟩
      case round =>
        obtain ⟨t, ht, rfl, hM, hle⟩ := hrel
        by_cases htm : t < m
        · have htl : t < O.length := by rw [HM.out]; exact htm
          have hOr := HO3.out.keep hM.out.bel
          obtain ⟨bd, rfl, hbdlt, hca⟩ := hOr.cell t htl
          obtain ⟨x, HX⟩ : ∃ x, Hid (O[t] = x) := ⟨O[t], rfl⟩
          rw [HX.out] at hca
          obtain ⟨a0, a1, a2, a3, a4⟩ := five hca
          have hxf : x.1 ≤ 9223372036854775807 := by rw [← HX.out]; exact (HOF.out _ (List.getElem_mem htl)).1.2
          have htd : (t : Int) < (m : Int) := by omega
          have ht0 : (0 : Int) ≤ (t : Int) := by omega
          clear hca
          by_cases hx : 100 < x.1
          · have hxd : decide (100 < x.1) = true := by rw [decide_eq_true_eq]; exact hx
            go_wp2
            go_ret
            exact ⟨rfl, HB3.out.trans (hM.out.bel.mono HB3.out.size)⟩
          · have hxd : decide (100 < x.1) = false := by rw [decide_eq_false_iff_not]; exact hx
            obtain ⟨C, hC⟩ : ∃ C, Hid (cellsL (O.take t) = C) := ⟨_, rfl⟩
            rw [hC.out] at hM hle
            obtain ⟨N, hN⟩ : ∃ N, Hid (x.1.toNat = N) := ⟨_, Lib.hid rfl⟩
            have hN100 : N ≤ 100 := by have := hN.out; omega
            have hCl : C.length + N ≤ 2100 := by have := hle.out; omega
            go_upto_region 25 with (fail)
            clear a0 a1 a2 a3 a4 hOr hbdlt
            go_loopw [9, 11] (fun v i wr => ∃ p : Nat, p ≤ N ∧ i = .int .i64 p ∧ Hid (MineS cellV 4 w3 wr 25 v (C ++ List.replicate p x.2))) (fun _ i _ => N - (intOf i).toNat)
            case atStart => exact ⟨0, Nat.zero_le _, rfl, Lib.hid (by simpa using hM.out)⟩
            case round =>
              obtain ⟨p, hp, rfl, hM4⟩ := hrel
              have hOr := HO3.out.keep hM4.out.bel
              have hca := hOr.at t htl
              rw [HX.out] at hca
              obtain ⟨a0, a1, a2, a3, a4⟩ := five hca
              clear hca hOr
              by_cases hpl : p < N
              · have hpd : decide ((p : Int) < x.1) = true := by rw [decide_eq_true_eq]; have := hN.out; omega
                have hO := hM4.out.own
                obtain ⟨K, hK⟩ : ∃ K, Hid ((C ++ List.replicate p x.2).length = K) := ⟨_, Lib.hid rfl⟩
                have hKb : K + 1 ≤ 2200 := by have h1 := hK.out; simp at h1; omega
                rw [hK.out] at hO
                obtain ⟨D, dd, eV⟩ := ownK_form hO
                subst eV
                have HOw := Lib.hid hO
                have HBel := Lib.hid hM4.out.bel
                clear hO hM4
                go_wp2_with (at_builtin; refine wpList_app1 length_cellV one_cellV (by decide) rfl (.tmp 119) (.tmp 125) 30 rfl w3.heap.size 25 i0 _ 32 Try.underlying30 hi hz0 hz1 hz2 rfl (.slice D K dd) K (C ++ List.replicate p x.2) rfl (ownK_below HOw.out (alloc_below' _ _)) x.2 _ _ rfl (Blk.new _ _ _) (by unfold maxLen; omega) (by omega) (by have := HBel.out.size; simp; omega) ?_; intro A1 c1 w6 ho6 hg6 hat6)
                go_roundw
                case rel =>
                  refine ⟨p + 1, by omega, by go_num, ?_⟩
                  have hbel := bel_app HBel.out hg6 (ownK_base HOw.out)
                  have hlst : C ++ List.replicate (p + 1) x.2 = (C ++ List.replicate p x.2) ++ [x.2] := by rw [List.replicate_succ', List.append_assoc]
                  show MineS _ _ _ _ _ _ _
                  rw [hlst]
                  exact ⟨by rw [List.length_append, hK.out]; exact ho6, hbel⟩
                case measure => simp [intOf]; omega
              · obtain rfl : p = N := by omega
                have hpd : decide ((p : Int) < x.1) = false := by rw [decide_eq_false_iff_not]; have := hN.out; omega
                go_wp2
                go_roundw
                case rel =>
                  refine ⟨t + 1, by omega, by go_num, ?_, ?_⟩
                  · show MineS _ _ _ _ _ _ (cellsL (O.take (t + 1)))
                    rw [cellsL_take O t htl, hC.out, HX.out, hN.out]
                    exact hM4.out
                  · show (cellsL (O.take (t + 1))).length ≤ _
                    rw [cellsL_take O t htl, hC.out, HX.out, hN.out, List.length_append, List.length_replicate]
                    have := hle.out
                    omega
                case measure => simp [intOf]; omega
        · obtain rfl : t = m := by omega
          have hOt : O.take t = O := List.take_of_length_le (by rw [HM.out]; omega)
          rw [hOt] at hM hle
          have hRw := HR3.out.keep hM.out.bel
          have hOw := HO3.out.keep hM.out.bel
          have hRRw := HRR3.out.keep hM.out.bel
          obtain ⟨D, dd, eV, hW⟩ := ReadsS.of_own length_cellV (by decide) hM.out.own
          subst eV
          have HBw : Hid (Below w.heap.size w wr) := HB3.out.trans (hM.out.bel.mono HB3.out.size)
          have HRw := Lib.hid hRw
          have HOw := Lib.hid hOw
          have HW := Lib.hid hW
          have hfR : ∀ x ∈ R, x.1 ≤ 9223372036854775807 := by
            intro x hx
            obtain ⟨i, hil, rfl⟩ := List.mem_iff_getElem.1 hx
            have h := cellsL_room R i hil
            rw [HCl.out, HL.out] at h
            omega
          obtain ⟨KO, hKO⟩ : ∃ K, Hid ((cellsL O).length = K) := ⟨_, Lib.hid rfl⟩
          rw [hKO.out] at hle HW ⊢
          have hKb : KO ≤ 100 * t := hle.out
          obtain ⟨KR, hKR⟩ : ∃ K, Hid ((cellsL R).length = K) := ⟨_, Lib.hid rfl⟩
          have hKRb : KR ≤ 100 := by rw [← hKR.out, HCl.out, HL.out]; omega
          have HC1 := Lib.hid (cells_c V j e R wr hRRw hfR (by rw [hKR.out]; omega))
          clear hRw hOw hRRw hW hM hOt hle hfR
          go_wp2_with fail
          refine HC1.out.mono ?_
          rintro en w5 ⟨v5, rfl, hM5⟩
          obtain ⟨D5, d5, rfl, hC5⟩ := ReadsS.of_own length_cellV (by decide) hM5.own
          have hb5 := hM5.bel
          have HS1 := Lib.hid (sameC_c D5 A _ d5 q c _ l w5 hC5 (HRw.out.keep hb5))
          rw [decide_eq_true HCl.out, hKR.out] at HS1
          rw [hKR.out]
          have HO5 := Lib.hid (HOw.out.keep hb5)
          have HW5 := Lib.hid (HW.out.keep hb5)
          have HB5 : Hid (Below w.heap.size w w5) := HBw.out.trans (hb5.mono HBw.out.size)
          clear hC5 hM5 hb5 HRw HOw HW HBw
          go_wp2_with fail
          refine HS1.out.mono ?_
          rintro en w6 ⟨rfl, k6, rfl⟩
          have HC2 := Lib.hid (cells_c B t d O (w5.drewN k6) (HO5.out.of_heap rfl) (fun x hx => (HOF.out x hx).1.2) (by rw [hKO.out]; omega))
          go_wp2_with fail
          refine HC2.out.mono ?_
          rintro en w7 ⟨v7, rfl, hM7⟩
          obtain ⟨D7, d7, rfl, hC7⟩ := ReadsS.of_own length_cellV (by decide) hM7.own
          have hb7 := hM7.bel
          have hW7 : ReadsS cellV 4 w7 D KO dd (cellsL O) := (HW5.out.of_heap (w' := w5.drewN k6) rfl).keep hb7
          rw [hKO.out] at hC7 ⊢
          have HS2 := Lib.hid (sameC_c D7 D KO d7 KO dd _ _ w7 hC7 hW7)
          rw [decide_eq_true rfl] at HS2
          have HB7 : Hid (Below w.heap.size w w7) := (belowDrewN HB5.out k6).trans (hb7.mono HB5.out.size)
          clear hC7 hM7 hb7 hW7
          go_wp2_with fail
          refine HS2.out.mono ?_
          rintro en w8 ⟨rfl, k8, rfl⟩
          go_wp2
          go_ret
          exact ⟨rfl, belowDrewN HB7.out _⟩
end Go.Proofs.Ytbmnpbmimhodbaa.cellRuns
