/- The walk through GridApart: for every grid and cell it returns true and leaves old memory as it was. Conditions: none. -/
import Derived.Test.YtgmfmhlboehdoaaAwake10
import Derived.Test.YtgmfmhlboehdoaaGridR8
import Derived.Test.YtgmfmhlboehdoaaGrid7
import Derived.Test.YtgmfmhlboehdoaaOpen6
namespace Go.Proofs.Ytgmfmhlboehdoaa.gridApart
open Go.ChangeShapes Go.WideShapes Go.RowKit
theorem sameG_self (R C : Int) (l : List CellV) : sameG R C l R C l = true := by simp [sameG]
theorem rowReads {W : World} {g n cap : Nat} {f : Nat → CellV} (h : RowAt W g 38 n f) (h1 : n ≤ cap) (h2 : cap ≤ maxLen) : ReadsS cellV 4 W (some ⟨g, 0, none⟩) n cap (tab n f) := by
  have h3 := h.reads 0 n cap (by omega) h1 h2 (A := some ⟨g, 0, none⟩) (fun _ => rfl)
  rwa [show (tab n fun i => f (0 + i)) = tab n f from tab_congr (fun i _ => by rw [Nat.zero_add])] at h3
theorem stable_rowv {R C n : Nat} {f : Nat → CellV} : Stable (fun v W => ∃ g cap, v = .agg (gridV R C (some ⟨g, 0, none⟩) n cap).toArray ∧ RowAt W g 38 n f ∧ n ≤ cap ∧ cap ≤ maxLen) := by
  rintro v w w' ⟨g, cap, e, h, h1, h2⟩ hb
  exact ⟨g, cap, e, h.below hb, h1, h2⟩
set_option maxRecDepth 100000 in
set_option maxHeartbeats 6400000 in
theorem walk (r c : Int) (A : Option Addr) (n k : Nat) (l : List CellV) (y : CellV) (w : World) (hr : ReadsS cellV 4 w A n k l) (hf : ∀ x ∈ l, fitC x) (_ : fit64 r) (_ : fit64 c) (hy : fitC y) :
    Calls Try.prog 5 #[.agg (gridV r c A n k).toArray, .agg (cellV y).toArray] w fun e w' => e = .returned (.bool true) ∧ Below w.heap.size w w' := by
  have HR := Lib.hid hr
  have HF := Lib.hid hf
  have HLen := Lib.hid hr.len
  clear hr hf
  simp only [gridV_list, cellV]
  by_cases hn : 400 < n
  · have hn2 : decide ((400 : Int) < (n : Int)) = true := by simp; omega
    go_enter Try.func5, Try.ntmps5
    go_upto_region 1 with (fail)
    refine name_wp (fun w1 => Blk w1 w.heap.size 31 (gridV r c A n k) ∧ Blk w1 (w.heap.size + 1) 38 (cellV y) ∧ Below w.heap.size w w1) ⟨(Blk.new _ _ _).alloc _, newAt _ _ (by simp), (alloc_below' _ _).alloc (by simp) _⟩ ?_
    rintro w1 ⟨hb1, hb2, hbel1⟩
    have HBel1 := Lib.hid hbel1
    have HG1 := Lib.hid hb1
    have HY1 := Lib.hid hb2
    clear hb1 hb2 hbel1
    go_wp2_with fail
    refine (awake10_c w1).mono ?_
    rintro en w2 ⟨rfl, hb2⟩
    have HG2 := Lib.hid (HG1.out.below hb2 HG1.out.lt)
    have HY2 := Lib.hid (HY1.out.below hb2 HY1.out.lt)
    have HBel2 := Lib.hid (HBel1.out.trans (hb2.mono HBel1.out.size))
    obtain ⟨c0, c1, c2⟩ := boxG HG2.out
    have HR2 := Lib.hid (HR.out.keep HBel2.out)
    clear hb2 HG1 HY1 HBel1
    go_wp2
    go_ret
    exact ⟨rfl, HBel2.out⟩
  have hn2 : decide ((400 : Int) < (n : Int)) = false := by simp; omega
  cases hG : rightG r c l with
  | false =>
    have HGG := Lib.hid hG
    clear hG
    go_enter Try.func5, Try.ntmps5
    go_upto_region 1 with (fail)
    refine name_wp (fun w1 => Blk w1 w.heap.size 31 (gridV r c A n k) ∧ Blk w1 (w.heap.size + 1) 38 (cellV y) ∧ Below w.heap.size w w1) ⟨(Blk.new _ _ _).alloc _, newAt _ _ (by simp), (alloc_below' _ _).alloc (by simp) _⟩ ?_
    rintro w1 ⟨hb1, hb2, hbel1⟩
    have HBel1 := Lib.hid hbel1
    have HG1 := Lib.hid hb1
    have HY1 := Lib.hid hb2
    clear hb1 hb2 hbel1
    go_wp2_with fail
    refine (awake10_c w1).mono ?_
    rintro en w2 ⟨rfl, hb2⟩
    have HG2 := Lib.hid (HG1.out.below hb2 HG1.out.lt)
    have HY2 := Lib.hid (HY1.out.below hb2 HY1.out.lt)
    have HBel2 := Lib.hid (HBel1.out.trans (hb2.mono HBel1.out.size))
    obtain ⟨c0, c1, c2⟩ := boxG HG2.out
    have HR2 := Lib.hid (HR.out.keep HBel2.out)
    clear hb2 HG1 HY1 HBel1
    go_wp2_with fail
    refine (refRightG_c r c A n k l w2 HR2.out HF.out).mono ?_
    rw [HGG.out]
    rintro en w3 ⟨rfl, hb3⟩
    have HB3 := Lib.hid (HBel2.out.trans (hb3.mono HBel2.out.size))
    clear hb3 c0 c1 c2
    go_wp2
    go_ret
    exact ⟨rfl, HB3.out⟩
  | true =>
    cases hY : okC y with
    | false =>
      have HGG := Lib.hid hG
      have HYY := Lib.hid hY
      clear hG hY
      go_enter Try.func5, Try.ntmps5
      go_upto_region 1 with (fail)
      refine name_wp (fun w1 => Blk w1 w.heap.size 31 (gridV r c A n k) ∧ Blk w1 (w.heap.size + 1) 38 (cellV y) ∧ Below w.heap.size w w1) ⟨(Blk.new _ _ _).alloc _, newAt _ _ (by simp), (alloc_below' _ _).alloc (by simp) _⟩ ?_
      rintro w1 ⟨hb1, hb2, hbel1⟩
      have HBel1 := Lib.hid hbel1
      have HG1 := Lib.hid hb1
      have HY1 := Lib.hid hb2
      clear hb1 hb2 hbel1
      go_wp2_with fail
      refine (awake10_c w1).mono ?_
      rintro en w2 ⟨rfl, hb2⟩
      have HG2 := Lib.hid (HG1.out.below hb2 HG1.out.lt)
      have HY2 := Lib.hid (HY1.out.below hb2 HY1.out.lt)
      have HBel2 := Lib.hid (HBel1.out.trans (hb2.mono HBel1.out.size))
      obtain ⟨c0, c1, c2⟩ := boxG HG2.out
      have HR2 := Lib.hid (HR.out.keep HBel2.out)
      clear hb2 HG1 HY1 HBel1
      go_wp2_with fail
      refine (refRightG_c r c A n k l w2 HR2.out HF.out).mono ?_
      rw [HGG.out]
      rintro en w3 ⟨rfl, hb3⟩
      have HB3 := Lib.hid (HBel2.out.trans (hb3.mono HBel2.out.size))
      obtain ⟨a0, a1, a2, a3⟩ := fourB' (HY2.out.below hb3 HY2.out.lt)
      clear hb3 c0 c1 c2
      go_wp2_with fail
      refine (refRight_c y w3 hy.1).mono ?_
      rw [HYY.out]
      rintro en w4 ⟨rfl, hb4⟩
      have HB4 := Lib.hid (HB3.out.trans (hb4.mono HB3.out.size))
      clear hb4 a0 a1 a2 a3
      go_wp2
      go_ret
      exact ⟨rfl, HB4.out⟩
    | true =>
      obtain ⟨R, C, rfl, rfl, hR, hC, hl, hok⟩ := right_parts hG
      have HN : Hid (n = R * C) := by show _ = _; rw [← HLen.out, hl]
      have hn1 : 1 ≤ n := by rw [HN.out]; exact Nat.mul_pos hR.1 hC.1
      have hnb : n ≤ 400 := by omega
      obtain ⟨ad, rfl, hadlt⟩ := HR.out.pos hn1
      obtain ⟨f, hfE⟩ : ∃ f, Hid ((fun i => l.getD i (0, 0, 0, 0)) = f) := ⟨_, rfl⟩
      have HLT : Hid (l = tab n f) := by show _ = _; rw [← HLen.out, ← hfE.out]; exact tab_of l
      have HGG := Lib.hid hG
      have HYY := Lib.hid hY
      have HOK : Hid (∀ i, i < R * C → okC (f i) = true) := by rw [← hfE.out]; exact hok
      clear hG hY hR hC hl hok
      go_enter Try.func5, Try.ntmps5
      go_upto_region 1 with (fail)
      refine name_wp (fun w1 => Blk w1 w.heap.size 31 (gridV R C (some ad) n k) ∧ Blk w1 (w.heap.size + 1) 38 (cellV y) ∧ Below w.heap.size w w1) ⟨(Blk.new _ _ _).alloc _, newAt _ _ (by simp), (alloc_below' _ _).alloc (by simp) _⟩ ?_
      rintro w1 ⟨hb1, hb2, hbel1⟩
      have HBel1 := Lib.hid hbel1
      have HG1 := Lib.hid hb1
      have HY1 := Lib.hid hb2
      clear hb1 hb2 hbel1
      go_wp2_with fail
      refine (awake10_c w1).mono ?_
      rintro en w2 ⟨rfl, hb2⟩
      have HG2 := Lib.hid (HG1.out.below hb2 HG1.out.lt)
      have HY2 := Lib.hid (HY1.out.below hb2 HY1.out.lt)
      have HBel2 := Lib.hid (HBel1.out.trans (hb2.mono HBel1.out.size))
      obtain ⟨c0, c1, c2⟩ := boxG HG2.out
      have HR2 := Lib.hid (HR.out.keep HBel2.out)
      clear hb2 HG1 HY1 HBel1
      go_wp2_with fail
      refine (refRightG_c R C (some ad) n k l w2 HR2.out HF.out).mono ?_
      rw [HGG.out]
      rintro en w3 ⟨rfl, hb3⟩
      have HB3 := Lib.hid (HBel2.out.trans (hb3.mono HBel2.out.size))
      have HG3 := Lib.hid (HG2.out.below hb3 HG2.out.lt)
      have HY3 := Lib.hid (HY2.out.below hb3 HY2.out.lt)
      obtain ⟨a0, a1, a2, a3⟩ := fourB' HY3.out
      clear hb3 c0 c1 c2 HG2 HY2 HBel2
      go_wp2_with fail
      refine (refRight_c y w3 hy.1).mono ?_
      rw [HYY.out]
      rintro en w4 ⟨rfl, hb4⟩
      have HBW : Hid (Below w.heap.size w w4.drew) := (HB3.out.trans (hb4.mono HB3.out.size)).drew
      have HG0 : Hid (Blk w4.drew w.heap.size 31 (gridV R C (some ad) n k)) := (HG3.out.below hb4 HG3.out.lt).drew
      have HY0 : Hid (Blk w4.drew (w.heap.size + 1) 38 (cellV y)) := (HY3.out.below hb4 HY3.out.lt).drew
      have hzz : w.heap.size + 1 < w4.drew.heap.size := HY0.out.lt
      have hrd := HR.out.keep HBW.out
      rw [HLT.out] at hrd
      have HRD := Lib.hid hrd
      clear hb4 hrd a0 a1 a2 a3 HB3 HG3 HY3
      go_upto_region 5 with (fail)
      refine wp_region_any (by kernel_rfl) ?_
      change wpAny _ _ _ _ _ _ _ (World.drew _)
      refine wpAny_relyG (g := 1) [(0, 26), (1, 27), (2, 28), (3, 29), (4, 30), (5, 31), (6, 32), (7, 33), (8, 34), (9, 5)] (condAt [fun v _ => v = .pointer (some ⟨w.heap.size, 0, none⟩), fun v _ => v = .int .i64 R, fun v _ => v = .pointer (some ⟨w.heap.size, 1, none⟩), fun v _ => v = .int .i64 C, fun v W => ∃ y, v = .slice (some ⟨y, 0, none⟩) 0 0 ∧ Blk W y 38 [], fun v _ => v = .pointer (some ⟨w.heap.size, 2, none⟩), fun v _ => v = .slice (some ad) n k, fun v W => ∃ g cap, v = .slice (some ⟨g, 0, none⟩) n cap ∧ NewRow w4.drew W g cap n f, fun v W => ∃ g cap, v = .agg (gridV R C (some ⟨g, 0, none⟩) n cap).toArray ∧ NewRow w4.drew W g cap n f, fun v W => ∃ y, v = .pointer (some ⟨y, 0, none⟩) ∧ Blk W y 31 (gridV 0 0 none 0 0) ∧ w4.drew.heap.size ≤ y]) [] (by kernel_rfl) rfl (condAt_keep (stable_cons (stable_eq _) (stable_cons (stable_eq _) (stable_cons (stable_eq _) (stable_cons (stable_eq _) (stable_cons stable_empty (stable_cons (stable_eq _) (stable_cons (stable_eq _) (stable_cons stable_row7 (stable_cons stable_row8 (stable_cons stable_ptr9 stable_nil))))))))))) ?hstep ?hend
      case hstep =>
        intro p hp o ho x W hbel hdep K hK
        obtain ⟨c0, c1, c2⟩ := boxG (HG0.out.below hbel HG0.out.lt)
        simp only [List.mem_cons, List.not_mem_nil, or_false] at hp
        rcases hp with rfl | rfl | rfl | rfl | rfl | rfl | rfl | rfl | rfl | rfl
        · cases Option.some.inj ho
          simp only [frm, List.foldl_cons, List.foldl_nil, Act.put, List.setIfInBounds_toArray, List.set_cons_zero, List.set_cons_succ] at hK ⊢
          clear hdep ho
          rw [if_pos (by rfl)]
          go_simp
          exact hK _ _ rfl (Below.refl _ _) (by simp)
        · cases Option.some.inj ho
          have d0 : x 0 = .pointer (some ⟨w.heap.size, 0, none⟩) := hdep ⟨0, .data⟩ (by simp) rfl rfl
          simp only [frm, List.foldl_cons, List.foldl_nil, Act.put, List.setIfInBounds_toArray, List.set_cons_zero, List.set_cons_succ] at hK ⊢
          clear hdep ho
          rw [d0] at hK ⊢
          clear d0
          rw [if_pos (by rfl)]
          go_simp
          exact hK _ _ rfl (Below.refl _ _) (by simp)
        · cases Option.some.inj ho
          simp only [frm, List.foldl_cons, List.foldl_nil, Act.put, List.setIfInBounds_toArray, List.set_cons_zero, List.set_cons_succ] at hK ⊢
          clear hdep ho
          rw [if_pos (by rfl)]
          go_simp
          exact hK _ _ rfl (Below.refl _ _) (by simp)
        · cases Option.some.inj ho
          have d2 : x 2 = .pointer (some ⟨w.heap.size, 1, none⟩) := hdep ⟨2, .data⟩ (by simp) rfl rfl
          simp only [frm, List.foldl_cons, List.foldl_nil, Act.put, List.setIfInBounds_toArray, List.set_cons_zero, List.set_cons_succ] at hK ⊢
          clear hdep ho
          rw [d2] at hK ⊢
          clear d2
          rw [if_pos (by rfl)]
          go_simp
          exact hK _ _ rfl (Below.refl _ _) (by simp)
        · cases Option.some.inj ho
          simp only [frm, List.foldl_cons, List.foldl_nil, Act.put, List.setIfInBounds_toArray, List.set_cons_zero, List.set_cons_succ] at hK ⊢
          clear hdep ho
          rw [if_pos (by rfl)]
          go_simp
          exact hK _ _ ⟨_, rfl, Blk.new W _ []⟩ (alloc_below' _ _) (by simp)
        · cases Option.some.inj ho
          simp only [frm, List.foldl_cons, List.foldl_nil, Act.put, List.setIfInBounds_toArray, List.set_cons_zero, List.set_cons_succ] at hK ⊢
          clear hdep ho
          rw [if_pos (by rfl)]
          go_simp
          exact hK _ _ rfl (Below.refl _ _) (by simp)
        · cases Option.some.inj ho
          have d5 : x 5 = .pointer (some ⟨w.heap.size, 2, none⟩) := hdep ⟨5, .data⟩ (by simp) rfl rfl
          simp only [frm, List.foldl_cons, List.foldl_nil, Act.put, List.setIfInBounds_toArray, List.set_cons_zero, List.set_cons_succ] at hK ⊢
          clear hdep ho
          rw [d5] at hK ⊢
          clear d5
          rw [if_pos (by rfl)]
          go_simp
          exact hK _ _ rfl (Below.refl _ _) (by simp)
        · cases Option.some.inj ho
          have h4 : ∃ y, (x 4) = .slice (some ⟨y, 0, none⟩) 0 0 ∧ Blk W y 38 [] := hdep ⟨4, .data⟩ (by simp) rfl rfl
          have d6 : x 6 = .slice (some ad) n k := hdep ⟨6, .data⟩ (by simp) rfl rfl
          simp only [frm, List.foldl_cons, List.foldl_nil, Act.put, List.setIfInBounds_toArray, List.set_cons_zero, List.set_cons_succ] at hK ⊢
          clear hdep ho
          rw [d6] at hK ⊢
          clear d6
          rw [if_pos (by rfl)]
          obtain ⟨y0, d4, hy0⟩ := h4
          rw [d4] at hK ⊢
          clear d4
          refine step_fresh rfl (.tmp 30) (.tmp 32) rfl rfl W ad n k f y0 rfl rfl hy0 (HRD.out.keep hbel) hn1 (by omega) ?_
          intro cap w5 hnr
          exact hK _ _ ⟨_, cap, rfl, hnr.from_ hbel⟩ hnr.bel (by simp)
        · cases Option.some.inj ho
          have d1 : x 1 = .int .i64 R := hdep ⟨1, .data⟩ (by simp) rfl rfl
          have d3 : x 3 = .int .i64 C := hdep ⟨3, .data⟩ (by simp) rfl rfl
          have h7 : ∃ g cap, (x 7) = .slice (some ⟨g, 0, none⟩) n cap ∧ NewRow w4.drew W g cap n f := hdep ⟨7, .data⟩ (by simp) rfl rfl
          simp only [frm, List.foldl_cons, List.foldl_nil, Act.put, List.setIfInBounds_toArray, List.set_cons_zero, List.set_cons_succ] at hK ⊢
          clear hdep ho
          rw [d1, d3] at hK ⊢
          clear d1 d3
          rw [if_pos (by rfl)]
          obtain ⟨g, cap, d7, hnr⟩ := h7
          rw [d7] at hK ⊢
          clear d7
          go_simp
          exact hK _ _ ⟨g, cap, rfl, hnr⟩ (Below.refl _ _) (by simp)
        · cases Option.some.inj ho
          simp only [frm, List.foldl_cons, List.foldl_nil, Act.put, List.setIfInBounds_toArray, List.set_cons_zero, List.set_cons_succ] at hK ⊢
          clear hdep ho
          rw [if_pos (by rfl)]
          go_simp
          exact hK _ _ ⟨_, rfl, Blk.new W _ (gridV 0 0 none 0 0), hbel.size⟩ (alloc_below' _ _) (by simp)
      case hend =>
        intro x W hbel hall _
        obtain ⟨g, cap, d8, hnr⟩ : ∃ g cap, (x 8) = .agg (gridV R C (some ⟨g, 0, none⟩) n cap).toArray ∧ NewRow w4.drew W g cap n f := hall (8, 34) (by simp)
        obtain ⟨yy, d9, hyb, hyn⟩ : ∃ y, (x 9) = .pointer (some ⟨y, 0, none⟩) ∧ Blk W y 31 (gridV 0 0 none 0 0) ∧ w4.drew.heap.size ≤ y := hall (9, 5) (by simp)
        simp only [frm, List.foldl_cons, List.foldl_nil, Act.put, List.setIfInBounds_toArray, List.set_cons_zero, List.set_cons_succ]
        rw [d8, d9]
        clear hall d8 d9
        generalize x 0 = z0
        generalize x 1 = z1
        generalize x 2 = z2
        generalize x 3 = z3
        generalize x 4 = z4
        generalize x 5 = z5
        generalize x 6 = z6
        generalize x 7 = z7
        have hgy : g ≠ yy := fun e => by
          obtain ⟨cur, hcur, _⟩ := hnr.row
          rw [e] at hcur
          have h1 := hcur.symm.trans hyb
          cases h1
        refine wpAny_ready (rs := [10]) (by kernel_rfl) (by simp) (AllReady.cons (o := ⟨none, .store 31 (.tmp 5) (.tmp 34), _, _, _, _⟩) rfl (fun K hK => ?_) AllReady.nil)
        refine step_store_blk rfl rfl 31 (.tmp 5) (.tmp 34) rfl yy rfl (gridV R C (some ⟨g, 0, none⟩) n cap) rfl _ _ hyb rfl (one_gridV _ _ _ _ _) sizeG ?_
        intro w5 hb5 hg5
        refine hK _ _ ?_
        clear hK K hyb
        try simp only [Act.put, List.setIfInBounds_toArray, List.set_cons_zero, List.set_cons_succ]
        refine wpAny_done (by kernel_rfl) ?_ _
        have HZ5 := Lib.hid ((HG0.out.below hbel HG0.out.lt).grown hg5 (fun e => by cases e; omega))
        have HY5 := Lib.hid ((HY0.out.below hbel HY0.out.lt).grown hg5 (fun e => by cases e; omega))
        have HB5 := Lib.hid ((HBW.out.trans (hbel.mono HBW.out.size)).grown hg5 (by have := hbel.size; have := HBW.out.size; omega) (fun x hx => by cases hx; have := HBW.out.size; omega))
        have hrow5 := hnr.row.chg (Chg.of_only (F := fun i => i = yy) hg5 (fun i hi => (Option.some.inj hi).symm)) hgy
        have HRow5 := Lib.hid hrow5
        have HBk5 := Lib.hid hb5
        have hyl := hb5.lt
        have hgl := hrow5.lt
        obtain ⟨d0, d1, d2⟩ := boxG hb5
        clear hb5 hg5 hrow5
        have hgn := hnr.new
        have HNR := Lib.hid hnr
        clear hnr hbel
        have hrd5 := rowReads HRow5.out HNR.out.room HNR.out.cap
        have HRd5 := Lib.hid hrd5
        clear hrd5
        go_wp2_with fail
        refine (of_c R C (some ⟨g, 0, none⟩) n cap (tab n f) w5 HRd5.out (by omega)).mono ?_
        rw [← HLT.out]
        rintro en w6 (⟨h, _⟩ | ⟨_, R', C', b, gb, hR', hC', _, rfl, hn6⟩)
        · rw [HGG.out] at h; cases h
        obtain rfl : R = R' := by omega
        obtain rfl : C = C' := by omega
        rw [hfE.out] at hn6
        have HB6 := Lib.hid (HB5.out.trans (hn6.bel.mono HB5.out.size))
        have HBrd := Lib.hid hn6.at_
        have hbn := hn6.nb
        have hgbn := hn6.ng
        have HZ6 := Lib.hid (HZ5.out.below hn6.bel HZ5.out.lt)
        have HY6 := Lib.hid (HY5.out.below hn6.bel HY5.out.lt)
        have HRow6 := Lib.hid (HRow5.out.below hn6.bel)
        obtain ⟨e0, e1, e2⟩ := boxG (HBk5.out.below hn6.bel HBk5.out.lt)
        obtain ⟨a0, a1, a2, a3⟩ := fourB' HY6.out
        clear hn6 d0 d1 d2 HZ5 HY5 HB5 HRow5 HBk5
        have hn0 : (0 : Int) < (n : Int) := by omega
        go_upto_region 10 with ((with_reducible refine at_store 38 ?_); refine wpList_storeK rfl rfl 38 (.tmp 49) (.tmp 48) rfl g 0 _ n 38 f y rfl rfl (by omega) HRow6.out (by omega) sizeC ?_; intro w7 hb7 hg7; have HB7 := Lib.hid hb7; have HG7 := Lib.hid hg7; clear hb7 hg7)
        have k7 : Chg (fun i => i = g) w6 w7 := Chg.of_only HG7.out (fun i hi => (Option.some.inj hi).symm)
        have HBr7 := Lib.hid (HBrd.out.chg k7 (by omega) (by omega))
        have HZ7 := Lib.hid (HZ6.out.chg k7 (by have := HBW.out.size; omega))
        have HY7 := Lib.hid (HY6.out.chg k7 (by have := HBW.out.size; omega))
        have HB7w := Lib.hid (k7.below HB6.out HB6.out.size (fun i hi => by have := HBW.out.size; omega))
        clear k7 e0 e1 e2 a0 a1 a2 a3 HZ6 HY6 HB6
        go_wp2_with fail
        refine (grid_c b gb R C f w7 HBr7.out).mono ?_
        rw [← HN.out]
        rintro en w8 ⟨gt, capt, rfl, hn8⟩
        have HBr8 := Lib.hid (HBr7.out.below hn8.bel)
        have HZ8 := Lib.hid (HZ7.out.below hn8.bel HZ7.out.lt)
        have HY8 := Lib.hid (HY7.out.below hn8.bel HY7.out.lt)
        have HB8 := Lib.hid (HB7w.out.trans (hn8.bel.mono HB7w.out.size))
        have HT8 := Lib.hid hn8
        have hgt := hn8.new
        have hbl7 := HBr7.out.blt
        have hgl7 := HBr7.out.glt
        have hzl7 := HY7.out.lt
        clear hn8
        go_wp2_with fail
        refine (row_c b gb R C f 0 w8 HBr8.out).mono ?_
        rintro en w9 (⟨h, _⟩ | ⟨q, hq0, hqR, gr, capr, rfl, hn9⟩)
        · exact absurd h (by rw [hasB]; have := HBr8.out.rows; have := HBr8.out.cols; simp; omega)
        obtain rfl : q = 0 := by omega
        have HBr9 := Lib.hid (HBr8.out.below hn9.bel)
        have HZ9 := Lib.hid (HZ8.out.below hn9.bel HZ8.out.lt)
        have HY9 := Lib.hid (HY8.out.below hn9.bel HY8.out.lt)
        have HB9 := Lib.hid (HB8.out.trans (hn9.bel.mono HB8.out.size))
        have HT9 := Lib.hid (HT8.out.row.below hn9.bel)
        have HW9 := Lib.hid hn9
        have hgr := hn9.new
        have hgtl := HT8.out.row.lt
        have hC1 := HBr8.out.cols
        obtain ⟨hC1, hC2⟩ := hC1
        have hCn : ((C : Int) == 0) = false := by simpa using (by omega : C ≠ 0)
        have hnn : ((n : Int) == 0) = false := by simpa using (by omega : n ≠ 0)
        have hCn2 : (C == 0) = false := by simpa using (by omega : C ≠ 0)
        have hnn2 : (n == 0) = false := by simpa using (by omega : n ≠ 0)
        have hC0 : (0 : Int) < (C : Int) := by omega
        clear hn9 hq0
        go_wp2_with ((with_reducible refine at_store 31 ?_); refine wpList_store_at rfl rfl 31 (.tmp 8) (.tmp 51) rfl w9.heap.size 0 rfl _ rfl _ _ (Blk.new w9 31 (gridV 0 0 none 0 0)) (Nat.le_refl 3) (one_gridV _ _ _ _ _) sizeG ?_; intro w10 hb10 hg10; rw [splice_all _ _ (by rfl)] at hb10; have HBk10 := Lib.hid hb10; have HK10 := Lib.hid ((alloc_below' w9 (.cells (gridV 0 0 none 0 0).toArray 31)).grown hg10 (by simp) (fun x hx => by cases hx; exact Nat.le_refl _)); obtain ⟨d0, d1, d2⟩ := boxG hb10; clear hb10 hg10; refine hold ?_)
        refine Lib.hid ?_
        have HBr10 := Lib.hid (HBr9.out.below HK10.out)
        have HZ10 := Lib.hid (HZ9.out.below HK10.out HZ9.out.lt)
        have HY10 := Lib.hid (HY9.out.below HK10.out HY9.out.lt)
        have HB10 := Lib.hid (HB9.out.trans (HK10.out.mono HB9.out.size))
        have HT10 := Lib.hid (HT9.out.below HK10.out)
        have HW10 := Lib.hid (HW9.out.row.below HK10.out)
        have hs9 := HB9.out.size
        have hw78 := HT8.out.bel.size
        have hw89 := HW9.out.bel.size
        have hww := HBW.out.size
        have hbl := HBr8.out.blt
        have hgl8 := HBr8.out.glt
        obtain ⟨a0, a1, a2, a3⟩ := fourB' HY10.out
        go_upto_region 14 with ((with_reducible refine at_store 38 ?_); refine wpList_storeK rfl rfl 38 (.tmp 66) (.tmp 65) rfl gt 0 _ n 38 f y rfl rfl (by omega) HT10.out (by omega) sizeC ?_; intro w11 hb11 hg11; have HB11 := Lib.hid hb11; have HG11 := Lib.hid hg11; clear hb11 hg11)
        have k11 : Chg (fun i => i = gt) w10 w11 := Chg.of_only HG11.out (fun i hi => (Option.some.inj hi).symm)
        have HBr11 := Lib.hid (HBr10.out.chg k11 (by omega) (by omega))
        have HZ11 := Lib.hid (HZ10.out.chg k11 (by omega))
        have HY11 := Lib.hid (HY10.out.chg k11 (by omega))
        have HB11w := Lib.hid (k11.below HB10.out HB10.out.size (fun i hi => by omega))
        have HW11 := Lib.hid (HW10.out.chg k11 (by omega))
        clear k11 a0 a1 a2 a3 d0 d1 d2
        obtain ⟨a0, a1, a2, a3⟩ := fourB' HY11.out
        go_upto_region 15 with ((with_reducible refine at_store 38 ?_); refine wpList_storeK rfl rfl 38 (.tmp 69) (.tmp 68) rfl gr 0 _ C 38 _ y rfl rfl (by omega) HW11.out (by omega) sizeC ?_; intro w12 hb12 hg12; have HG12 := Lib.hid hg12; clear hb12 hg12)
        have k12 : Chg (fun i => i = gr) w11 w12 := Chg.of_only HG12.out (fun i hi => (Option.some.inj hi).symm)
        have HBD : Hid (BAt w12.drew b gb R C f) := (HBr11.out.chg k12 (by omega) (by omega)).of_heap rfl
        have HZ0 : Hid (Blk w12.drew w.heap.size 31 (gridV R C (some ad) n k)) := (HZ11.out.chg k12 (by omega)).drew
        have hb12 : Below w.heap.size w w12.drew := (k12.below HB11w.out HB11w.out.size (fun i hi => by omega)).drew
        have hrd := HR.out.keep hb12
        rw [HLT.out] at hrd
        have HRD2 := Lib.hid hrd
        have HB12 := Lib.hid hb12
        clear k12 a0 a1 a2 a3 hrd hb12
        refine wp_region_any (by kernel_rfl) ?_
        change wpAny _ _ _ _ _ _ _ (World.drew _)
        refine wpAny_relyG (g := 0) [(0, 70), (1, 71), (2, 72), (3, 73), (4, 4)] (condAt [fun v _ => v = .pointer (some ⟨b, 0, none⟩), fun v W => ∃ g cap, v = .agg (gridV R C (some ⟨g, 0, none⟩) n cap).toArray ∧ RowAt W g 38 n f ∧ n ≤ cap ∧ cap ≤ maxLen, fun v _ => v = .agg (gridV R C (some ad) n k).toArray, fun v _ => v = .bool true, fun v _ => v = .bool true]) [] (by kernel_rfl) rfl (condAt_keep (stable_cons (stable_eq _) (stable_cons stable_rowv (stable_cons (stable_eq _) (stable_cons (stable_eq _) (stable_cons (stable_eq _) stable_nil)))))) ?hstep3 ?hend3
        case hstep3 =>
          intro p hp o ho x W hbel hdep K hK
          simp only [List.mem_cons, List.not_mem_nil, or_false] at hp
          rcases hp with rfl | rfl | rfl | rfl | rfl
          · cases Option.some.inj ho
            simp only [frm, List.foldl_cons, List.foldl_nil, Act.put, List.setIfInBounds_toArray, List.set_cons_zero, List.set_cons_succ] at hK ⊢
            clear hdep ho
            rw [if_pos (by rfl)]
            go_simp
            exact hK _ _ rfl (Below.refl _ _) (by simp)
          · cases Option.some.inj ho
            have d0 : x 0 = .pointer (some ⟨b, 0, none⟩) := hdep ⟨0, .data⟩ (by simp) rfl rfl
            simp only [frm, List.foldl_cons, List.foldl_nil, Act.put, List.setIfInBounds_toArray, List.set_cons_zero, List.set_cons_succ] at hK ⊢
            clear hdep ho
            rw [d0] at hK ⊢
            clear d0
            rw [if_pos (by rfl)]
            go_simp
            refine (grid_c b gb R C f W (HBD.out.below hbel)).mono ?_
            rw [← HN.out]
            rintro e w' ⟨g2, cap2, rfl, hn2⟩
            exact hK _ _ ⟨g2, cap2, rfl, hn2.row, hn2.room, hn2.cap⟩ hn2.bel (by simp)
          · cases Option.some.inj ho
            simp only [frm, List.foldl_cons, List.foldl_nil, Act.put, List.setIfInBounds_toArray, List.set_cons_zero, List.set_cons_succ] at hK ⊢
            clear hdep ho
            rw [if_pos (by rfl)]
            exact wp_load_all 31 (.tmp 2) rfl _ rfl _ _ (HZ0.out.below hbel HZ0.out.lt) _ Try.underlying31 rfl sizeG (hK _ _ rfl (Below.refl _ _) (by simp))
          · cases Option.some.inj ho
            have h1 : ∃ g cap, (x 1) = .agg (gridV R C (some ⟨g, 0, none⟩) n cap).toArray ∧ RowAt W g 38 n f ∧ n ≤ cap ∧ cap ≤ maxLen := hdep ⟨1, .data⟩ (by simp) rfl rfl
            have d2 : x 2 = .agg (gridV R C (some ad) n k).toArray := hdep ⟨2, .data⟩ (by simp) rfl rfl
            simp only [frm, List.foldl_cons, List.foldl_nil, Act.put, List.setIfInBounds_toArray, List.set_cons_zero, List.set_cons_succ] at hK ⊢
            clear hdep ho
            rw [d2] at hK ⊢
            clear d2
            rw [if_pos (by rfl)]
            obtain ⟨g2, cap2, d1, hrow2, hc3, hc4⟩ := h1
            rw [d1] at hK ⊢
            clear d1
            go_simp
            refine (refSameG_c R C (some ⟨g2, 0, none⟩) n cap2 (tab n f) R C (some ad) n k (tab n f) W (rowReads hrow2 hc3 hc4) (HRD2.out.keep hbel)).mono ?_
            rw [sameG_self]
            rintro e w' ⟨rfl, hb⟩
            exact hK _ _ rfl hb (by simp)
          · cases Option.some.inj ho
            have d3 : x 3 = .bool true := hdep ⟨3, .data⟩ (by simp) rfl rfl
            simp only [frm, List.foldl_cons, List.foldl_nil, Act.put, List.setIfInBounds_toArray, List.set_cons_zero, List.set_cons_succ] at hK ⊢
            clear hdep ho
            rw [d3] at hK ⊢
            clear d3
            rw [if_pos (by rfl)]
            go_simp
            exact hK _ _ rfl (Below.refl _ _) (by simp)
        case hend3 =>
          intro x W3 hbel hall _
          have d4 : x 4 = .bool true := hall (4, 4) (by simp)
          simp only [frm, List.foldl_cons, List.foldl_nil, Act.put, List.setIfInBounds_toArray, List.set_cons_zero, List.set_cons_succ]
          rw [d4]
          clear hall d4
          generalize x 0 = z0
          generalize x 1 = z1
          generalize x 2 = z2
          generalize x 3 = z3
          refine wpAny_done (by kernel_rfl) ?_ _
          have HF3 := Lib.hid (HB12.out.trans (hbel.mono HB12.out.size))
          clear hbel
          go_wp2
          go_ret
          exact ⟨rfl, HF3.out⟩
end Go.Proofs.Ytgmfmhlboehdoaa.gridApart
