/- The walk through GridTells: for every two grids and every place it returns true and leaves old memory as it was. Conditions: none. -/
import Derived.Test.YtgmfmhlboehdoaaAwake10
import Derived.Test.YtgmfmhlboehdoaaGridR8
import Derived.Test.YtgmfmhlboehdoaaGrid7
import Derived.Test.YtgmfmhlboehdoaaOpen6
import Derived.Test.YtgmfmhlboehdoaaOpen2
namespace Go.Proofs.Ytgmfmhlboehdoaa.gridTells
open Go.ChangeShapes Go.WideShapes Go.RowKit
theorem sameG_self (R C : Int) (l : List CellV) : sameG R C l R C l = true := by simp [sameG]
theorem rowReads {W : World} {g n cap : Nat} {f : Nat → CellV} (h : RowAt W g 38 n f) (h1 : n ≤ cap) (h2 : cap ≤ maxLen) : ReadsS cellV 4 W (some ⟨g, 0, none⟩) n cap (tab n f) := by
  have h3 := h.reads 0 n cap (by omega) h1 h2 (A := some ⟨g, 0, none⟩) (fun _ => rfl)
  rwa [show (tab n fun i => f (0 + i)) = tab n f from tab_congr (fun i _ => by rw [Nat.zero_add])] at h3
theorem stable_rowv {R C n : Nat} {f : Nat → CellV} : Stable (fun v W => ∃ g cap, v = .agg (gridV R C (some ⟨g, 0, none⟩) n cap).toArray ∧ RowAt W g 38 n f ∧ n ≤ cap ∧ cap ≤ maxLen) := by
  rintro v w w' ⟨g, cap, e, h, h1, h2⟩ hb
  exact ⟨g, cap, e, h.below hb, h1, h2⟩
theorem part_reads {W : World} {ad : Addr} {n k Q m : Nat} {f : Nat → CellV} (h : ReadsS cellV 4 W (some ad) n k (tab n f)) (hQ : Q + m ≤ n) : ReadsS cellV 4 W (some (ad.add (Q * 4))) m (k - Q) (tab m fun i => f (Q + i)) := by
  refine ⟨length_tab _ _, by have := h.room; omega, by have := h.cap; omega, fun i hi => ?_⟩
  have hi' : i < m := by rwa [length_tab] at hi
  obtain ⟨ad', e, hlt, hc⟩ := h.cell (Q + i) (by rw [length_tab]; omega)
  cases e
  refine ⟨_, rfl, by rw [block_add]; exact hlt, fun j u hu => ?_⟩
  rw [tab_get] at hu hc
  rw [show (ad.add (Q * 4)).add (i * 4) = ad.add ((Q + i) * 4) by rw [add_add, Nat.add_mul]]
  exact hc j u hu
set_option maxRecDepth 100000 in
set_option maxHeartbeats 25600000 in
theorem walk (r c : Int) (A : Option Addr) (n k : Nat) (l : List CellV) (r2 c2 : Int) (A2 : Option Addr) (n2 k2 : Nat) (l2 : List CellV) (a0 a1 : Int) (w : World)
    (hr : ReadsS cellV 4 w A n k l) (hf : ∀ x ∈ l, fitC x) (_ : fit64 r) (_ : fit64 c) (hr2 : ReadsS cellV 4 w A2 n2 k2 l2) (_ : ∀ x ∈ l2, fitC x) (_ : fit64 r2) (_ : fit64 c2) (_ : (Lit.int .i64 a0).wf = true) (_ : (Lit.int .i64 a1).wf = true) :
    Calls Try.prog 4 #[.agg (gridV r c A n k).toArray, .agg (gridV r2 c2 A2 n2 k2).toArray, .agg #[.int .i64 a0, .int .i64 a1]] w fun e w' => e = .returned (.bool true) ∧ Below w.heap.size w w' := by
  have HR := Lib.hid hr
  have HR2 := Lib.hid hr2
  have HF := Lib.hid hf
  have HLen := Lib.hid hr.len
  clear hr hf hr2
  simp only [gridV_list]
  go_enter Try.func4, Try.ntmps4
  go_upto_region 1 with (fail)
  refine name_wp (fun w1 => Blk w1 w.heap.size 31 (gridV r c A n k) ∧ Blk w1 (w.heap.size + 1) 31 (gridV r2 c2 A2 n2 k2) ∧ Blk w1 (w.heap.size + 1 + 1) 45 [.int .i64 a0, .int .i64 a1] ∧ Below w.heap.size w w1) ⟨((Blk.new _ _ _).alloc _).alloc _, (newAt _ _ (by simp)).alloc _, newAt _ [.int .i64 a0, .int .i64 a1] (by simp), ((alloc_below' _ _).alloc (by simp) _).alloc (by simp; omega) _⟩ ?_
  rintro w1 ⟨hb1, hb2, hb3, hbel1⟩
  have HBel1 := Lib.hid hbel1
  have HG1 := Lib.hid hb1
  have HO1 := Lib.hid hb2
  have HP1 := Lib.hid hb3
  clear hb1 hb2 hb3 hbel1
  go_wp2_with fail
  refine (awake10_c w1).mono ?_
  rintro en w2 ⟨rfl, hb2⟩
  have HBW2 := Lib.hid (HBel1.out.trans (hb2.mono HBel1.out.size))
  have HG2 := Lib.hid (HG1.out.below hb2 HG1.out.lt)
  have HO2 := Lib.hid (HO1.out.below hb2 HO1.out.lt)
  have HP2 := Lib.hid (HP1.out.below hb2 HP1.out.lt)
  obtain ⟨c0, c1, c2'⟩ := boxG HG2.out
  obtain ⟨e0, e1, e2⟩ := boxG HO2.out
  clear hb2 HG1 HO1 HP1 HBel1
  by_cases hn : 400 < n
  · have hn2 : decide ((400 : Int) < (n : Int)) = true := by simp; omega
    go_wp2
    go_ret
    exact ⟨rfl, HBW2.out⟩
  have hn2 : decide ((400 : Int) < (n : Int)) = false := by simp; omega
  by_cases hm : 400 < n2
  · have hm2 : decide ((400 : Int) < (n2 : Int)) = true := by simp; omega
    go_wp2
    go_ret
    exact ⟨rfl, HBW2.out⟩
  have hm2 : decide ((400 : Int) < (n2 : Int)) = false := by simp; omega
  obtain ⟨Bq, HGG⟩ : ∃ Bq, Hid (rightG r c l = Bq) := ⟨_, rfl⟩
  obtain ⟨Sq, HSS⟩ : ∃ Sq, Hid (sameG r c l r2 c2 l2 = Sq) := ⟨_, rfl⟩
  go_wp2_with fail
  refine (refRightG_c r c A n k l w2 (HR.out.keep HBW2.out) HF.out).mono ?_
  rw [HGG.out]
  rintro en w3 ⟨rfl, hb3⟩
  have HBW3 := Lib.hid (HBW2.out.trans (hb3.mono HBW2.out.size))
  have HG3 := Lib.hid (HG2.out.below hb3 HG2.out.lt)
  have HO3 := Lib.hid (HO2.out.below hb3 HO2.out.lt)
  have HP3 := Lib.hid (HP2.out.below hb3 HP2.out.lt)
  clear hb3 c0 c1 c2' e0 e1 e2 HBW2 HG2 HO2 HP2
  obtain ⟨c0, c1, c2'⟩ := boxG HG3.out
  go_wp2_with fail
  refine (of_c r c A n k l w3 (HR.out.keep HBW3.out) (by omega)).mono ?_
  have HRest : Hid (∀ (en : Ending) (w4 : World), Below w3.heap.size w3 w4 → Below w.heap.size w w4.drew ∧ Blk w4.drew w.heap.size 31 (gridV r c A n k) ∧ Blk w4.drew (w.heap.size + 1) 31 (gridV r2 c2 A2 n2 k2) ∧ Blk w4.drew (w.heap.size + 1 + 1) 45 [.int .i64 a0, .int .i64 a1]) := by
    intro en w4 hb4
    exact ⟨(HBW3.out.trans (hb4.mono HBW3.out.size)).drew, (HG3.out.below hb4 HG3.out.lt).drew, (HO3.out.below hb4 HO3.out.lt).drew, (HP3.out.below hb4 HP3.out.lt).drew⟩
  rintro en w4 (⟨hq, rfl, hb4⟩ | ⟨hq, R, C, b, gb, rfl, rfl, hl, rfl, hn4⟩)
  · obtain rfl : Bq = false := HGG.out.symm.trans hq
    obtain ⟨hbw, hg4, ho4, hp4⟩ := HRest.out .outgrown w4 hb4
    have HBW := Lib.hid hbw
    have HG := Lib.hid hg4
    have HO := Lib.hid ho4
    have HRW := Lib.hid (HR.out.keep hbw)
    have HRW2 := Lib.hid (HR2.out.keep hbw)
    clear hq hb4 hbw hg4 ho4 hp4 c0 c1 c2' HRest HBW3
    go_upto_region 7 with (fail)
    refine wp_region_any (by kernel_rfl) ?_
    change wpAny _ _ _ _ _ _ _ (World.drew _)
    refine wpAny_relyG (g := 0) [(0, 30), (1, 31), (2, 32), (3, 33), (4, 34), (5, 35), (6, 36), (7, 37), (8, 38), (9, 39), (10, 40), (11, 41), (12, 42)] (condAt [fun v _ => v = .agg (gridV r c A n k).toArray, fun v _ => v = .bool false, fun v _ => v = .bool false, fun v _ => v = .bool false, fun v _ => v = .bool false, fun v _ => v = .agg (gridV r c A n k).toArray, fun v _ => v = .agg (gridV r2 c2 A2 n2 k2).toArray, fun v _ => v = .bool Sq, fun v _ => v = .agg (gridV r c A n k).toArray, fun v _ => v = .agg (gridV r2 c2 A2 n2 k2).toArray, fun v _ => v = .bool Sq, fun v _ => v = .bool false, fun v _ => v = .bool false]) [] (by kernel_rfl) rfl (condAt_keep (stable_cons (stable_eq _) (stable_cons (stable_eq _) (stable_cons (stable_eq _) (stable_cons (stable_eq _) (stable_cons (stable_eq _) (stable_cons (stable_eq _) (stable_cons (stable_eq _) (stable_cons (stable_eq _) (stable_cons (stable_eq _) (stable_cons (stable_eq _) (stable_cons (stable_eq _) (stable_cons (stable_eq _) (stable_cons (stable_eq _) stable_nil)))))))))))))) ?hstep71 ?hend71
    case hstep71 =>
      intro p hp o ho x W hbel hdep K hK
      simp only [List.mem_cons, List.not_mem_nil, or_false] at hp
      rcases hp with rfl | rfl | rfl | rfl | rfl | rfl | rfl | rfl | rfl | rfl | rfl | rfl | rfl
      · cases Option.some.inj ho
        simp only [frm, List.foldl_cons, List.foldl_nil, Act.put, List.setIfInBounds_toArray, List.set_cons_zero, List.set_cons_succ] at hK ⊢
        clear hdep ho
        rw [if_pos (by rfl)]
        exact wp_load_all 31 (.tmp 3) rfl _ rfl _ _ (HG.out.below hbel HG.out.lt) _ Try.underlying31 rfl sizeG (hK _ _ rfl (Below.refl _ _) (by simp))
      · cases Option.some.inj ho
        have d0 : x 0 = .agg (gridV r c A n k).toArray := hdep ⟨0, .data⟩ (by simp) rfl rfl
        simp only [frm, List.foldl_cons, List.foldl_nil, Act.put, List.setIfInBounds_toArray, List.set_cons_zero, List.set_cons_succ] at hK ⊢
        clear hdep ho
        rw [d0] at hK ⊢
        clear d0
        rw [if_pos (by rfl)]
        go_simp
        refine (gright_c r c A n k l W (HRW.out.keep hbel)).mono ?_
        rw [HGG.out]
        rintro e w' ⟨rfl, hb⟩
        exact hK _ _ rfl hb (by simp)
      · cases Option.some.inj ho
        simp only [frm, List.foldl_cons, List.foldl_nil, Act.put, List.setIfInBounds_toArray, List.set_cons_zero, List.set_cons_succ] at hK ⊢
        clear hdep ho
        rw [if_pos (by rfl)]
        go_simp
        exact hK _ _ rfl (Below.refl _ _) (by simp)
      · cases Option.some.inj ho
        have d1 : x 1 = .bool false := hdep ⟨1, .data⟩ (by simp) rfl rfl
        have d2 : x 2 = .bool false := hdep ⟨2, .data⟩ (by simp) rfl rfl
        simp only [frm, List.foldl_cons, List.foldl_nil, Act.put, List.setIfInBounds_toArray, List.set_cons_zero, List.set_cons_succ] at hK ⊢
        clear hdep ho
        rw [d1, d2] at hK ⊢
        clear d1 d2
        rw [if_pos (by rfl)]
        go_simp
        exact hK _ _ rfl (Below.refl _ _) (by simp)
      · cases Option.some.inj ho
        have d3 : x 3 = .bool false := hdep ⟨3, .data⟩ (by simp) rfl rfl
        simp only [frm, List.foldl_cons, List.foldl_nil, Act.put, List.setIfInBounds_toArray, List.set_cons_zero, List.set_cons_succ] at hK ⊢
        clear hdep ho
        rw [d3] at hK ⊢
        clear d3
        rw [if_pos (by rfl)]
        go_simp
        exact hK _ _ rfl (Below.refl _ _) (by simp)
      · cases Option.some.inj ho
        have d4 : x 4 = .bool false := hdep ⟨4, .guard⟩ (by simp) rfl rfl
        simp only [frm, List.foldl_cons, List.foldl_nil, Act.put, List.setIfInBounds_toArray, List.set_cons_zero, List.set_cons_succ] at hK ⊢
        clear hdep ho
        rw [d4] at hK ⊢
        clear d4
        rw [if_pos (by rfl)]
        exact wp_load_all 31 (.tmp 3) rfl _ rfl _ _ (HG.out.below hbel HG.out.lt) _ Try.underlying31 rfl sizeG (hK _ _ rfl (Below.refl _ _) (by simp))
      · cases Option.some.inj ho
        have d4 : x 4 = .bool false := hdep ⟨4, .guard⟩ (by simp) rfl rfl
        simp only [frm, List.foldl_cons, List.foldl_nil, Act.put, List.setIfInBounds_toArray, List.set_cons_zero, List.set_cons_succ] at hK ⊢
        clear hdep ho
        rw [d4] at hK ⊢
        clear d4
        rw [if_pos (by rfl)]
        exact wp_load_all 31 (.tmp 4) rfl _ rfl _ _ (HO.out.below hbel HO.out.lt) _ Try.underlying31 rfl sizeG (hK _ _ rfl (Below.refl _ _) (by simp))
      · cases Option.some.inj ho
        have d5 : x 5 = .agg (gridV r c A n k).toArray := hdep ⟨5, .data⟩ (by simp) rfl rfl
        have d6 : x 6 = .agg (gridV r2 c2 A2 n2 k2).toArray := hdep ⟨6, .data⟩ (by simp) rfl rfl
        have d4 : x 4 = .bool false := hdep ⟨4, .guard⟩ (by simp) rfl rfl
        simp only [frm, List.foldl_cons, List.foldl_nil, Act.put, List.setIfInBounds_toArray, List.set_cons_zero, List.set_cons_succ] at hK ⊢
        clear hdep ho
        rw [d5, d6, d4] at hK ⊢
        clear d5 d6 d4
        rw [if_pos (by rfl)]
        go_simp
        refine (gsame_c r c A n k l r2 c2 A2 n2 k2 l2 W (HRW.out.keep hbel) (HRW2.out.keep hbel)).mono ?_
        rw [HSS.out]
        rintro e w' ⟨rfl, hb⟩
        exact hK _ _ rfl hb (by simp)
      · cases Option.some.inj ho
        have d4 : x 4 = .bool false := hdep ⟨4, .guard⟩ (by simp) rfl rfl
        simp only [frm, List.foldl_cons, List.foldl_nil, Act.put, List.setIfInBounds_toArray, List.set_cons_zero, List.set_cons_succ] at hK ⊢
        clear hdep ho
        rw [d4] at hK ⊢
        clear d4
        rw [if_pos (by rfl)]
        exact wp_load_all 31 (.tmp 3) rfl _ rfl _ _ (HG.out.below hbel HG.out.lt) _ Try.underlying31 rfl sizeG (hK _ _ rfl (Below.refl _ _) (by simp))
      · cases Option.some.inj ho
        have d4 : x 4 = .bool false := hdep ⟨4, .guard⟩ (by simp) rfl rfl
        simp only [frm, List.foldl_cons, List.foldl_nil, Act.put, List.setIfInBounds_toArray, List.set_cons_zero, List.set_cons_succ] at hK ⊢
        clear hdep ho
        rw [d4] at hK ⊢
        clear d4
        rw [if_pos (by rfl)]
        exact wp_load_all 31 (.tmp 4) rfl _ rfl _ _ (HO.out.below hbel HO.out.lt) _ Try.underlying31 rfl sizeG (hK _ _ rfl (Below.refl _ _) (by simp))
      · cases Option.some.inj ho
        have d8 : x 8 = .agg (gridV r c A n k).toArray := hdep ⟨8, .data⟩ (by simp) rfl rfl
        have d9 : x 9 = .agg (gridV r2 c2 A2 n2 k2).toArray := hdep ⟨9, .data⟩ (by simp) rfl rfl
        have d4 : x 4 = .bool false := hdep ⟨4, .guard⟩ (by simp) rfl rfl
        simp only [frm, List.foldl_cons, List.foldl_nil, Act.put, List.setIfInBounds_toArray, List.set_cons_zero, List.set_cons_succ] at hK ⊢
        clear hdep ho
        rw [d8, d9, d4] at hK ⊢
        clear d8 d9 d4
        rw [if_pos (by rfl)]
        go_simp
        refine (refSameG_c r c A n k l r2 c2 A2 n2 k2 l2 W (HRW.out.keep hbel) (HRW2.out.keep hbel)).mono ?_
        rw [HSS.out]
        rintro e w' ⟨rfl, hb⟩
        exact hK _ _ rfl hb (by simp)
      · cases Option.some.inj ho
        have d7 : x 7 = .bool Sq := hdep ⟨7, .data⟩ (by simp) rfl rfl
        have d10 : x 10 = .bool Sq := hdep ⟨10, .data⟩ (by simp) rfl rfl
        have d4 : x 4 = .bool false := hdep ⟨4, .guard⟩ (by simp) rfl rfl
        simp only [frm, List.foldl_cons, List.foldl_nil, Act.put, List.setIfInBounds_toArray, List.set_cons_zero, List.set_cons_succ] at hK ⊢
        clear hdep ho
        rw [d7, d10, d4] at hK ⊢
        clear d7 d10 d4
        rw [if_pos (by rfl)]
        go_simp
        exact hK _ _ rfl (Below.refl _ _) (by simp)
      · cases Option.some.inj ho
        have d4 : x 4 = .bool false := hdep ⟨4, .data⟩ (by simp) rfl rfl
        have d11 : x 11 = .bool false := hdep ⟨11, .data⟩ (by simp) rfl rfl
        simp only [frm, List.foldl_cons, List.foldl_nil, Act.put, List.setIfInBounds_toArray, List.set_cons_zero, List.set_cons_succ] at hK ⊢
        clear hdep ho
        rw [d4, d11] at hK ⊢
        clear d4 d11
        rw [if_pos (by rfl)]
        go_simp
        exact hK _ _ rfl (Below.refl _ _) (by simp)
    case hend71 =>
      intro x W71 hbel hall _
      have d12 : x 12 = .bool false := hall (12, 42) (by simp)
      simp only [frm, List.foldl_cons, List.foldl_nil, Act.put, List.setIfInBounds_toArray, List.set_cons_zero, List.set_cons_succ]
      rw [d12]
      clear hall d12
      generalize x 0 = z0
      generalize x 1 = z1
      generalize x 2 = z2
      generalize x 3 = z3
      generalize x 4 = z4
      generalize x 5 = z5
      generalize x 6 = z6
      generalize x 7 = z7
      generalize x 8 = z8
      generalize x 9 = z9
      generalize x 10 = z10
      generalize x 11 = z11
      refine wpAny_done (by kernel_rfl) ?_ _
      have HF3 := Lib.hid (HBW.out.trans (hbel.mono HBW.out.size))
      clear hbel
      go_wp2
      go_ret
      exact ⟨rfl, HF3.out⟩
  · obtain rfl : Bq = true := HGG.out.symm.trans hq
    obtain ⟨hbw, hg4, ho4, hp4⟩ := HRest.out .outgrown w4 hn4.bel
    have HBW4 := Lib.hid hbw
    have HG4 := Lib.hid hg4
    have HO4 := Lib.hid ho4
    have HP4 := Lib.hid hp4
    have HRW := Lib.hid (HR.out.keep hbw)
    have HRW2 := Lib.hid (HR2.out.keep hbw)
    have HBD4 : Hid (BAt w4.drew b gb R C fun i => l.getD i (0, 0, 0, 0)) := hn4.at_.of_heap rfl
    have HG := HG4
    have HO := HO4
    clear hq hbw hg4 ho4 hp4 c0 c1 c2' HRest HBW3 hn4
    go_upto_region 7 with (fail)
    refine wp_region_any (by kernel_rfl) ?_
    change wpAny _ _ _ _ _ _ _ (World.drew _)
    refine wpAny_relyG (g := 0) [(0, 30), (1, 31), (2, 32), (3, 33), (4, 34), (5, 35), (6, 36), (7, 37), (8, 38), (9, 39), (10, 40), (11, 41), (12, 42)] (condAt [fun v _ => v = .agg (gridV R C A n k).toArray, fun v _ => v = .bool true, fun v _ => v = .bool true, fun v _ => v = .bool false, fun v _ => v = .bool false, fun v _ => v = .agg (gridV R C A n k).toArray, fun v _ => v = .agg (gridV r2 c2 A2 n2 k2).toArray, fun v _ => v = .bool Sq, fun v _ => v = .agg (gridV R C A n k).toArray, fun v _ => v = .agg (gridV r2 c2 A2 n2 k2).toArray, fun v _ => v = .bool Sq, fun v _ => v = .bool false, fun v _ => v = .bool false]) [] (by kernel_rfl) rfl (condAt_keep (stable_cons (stable_eq _) (stable_cons (stable_eq _) (stable_cons (stable_eq _) (stable_cons (stable_eq _) (stable_cons (stable_eq _) (stable_cons (stable_eq _) (stable_cons (stable_eq _) (stable_cons (stable_eq _) (stable_cons (stable_eq _) (stable_cons (stable_eq _) (stable_cons (stable_eq _) (stable_cons (stable_eq _) (stable_cons (stable_eq _) stable_nil)))))))))))))) ?hstep72 ?hend72
    case hstep72 =>
      intro p hp o ho x W hbel hdep K hK
      simp only [List.mem_cons, List.not_mem_nil, or_false] at hp
      rcases hp with rfl | rfl | rfl | rfl | rfl | rfl | rfl | rfl | rfl | rfl | rfl | rfl | rfl
      · cases Option.some.inj ho
        simp only [frm, List.foldl_cons, List.foldl_nil, Act.put, List.setIfInBounds_toArray, List.set_cons_zero, List.set_cons_succ] at hK ⊢
        clear hdep ho
        rw [if_pos (by rfl)]
        exact wp_load_all 31 (.tmp 3) rfl _ rfl _ _ (HG.out.below hbel HG.out.lt) _ Try.underlying31 rfl sizeG (hK _ _ rfl (Below.refl _ _) (by simp))
      · cases Option.some.inj ho
        have d0 : x 0 = .agg (gridV R C A n k).toArray := hdep ⟨0, .data⟩ (by simp) rfl rfl
        simp only [frm, List.foldl_cons, List.foldl_nil, Act.put, List.setIfInBounds_toArray, List.set_cons_zero, List.set_cons_succ] at hK ⊢
        clear hdep ho
        rw [d0] at hK ⊢
        clear d0
        rw [if_pos (by rfl)]
        go_simp
        refine (gright_c R C A n k l W (HRW.out.keep hbel)).mono ?_
        rw [HGG.out]
        rintro e w' ⟨rfl, hb⟩
        exact hK _ _ rfl hb (by simp)
      · cases Option.some.inj ho
        simp only [frm, List.foldl_cons, List.foldl_nil, Act.put, List.setIfInBounds_toArray, List.set_cons_zero, List.set_cons_succ] at hK ⊢
        clear hdep ho
        rw [if_pos (by rfl)]
        go_simp
        exact hK _ _ rfl (Below.refl _ _) (by simp)
      · cases Option.some.inj ho
        have d1 : x 1 = .bool true := hdep ⟨1, .data⟩ (by simp) rfl rfl
        have d2 : x 2 = .bool true := hdep ⟨2, .data⟩ (by simp) rfl rfl
        simp only [frm, List.foldl_cons, List.foldl_nil, Act.put, List.setIfInBounds_toArray, List.set_cons_zero, List.set_cons_succ] at hK ⊢
        clear hdep ho
        rw [d1, d2] at hK ⊢
        clear d1 d2
        rw [if_pos (by rfl)]
        go_simp
        exact hK _ _ rfl (Below.refl _ _) (by simp)
      · cases Option.some.inj ho
        have d3 : x 3 = .bool false := hdep ⟨3, .data⟩ (by simp) rfl rfl
        simp only [frm, List.foldl_cons, List.foldl_nil, Act.put, List.setIfInBounds_toArray, List.set_cons_zero, List.set_cons_succ] at hK ⊢
        clear hdep ho
        rw [d3] at hK ⊢
        clear d3
        rw [if_pos (by rfl)]
        go_simp
        exact hK _ _ rfl (Below.refl _ _) (by simp)
      · cases Option.some.inj ho
        have d4 : x 4 = .bool false := hdep ⟨4, .guard⟩ (by simp) rfl rfl
        simp only [frm, List.foldl_cons, List.foldl_nil, Act.put, List.setIfInBounds_toArray, List.set_cons_zero, List.set_cons_succ] at hK ⊢
        clear hdep ho
        rw [d4] at hK ⊢
        clear d4
        rw [if_pos (by rfl)]
        exact wp_load_all 31 (.tmp 3) rfl _ rfl _ _ (HG.out.below hbel HG.out.lt) _ Try.underlying31 rfl sizeG (hK _ _ rfl (Below.refl _ _) (by simp))
      · cases Option.some.inj ho
        have d4 : x 4 = .bool false := hdep ⟨4, .guard⟩ (by simp) rfl rfl
        simp only [frm, List.foldl_cons, List.foldl_nil, Act.put, List.setIfInBounds_toArray, List.set_cons_zero, List.set_cons_succ] at hK ⊢
        clear hdep ho
        rw [d4] at hK ⊢
        clear d4
        rw [if_pos (by rfl)]
        exact wp_load_all 31 (.tmp 4) rfl _ rfl _ _ (HO.out.below hbel HO.out.lt) _ Try.underlying31 rfl sizeG (hK _ _ rfl (Below.refl _ _) (by simp))
      · cases Option.some.inj ho
        have d5 : x 5 = .agg (gridV R C A n k).toArray := hdep ⟨5, .data⟩ (by simp) rfl rfl
        have d6 : x 6 = .agg (gridV r2 c2 A2 n2 k2).toArray := hdep ⟨6, .data⟩ (by simp) rfl rfl
        have d4 : x 4 = .bool false := hdep ⟨4, .guard⟩ (by simp) rfl rfl
        simp only [frm, List.foldl_cons, List.foldl_nil, Act.put, List.setIfInBounds_toArray, List.set_cons_zero, List.set_cons_succ] at hK ⊢
        clear hdep ho
        rw [d5, d6, d4] at hK ⊢
        clear d5 d6 d4
        rw [if_pos (by rfl)]
        go_simp
        refine (gsame_c R C A n k l r2 c2 A2 n2 k2 l2 W (HRW.out.keep hbel) (HRW2.out.keep hbel)).mono ?_
        rw [HSS.out]
        rintro e w' ⟨rfl, hb⟩
        exact hK _ _ rfl hb (by simp)
      · cases Option.some.inj ho
        have d4 : x 4 = .bool false := hdep ⟨4, .guard⟩ (by simp) rfl rfl
        simp only [frm, List.foldl_cons, List.foldl_nil, Act.put, List.setIfInBounds_toArray, List.set_cons_zero, List.set_cons_succ] at hK ⊢
        clear hdep ho
        rw [d4] at hK ⊢
        clear d4
        rw [if_pos (by rfl)]
        exact wp_load_all 31 (.tmp 3) rfl _ rfl _ _ (HG.out.below hbel HG.out.lt) _ Try.underlying31 rfl sizeG (hK _ _ rfl (Below.refl _ _) (by simp))
      · cases Option.some.inj ho
        have d4 : x 4 = .bool false := hdep ⟨4, .guard⟩ (by simp) rfl rfl
        simp only [frm, List.foldl_cons, List.foldl_nil, Act.put, List.setIfInBounds_toArray, List.set_cons_zero, List.set_cons_succ] at hK ⊢
        clear hdep ho
        rw [d4] at hK ⊢
        clear d4
        rw [if_pos (by rfl)]
        exact wp_load_all 31 (.tmp 4) rfl _ rfl _ _ (HO.out.below hbel HO.out.lt) _ Try.underlying31 rfl sizeG (hK _ _ rfl (Below.refl _ _) (by simp))
      · cases Option.some.inj ho
        have d8 : x 8 = .agg (gridV R C A n k).toArray := hdep ⟨8, .data⟩ (by simp) rfl rfl
        have d9 : x 9 = .agg (gridV r2 c2 A2 n2 k2).toArray := hdep ⟨9, .data⟩ (by simp) rfl rfl
        have d4 : x 4 = .bool false := hdep ⟨4, .guard⟩ (by simp) rfl rfl
        simp only [frm, List.foldl_cons, List.foldl_nil, Act.put, List.setIfInBounds_toArray, List.set_cons_zero, List.set_cons_succ] at hK ⊢
        clear hdep ho
        rw [d8, d9, d4] at hK ⊢
        clear d8 d9 d4
        rw [if_pos (by rfl)]
        go_simp
        refine (refSameG_c R C A n k l r2 c2 A2 n2 k2 l2 W (HRW.out.keep hbel) (HRW2.out.keep hbel)).mono ?_
        rw [HSS.out]
        rintro e w' ⟨rfl, hb⟩
        exact hK _ _ rfl hb (by simp)
      · cases Option.some.inj ho
        have d7 : x 7 = .bool Sq := hdep ⟨7, .data⟩ (by simp) rfl rfl
        have d10 : x 10 = .bool Sq := hdep ⟨10, .data⟩ (by simp) rfl rfl
        have d4 : x 4 = .bool false := hdep ⟨4, .guard⟩ (by simp) rfl rfl
        simp only [frm, List.foldl_cons, List.foldl_nil, Act.put, List.setIfInBounds_toArray, List.set_cons_zero, List.set_cons_succ] at hK ⊢
        clear hdep ho
        rw [d7, d10, d4] at hK ⊢
        clear d7 d10 d4
        rw [if_pos (by rfl)]
        go_simp
        exact hK _ _ rfl (Below.refl _ _) (by simp)
      · cases Option.some.inj ho
        have d4 : x 4 = .bool false := hdep ⟨4, .data⟩ (by simp) rfl rfl
        have d11 : x 11 = .bool false := hdep ⟨11, .data⟩ (by simp) rfl rfl
        simp only [frm, List.foldl_cons, List.foldl_nil, Act.put, List.setIfInBounds_toArray, List.set_cons_zero, List.set_cons_succ] at hK ⊢
        clear hdep ho
        rw [d4, d11] at hK ⊢
        clear d4 d11
        rw [if_pos (by rfl)]
        go_simp
        exact hK _ _ rfl (Below.refl _ _) (by simp)
    case hend72 =>
      intro x W72 hbel hall _
      have d12 : x 12 = .bool false := hall (12, 42) (by simp)
      simp only [frm, List.foldl_cons, List.foldl_nil, Act.put, List.setIfInBounds_toArray, List.set_cons_zero, List.set_cons_succ]
      rw [d12]
      clear hall d12
      generalize x 0 = z0
      generalize x 1 = z1
      generalize x 2 = z2
      generalize x 3 = z3
      generalize x 4 = z4
      generalize x 5 = z5
      generalize x 6 = z6
      generalize x 7 = z7
      generalize x 8 = z8
      generalize x 9 = z9
      generalize x 10 = z10
      generalize x 11 = z11
      refine wpAny_done (by kernel_rfl) ?_ _
      have hw5 : Below w.heap.size w W72.drew := (HBW4.out.trans (hbel.mono HBW4.out.size)).drew
      have HG5 := Lib.hid ((HG4.out.below hbel HG4.out.lt).drew)
      have HP5 := Lib.hid ((HP4.out.below hbel HP4.out.lt).drew)
      have HBD5 : Hid (BAt W72.drew b gb R C fun i => l.getD i (0, 0, 0, 0)) := (HBD4.out.below hbel).of_heap rfl
      have HBW5 := Lib.hid hw5
      clear HG HO HRW HRW2 HG4 HO4 HP4 HBD4 HBW4 hw5 hbel
      obtain ⟨f, hfE⟩ : ∃ f, Hid ((fun i => l.getD i (0, 0, 0, 0)) = f) := ⟨_, rfl⟩
      have HLT : Hid (l = tab n f) := by show _ = _; rw [← HLen.out, ← hfE.out]; exact tab_of l
      rw [hfE.out] at HBD5
      have HN : Hid (n = R * C) := by show _ = _; rw [← HLen.out, hl]
      have hR := HBD5.out.rows
      have hC := HBD5.out.cols
      have hn1 : 1 ≤ n := by rw [HN.out]; exact Nat.mul_pos hR.1 hC.1
      obtain ⟨ad, rfl, hadlt⟩ := HR.out.pos hn1
      have HRC : Hid (R ≤ 60 ∧ C ≤ 132) := ⟨hR.2, hC.2⟩
      have hrw := HR.out.keep HBW5.out
      rw [HLT.out] at hrw
      have HRW := Lib.hid hrw
      have HG := HG5
      have HP := HP5
      have HBD := HBD5
      clear hrw hl
      go_upto_region 11 with (fail)
      refine wp_region_any (by kernel_rfl) ?_
      change wpAny _ _ _ _ _ _ _ (World.drew _)
      refine wpAny_relyG (g := 0) [(0, 51), (1, 52), (2, 53), (3, 54), (4, 55), (5, 56), (6, 57), (7, 58), (8, 59), (9, 60), (10, 61), (11, 62), (12, 63), (13, 64), (14, 65), (15, 66), (16, 67), (17, 68), (18, 69), (19, 70), (20, 71), (21, 72), (22, 73), (23, 74), (24, 75), (25, 76), (26, 77)] (condAt [fun v _ => v = .int .i64 0, fun v _ => v = .bool false, fun v _ => v = .bool false, fun v _ => v = .pointer (some ⟨b, 0, none⟩), fun v _ => v = .bool false, fun v _ => v = .bool false, fun v _ => v = .bool false, fun v _ => v = .pointer (some ⟨b, 0, none⟩), fun v W => ∃ g cap, v = .agg (gridV R C (some ⟨g, 0, none⟩) n cap).toArray ∧ RowAt W g 38 n f ∧ n ≤ cap ∧ cap ≤ maxLen, fun v _ => v = .agg (gridV R C (some ad) n k).toArray, fun v _ => v = .bool true, fun v _ => v = .bool false, fun v _ => v = .bool false, fun v _ => v = .bool false, fun v _ => v = .pointer (some ⟨b, 0, none⟩), fun v _ => v = .int .i64 R, fun v _ => v = .pointer (some ⟨w.heap.size, 0, none⟩), fun v _ => v = .int .i64 R, fun v _ => v = .bool false, fun v _ => v = .bool false, fun v _ => v = .bool false, fun v _ => v = .pointer (some ⟨b, 0, none⟩), fun v _ => v = .int .i64 C, fun v _ => v = .pointer (some ⟨w.heap.size, 1, none⟩), fun v _ => v = .int .i64 C, fun v _ => v = .bool false, fun v _ => v = .bool false]) [] (by kernel_rfl) rfl (condAt_keep (stable_cons (stable_eq _) (stable_cons (stable_eq _) (stable_cons (stable_eq _) (stable_cons (stable_eq _) (stable_cons (stable_eq _) (stable_cons (stable_eq _) (stable_cons (stable_eq _) (stable_cons (stable_eq _) (stable_cons stable_rowv (stable_cons (stable_eq _) (stable_cons (stable_eq _) (stable_cons (stable_eq _) (stable_cons (stable_eq _) (stable_cons (stable_eq _) (stable_cons (stable_eq _) (stable_cons (stable_eq _) (stable_cons (stable_eq _) (stable_cons (stable_eq _) (stable_cons (stable_eq _) (stable_cons (stable_eq _) (stable_cons (stable_eq _) (stable_cons (stable_eq _) (stable_cons (stable_eq _) (stable_cons (stable_eq _) (stable_cons (stable_eq _) (stable_cons (stable_eq _) (stable_cons (stable_eq _) stable_nil)))))))))))))))))))))))))))) ?hstep11 ?hend11
      case hstep11 =>
        intro p hp o ho x W hbel hdep K hK
        obtain ⟨c0, c1, c2⟩ := boxG (HG.out.below hbel HG.out.lt)
        have p0 : W.cell? ⟨w.heap.size + 1 + 1, 0, none⟩ = some (.int .i64 a0) := (HP.out.below hbel HP.out.lt).cell 0
        have p1 : W.cell? ⟨w.heap.size + 1 + 1, 1, none⟩ = some (.int .i64 a1) := (HP.out.below hbel HP.out.lt).cell 1
        simp only [List.mem_cons, List.not_mem_nil, or_false] at hp
        rcases hp with rfl | rfl | rfl | rfl | rfl | rfl | rfl | rfl | rfl | rfl | rfl | rfl | rfl | rfl | rfl | rfl | rfl | rfl | rfl | rfl | rfl | rfl | rfl | rfl | rfl | rfl | rfl
        · cases Option.some.inj ho
          simp only [frm, List.foldl_cons, List.foldl_nil, Act.put, List.setIfInBounds_toArray, List.set_cons_zero, List.set_cons_succ] at hK ⊢
          clear hdep ho
          rw [if_pos (by rfl)]
          go_simp
          exact hK _ _ rfl (Below.refl _ _) (by simp)
        · cases Option.some.inj ho
          have d0 : x 0 = .int .i64 0 := hdep ⟨0, .data⟩ (by simp) rfl rfl
          simp only [frm, List.foldl_cons, List.foldl_nil, Act.put, List.setIfInBounds_toArray, List.set_cons_zero, List.set_cons_succ] at hK ⊢
          clear hdep ho
          rw [d0] at hK ⊢
          clear d0
          rw [if_pos (by rfl)]
          go_simp
          exact hK _ _ rfl (Below.refl _ _) (by simp)
        · cases Option.some.inj ho
          have d1 : x 1 = .bool false := hdep ⟨1, .data⟩ (by simp) rfl rfl
          simp only [frm, List.foldl_cons, List.foldl_nil, Act.put, List.setIfInBounds_toArray, List.set_cons_zero, List.set_cons_succ] at hK ⊢
          clear hdep ho
          rw [d1] at hK ⊢
          clear d1
          rw [if_pos (by rfl)]
          go_simp
          exact hK _ _ rfl (Below.refl _ _) (by simp)
        · cases Option.some.inj ho
          have d2 : x 2 = .bool false := hdep ⟨2, .guard⟩ (by simp) rfl rfl
          simp only [frm, List.foldl_cons, List.foldl_nil, Act.put, List.setIfInBounds_toArray, List.set_cons_zero, List.set_cons_succ] at hK ⊢
          clear hdep ho
          rw [d2] at hK ⊢
          clear d2
          rw [if_pos (by rfl)]
          go_simp
          exact hK _ _ rfl (Below.refl _ _) (by simp)
        · cases Option.some.inj ho
          have d3 : x 3 = .pointer (some ⟨b, 0, none⟩) := hdep ⟨3, .data⟩ (by simp) rfl rfl
          have d2 : x 2 = .bool false := hdep ⟨2, .guard⟩ (by simp) rfl rfl
          simp only [frm, List.foldl_cons, List.foldl_nil, Act.put, List.setIfInBounds_toArray, List.set_cons_zero, List.set_cons_succ] at hK ⊢
          clear hdep ho
          rw [d3, d2] at hK ⊢
          clear d3 d2
          rw [if_pos (by rfl)]
          go_simp
          exact hK _ _ rfl (Below.refl _ _) (by simp)
        · cases Option.some.inj ho
          have d2 : x 2 = .bool false := hdep ⟨2, .data⟩ (by simp) rfl rfl
          have d4 : x 4 = .bool false := hdep ⟨4, .data⟩ (by simp) rfl rfl
          simp only [frm, List.foldl_cons, List.foldl_nil, Act.put, List.setIfInBounds_toArray, List.set_cons_zero, List.set_cons_succ] at hK ⊢
          clear hdep ho
          rw [d2, d4] at hK ⊢
          clear d2 d4
          rw [if_pos (by rfl)]
          go_simp
          exact hK _ _ rfl (Below.refl _ _) (by simp)
        · cases Option.some.inj ho
          have d5 : x 5 = .bool false := hdep ⟨5, .data⟩ (by simp) rfl rfl
          simp only [frm, List.foldl_cons, List.foldl_nil, Act.put, List.setIfInBounds_toArray, List.set_cons_zero, List.set_cons_succ] at hK ⊢
          clear hdep ho
          rw [d5] at hK ⊢
          clear d5
          rw [if_pos (by rfl)]
          go_simp
          exact hK _ _ rfl (Below.refl _ _) (by simp)
        · cases Option.some.inj ho
          have d6 : x 6 = .bool false := hdep ⟨6, .guard⟩ (by simp) rfl rfl
          simp only [frm, List.foldl_cons, List.foldl_nil, Act.put, List.setIfInBounds_toArray, List.set_cons_zero, List.set_cons_succ] at hK ⊢
          clear hdep ho
          rw [d6] at hK ⊢
          clear d6
          rw [if_pos (by rfl)]
          go_simp
          exact hK _ _ rfl (Below.refl _ _) (by simp)
        · cases Option.some.inj ho
          have d7 : x 7 = .pointer (some ⟨b, 0, none⟩) := hdep ⟨7, .data⟩ (by simp) rfl rfl
          have d6 : x 6 = .bool false := hdep ⟨6, .guard⟩ (by simp) rfl rfl
          simp only [frm, List.foldl_cons, List.foldl_nil, Act.put, List.setIfInBounds_toArray, List.set_cons_zero, List.set_cons_succ] at hK ⊢
          clear hdep ho
          rw [d7, d6] at hK ⊢
          clear d7 d6
          rw [if_pos (by rfl)]
          go_simp
          refine (grid_c b gb R C f W (HBD.out.below hbel)).mono ?_
          rw [← HN.out]
          rintro e w' ⟨g2, cap2, rfl, hn2⟩
          exact hK _ _ ⟨g2, cap2, rfl, hn2.row, hn2.room, hn2.cap⟩ hn2.bel (by simp)
        · cases Option.some.inj ho
          have d6 : x 6 = .bool false := hdep ⟨6, .guard⟩ (by simp) rfl rfl
          simp only [frm, List.foldl_cons, List.foldl_nil, Act.put, List.setIfInBounds_toArray, List.set_cons_zero, List.set_cons_succ] at hK ⊢
          clear hdep ho
          rw [d6] at hK ⊢
          clear d6
          rw [if_pos (by rfl)]
          exact wp_load_all 31 (.tmp 3) rfl _ rfl _ _ (HG.out.below hbel HG.out.lt) _ Try.underlying31 rfl sizeG (hK _ _ rfl (Below.refl _ _) (by simp))
        · cases Option.some.inj ho
          have h8 : ∃ g cap, (x 8) = .agg (gridV R C (some ⟨g, 0, none⟩) n cap).toArray ∧ RowAt W g 38 n f ∧ n ≤ cap ∧ cap ≤ maxLen := hdep ⟨8, .data⟩ (by simp) rfl rfl
          have d9 : x 9 = .agg (gridV R C (some ad) n k).toArray := hdep ⟨9, .data⟩ (by simp) rfl rfl
          have d6 : x 6 = .bool false := hdep ⟨6, .guard⟩ (by simp) rfl rfl
          simp only [frm, List.foldl_cons, List.foldl_nil, Act.put, List.setIfInBounds_toArray, List.set_cons_zero, List.set_cons_succ] at hK ⊢
          clear hdep ho
          rw [d9, d6] at hK ⊢
          clear d9 d6
          rw [if_pos (by rfl)]
          obtain ⟨g2, cap2, d8, hrow2, hc3, hc4⟩ := h8
          rw [d8] at hK ⊢
          clear d8
          go_simp
          refine (gsame_c R C (some ⟨g2, 0, none⟩) n cap2 (tab n f) R C (some ad) n k (tab n f) W (rowReads hrow2 hc3 hc4) (HRW.out.keep hbel)).mono ?_
          rw [sameG_self]
          rintro e w' ⟨rfl, hb⟩
          exact hK _ _ rfl hb (by simp)
        · cases Option.some.inj ho
          have d10 : x 10 = .bool true := hdep ⟨10, .data⟩ (by simp) rfl rfl
          have d6 : x 6 = .bool false := hdep ⟨6, .guard⟩ (by simp) rfl rfl
          simp only [frm, List.foldl_cons, List.foldl_nil, Act.put, List.setIfInBounds_toArray, List.set_cons_zero, List.set_cons_succ] at hK ⊢
          clear hdep ho
          rw [d10, d6] at hK ⊢
          clear d10 d6
          rw [if_pos (by rfl)]
          go_simp
          exact hK _ _ rfl (Below.refl _ _) (by simp)
        · cases Option.some.inj ho
          have d6 : x 6 = .bool false := hdep ⟨6, .data⟩ (by simp) rfl rfl
          have d11 : x 11 = .bool false := hdep ⟨11, .data⟩ (by simp) rfl rfl
          simp only [frm, List.foldl_cons, List.foldl_nil, Act.put, List.setIfInBounds_toArray, List.set_cons_zero, List.set_cons_succ] at hK ⊢
          clear hdep ho
          rw [d6, d11] at hK ⊢
          clear d6 d11
          rw [if_pos (by rfl)]
          go_simp
          exact hK _ _ rfl (Below.refl _ _) (by simp)
        · cases Option.some.inj ho
          have d12 : x 12 = .bool false := hdep ⟨12, .data⟩ (by simp) rfl rfl
          simp only [frm, List.foldl_cons, List.foldl_nil, Act.put, List.setIfInBounds_toArray, List.set_cons_zero, List.set_cons_succ] at hK ⊢
          clear hdep ho
          rw [d12] at hK ⊢
          clear d12
          rw [if_pos (by rfl)]
          go_simp
          exact hK _ _ rfl (Below.refl _ _) (by simp)
        · cases Option.some.inj ho
          have d13 : x 13 = .bool false := hdep ⟨13, .guard⟩ (by simp) rfl rfl
          simp only [frm, List.foldl_cons, List.foldl_nil, Act.put, List.setIfInBounds_toArray, List.set_cons_zero, List.set_cons_succ] at hK ⊢
          clear hdep ho
          rw [d13] at hK ⊢
          clear d13
          rw [if_pos (by rfl)]
          go_simp
          exact hK _ _ rfl (Below.refl _ _) (by simp)
        · cases Option.some.inj ho
          have d14 : x 14 = .pointer (some ⟨b, 0, none⟩) := hdep ⟨14, .data⟩ (by simp) rfl rfl
          have d13 : x 13 = .bool false := hdep ⟨13, .guard⟩ (by simp) rfl rfl
          simp only [frm, List.foldl_cons, List.foldl_nil, Act.put, List.setIfInBounds_toArray, List.set_cons_zero, List.set_cons_succ] at hK ⊢
          clear hdep ho
          rw [d14, d13] at hK ⊢
          clear d14 d13
          rw [if_pos (by rfl)]
          go_simp
          refine (rows_c b gb R C f W (HBD.out.below hbel)).mono ?_
          rintro e w' ⟨rfl, rfl⟩
          exact hK _ _ rfl (Below.refl _ _) (by simp)
        · cases Option.some.inj ho
          have d13 : x 13 = .bool false := hdep ⟨13, .guard⟩ (by simp) rfl rfl
          simp only [frm, List.foldl_cons, List.foldl_nil, Act.put, List.setIfInBounds_toArray, List.set_cons_zero, List.set_cons_succ] at hK ⊢
          clear hdep ho
          rw [d13] at hK ⊢
          clear d13
          rw [if_pos (by rfl)]
          go_simp
          exact hK _ _ rfl (Below.refl _ _) (by simp)
        · cases Option.some.inj ho
          have d16 : x 16 = .pointer (some ⟨w.heap.size, 0, none⟩) := hdep ⟨16, .data⟩ (by simp) rfl rfl
          have d13 : x 13 = .bool false := hdep ⟨13, .guard⟩ (by simp) rfl rfl
          simp only [frm, List.foldl_cons, List.foldl_nil, Act.put, List.setIfInBounds_toArray, List.set_cons_zero, List.set_cons_succ] at hK ⊢
          clear hdep ho
          rw [d16, d13] at hK ⊢
          clear d16 d13
          rw [if_pos (by rfl)]
          go_simp
          exact hK _ _ rfl (Below.refl _ _) (by simp)
        · cases Option.some.inj ho
          have d15 : x 15 = .int .i64 R := hdep ⟨15, .data⟩ (by simp) rfl rfl
          have d17 : x 17 = .int .i64 R := hdep ⟨17, .data⟩ (by simp) rfl rfl
          have d13 : x 13 = .bool false := hdep ⟨13, .guard⟩ (by simp) rfl rfl
          simp only [frm, List.foldl_cons, List.foldl_nil, Act.put, List.setIfInBounds_toArray, List.set_cons_zero, List.set_cons_succ] at hK ⊢
          clear hdep ho
          rw [d15, d17, d13] at hK ⊢
          clear d15 d17 d13
          rw [if_pos (by rfl)]
          go_simp
          exact hK _ _ rfl (Below.refl _ _) (by simp)
        · cases Option.some.inj ho
          have d13 : x 13 = .bool false := hdep ⟨13, .data⟩ (by simp) rfl rfl
          have d18 : x 18 = .bool false := hdep ⟨18, .data⟩ (by simp) rfl rfl
          simp only [frm, List.foldl_cons, List.foldl_nil, Act.put, List.setIfInBounds_toArray, List.set_cons_zero, List.set_cons_succ] at hK ⊢
          clear hdep ho
          rw [d13, d18] at hK ⊢
          clear d13 d18
          rw [if_pos (by rfl)]
          go_simp
          exact hK _ _ rfl (Below.refl _ _) (by simp)
        · cases Option.some.inj ho
          have d19 : x 19 = .bool false := hdep ⟨19, .data⟩ (by simp) rfl rfl
          simp only [frm, List.foldl_cons, List.foldl_nil, Act.put, List.setIfInBounds_toArray, List.set_cons_zero, List.set_cons_succ] at hK ⊢
          clear hdep ho
          rw [d19] at hK ⊢
          clear d19
          rw [if_pos (by rfl)]
          go_simp
          exact hK _ _ rfl (Below.refl _ _) (by simp)
        · cases Option.some.inj ho
          have d20 : x 20 = .bool false := hdep ⟨20, .guard⟩ (by simp) rfl rfl
          simp only [frm, List.foldl_cons, List.foldl_nil, Act.put, List.setIfInBounds_toArray, List.set_cons_zero, List.set_cons_succ] at hK ⊢
          clear hdep ho
          rw [d20] at hK ⊢
          clear d20
          rw [if_pos (by rfl)]
          go_simp
          exact hK _ _ rfl (Below.refl _ _) (by simp)
        · cases Option.some.inj ho
          have d21 : x 21 = .pointer (some ⟨b, 0, none⟩) := hdep ⟨21, .data⟩ (by simp) rfl rfl
          have d20 : x 20 = .bool false := hdep ⟨20, .guard⟩ (by simp) rfl rfl
          simp only [frm, List.foldl_cons, List.foldl_nil, Act.put, List.setIfInBounds_toArray, List.set_cons_zero, List.set_cons_succ] at hK ⊢
          clear hdep ho
          rw [d21, d20] at hK ⊢
          clear d21 d20
          rw [if_pos (by rfl)]
          go_simp
          refine (cols_c b gb R C f W (HBD.out.below hbel)).mono ?_
          rintro e w' ⟨rfl, rfl⟩
          exact hK _ _ rfl (Below.refl _ _) (by simp)
        · cases Option.some.inj ho
          have d20 : x 20 = .bool false := hdep ⟨20, .guard⟩ (by simp) rfl rfl
          simp only [frm, List.foldl_cons, List.foldl_nil, Act.put, List.setIfInBounds_toArray, List.set_cons_zero, List.set_cons_succ] at hK ⊢
          clear hdep ho
          rw [d20] at hK ⊢
          clear d20
          rw [if_pos (by rfl)]
          go_simp
          exact hK _ _ rfl (Below.refl _ _) (by simp)
        · cases Option.some.inj ho
          have d23 : x 23 = .pointer (some ⟨w.heap.size, 1, none⟩) := hdep ⟨23, .data⟩ (by simp) rfl rfl
          have d20 : x 20 = .bool false := hdep ⟨20, .guard⟩ (by simp) rfl rfl
          simp only [frm, List.foldl_cons, List.foldl_nil, Act.put, List.setIfInBounds_toArray, List.set_cons_zero, List.set_cons_succ] at hK ⊢
          clear hdep ho
          rw [d23, d20] at hK ⊢
          clear d23 d20
          rw [if_pos (by rfl)]
          go_simp
          exact hK _ _ rfl (Below.refl _ _) (by simp)
        · cases Option.some.inj ho
          have d22 : x 22 = .int .i64 C := hdep ⟨22, .data⟩ (by simp) rfl rfl
          have d24 : x 24 = .int .i64 C := hdep ⟨24, .data⟩ (by simp) rfl rfl
          have d20 : x 20 = .bool false := hdep ⟨20, .guard⟩ (by simp) rfl rfl
          simp only [frm, List.foldl_cons, List.foldl_nil, Act.put, List.setIfInBounds_toArray, List.set_cons_zero, List.set_cons_succ] at hK ⊢
          clear hdep ho
          rw [d22, d24, d20] at hK ⊢
          clear d22 d24 d20
          rw [if_pos (by rfl)]
          go_simp
          exact hK _ _ rfl (Below.refl _ _) (by simp)
        · cases Option.some.inj ho
          have d20 : x 20 = .bool false := hdep ⟨20, .data⟩ (by simp) rfl rfl
          have d25 : x 25 = .bool false := hdep ⟨25, .data⟩ (by simp) rfl rfl
          simp only [frm, List.foldl_cons, List.foldl_nil, Act.put, List.setIfInBounds_toArray, List.set_cons_zero, List.set_cons_succ] at hK ⊢
          clear hdep ho
          rw [d20, d25] at hK ⊢
          clear d20 d25
          rw [if_pos (by rfl)]
          go_simp
          exact hK _ _ rfl (Below.refl _ _) (by simp)
      case hend11 =>
        intro x W11 hbel hall _
        have d26 : x 26 = .bool false := hall (26, 77) (by simp)
        simp only [frm, List.foldl_cons, List.foldl_nil, Act.put, List.setIfInBounds_toArray, List.set_cons_zero, List.set_cons_succ]
        rw [d26]
        clear hall d26
        generalize x 0 = z0
        generalize x 1 = z1
        generalize x 2 = z2
        generalize x 3 = z3
        generalize x 4 = z4
        generalize x 5 = z5
        generalize x 6 = z6
        generalize x 7 = z7
        generalize x 8 = z8
        generalize x 9 = z9
        generalize x 10 = z10
        generalize x 11 = z11
        generalize x 12 = z12
        generalize x 13 = z13
        generalize x 14 = z14
        generalize x 15 = z15
        generalize x 16 = z16
        generalize x 17 = z17
        generalize x 18 = z18
        generalize x 19 = z19
        generalize x 20 = z20
        generalize x 21 = z21
        generalize x 22 = z22
        generalize x 23 = z23
        generalize x 24 = z24
        generalize x 25 = z25
        refine wpAny_done (by kernel_rfl) ?_ _
        have HBW6 := Lib.hid (HBW5.out.trans (hbel.mono HBW5.out.size))
        have HG6 := Lib.hid (HG5.out.below hbel HG5.out.lt)
        have HP6 := Lib.hid (HP5.out.below hbel HP5.out.lt)
        have HBD6 := Lib.hid (HBD5.out.below hbel)
        clear hbel HG HP HBD HRW HG5 HP5 HBD5 HBW5
        have p0 : W11.cell? ⟨w.heap.size + 1 + 1, 0, none⟩ = some (.int .i64 a0) := HP6.out.cell 0
        go_wp2_with fail
        refine (row_c b gb R C f a0 W11 HBD6.out).mono ?_
        rintro en w7 (⟨hh, rfl, rfl⟩ | ⟨q, rfl, hq, gr, capr, rfl, hn7⟩)
        · obtain ⟨c0, c1, c2'⟩ := boxG HG6.out
          have p1 : W11.cell? ⟨w.heap.size + 1 + 1, 1, none⟩ = some (.int .i64 a1) := HP6.out.cell 1
          have hno : ¬ (0 ≤ a0 ∧ a0 < R) := by
            intro h
            have := of_decide_eq_false hh
            omega
          have HX : Hid ((if hasB R C a0 a1 then f (a0.toNat * C + a1.toNat) else ((0, 0, 0, 0) : CellV)) = (0, 0, 0, 0)) := by
            show _ = _
            rw [if_neg]
            intro h
            have := of_decide_eq_true h
            omega
          have heq := fun W => run_eq_cell W (0, 0, 0, 0) (0, 0, 0, 0)
          simp only [cellV] at heq
          have HALL : Hid (∀ P : Prop, (a0 < 0 → P) → (decide (a0 < 0) = false → (R : Int) ≤ a0 → P) → P) := by
            intro P x y
            by_cases h : a0 < 0
            · exact x h
            · exact y (by simpa using h) (by omega)
          clear hh hno
          have hat := at_c b gb R C f a0 a1 W11 HBD6.out
          rw [HX.out] at hat
          simp only [cellV] at hat
          have HAT := Lib.hid hat
          clear hat
          refine HALL.out _ (fun h1 => ?_) (fun h0 h1 => ?_)
          all_goals
            go_wp2_with fail
            refine HAT.out.mono ?_
            rintro en w8 ⟨rfl, hb8⟩
            have HB8 := Lib.hid (HBW6.out.trans (hb8.mono HBW6.out.size))
            clear hb8 c0 c1 c2' p0 p1
            go_wp2
            go_ret
            exact ⟨rfl, HB8.out⟩
        · obtain ⟨Q, hQ⟩ : ∃ Q, Hid (q * C = Q) := ⟨_, Lib.hid rfl⟩
          have hle := row_le (C := C) hq
          rw [hQ.out, ← HN.out] at hle
          obtain ⟨E, hE⟩ : ∃ E, Hid (E = Q + C) := ⟨_, Lib.hid rfl⟩
          have hE1 : E = Q + C := hE.out
          have hbw : Below w.heap.size w w7.drew := (HBW6.out.trans (hn7.bel.mono HBW6.out.size)).drew
          have HBW := Lib.hid hbw
          have HG := Lib.hid ((HG6.out.below hn7.bel HG6.out.lt).drew)
          have HP : Hid (Blk w7.drew (w.heap.size + 1 + 1) 45 [.int .i64 q, .int .i64 a1]) := (HP6.out.below hn7.bel HP6.out.lt).drew
          have HBD : Hid (BAt w7.drew b gb R C f) := (HBD6.out.below hn7.bel).of_heap rfl
          have hrw := HR.out.keep hbw
          rw [HLT.out] at hrw
          have HRW := Lib.hid hrw
          have hroom := hrw.room
          have hcap := hrw.cap
          have HRs := Lib.hid (part_reads (Q := Q) (m := C) hrw (by omega))
          have hrr := rowReads (hn7.row.of_heap (w' := w7.drew) rfl) hn7.room hn7.cap
          rw [hQ.out] at hrr
          have HRr := Lib.hid hrr
          obtain ⟨X, hX⟩ : ∃ X, Hid ((if hasB R C q a1 then f ((q : Int).toNat * C + a1.toNat) else ((0, 0, 0, 0) : CellV)) = X) := ⟨_, rfl⟩
          have HXA := hX
          have HXB : Hid (atG R C f q a1 (0, 0, 0, 0) = X) := hX
          obtain ⟨c0, c1, c2'⟩ := boxG (HG6.out.below hn7.bel HG6.out.lt)
          replace p0 : w7.cell? ⟨w.heap.size + 1 + 1, 0, none⟩ = some (.int .i64 q) := (HP6.out.below hn7.bel HP6.out.lt).cell 0
          have g1 : (0 : Int) ≤ (q : Int) := by omega
          have g2 : decide ((q : Int) < 0) = false := by simp
          have g3 : decide ((R : Int) ≤ (q : Int)) = false := by rw [decide_eq_false_iff_not]; omega
          have g4 : decide (R ≤ q) = false := by rw [decide_eq_false_iff_not]; omega
          clear hbw hrw hrr hn7 HG6 HP6 HBD6
          go_upto_region 16 with (fail)
          clear g1 g2 g3 g4 c0 c1 c2' p0
          have m1 : IntKind.i64.wrap ((q : Int) * (C : Int)) = (Q : Int) := by rw [← Int.natCast_mul, hQ.out, IntKind.wrap_i64]; omega
          have m2 : IntKind.i64.wrap ((Q : Int) + (C : Int)) = (E : Int) := by rw [IntKind.wrap_i64]; omega
          have m3 : (Q : Int) ≤ (E : Int) := by omega
          unfold maxLen at hcap
          have m4 : (E : Int) ≤ (k : Int) := by omega
          have m5 : ¬ k = Q := by omega
          have m6 : E - Q = C := by omega
          have m7 : (Q : Int) + (C : Int) = (E : Int) := by omega
          have m8 : IntKind.i64.wrap (E : Int) = (E : Int) := by rw [IntKind.wrap_i64]; omega
          clear hE1
          refine wp_region_any (by kernel_rfl) ?_
          change wpAny _ _ _ _ _ _ _ (World.drew _)
          refine wpAny_relyG (g := 0) [(0, 105), (1, 106), (2, 107), (3, 108), (4, 109), (5, 110), (6, 111), (7, 112), (8, 113), (9, 114), (10, 115), (11, 116), (12, 117), (13, 118), (14, 119), (15, 120), (16, 121), (17, 122), (18, 123), (19, 124), (20, 125), (21, 126), (22, 127), (23, 128), (24, 129), (25, 130), (26, 131), (27, 132), (28, 133), (29, 134), (30, 135), (31, 136), (32, 137), (33, 138), (34, 6)] (condAt [fun v _ => v = .slice (some ⟨gr, 0, none⟩) C capr, fun v _ => v = .pointer (some ⟨w.heap.size, 2, none⟩), fun v _ => v = .slice (some ad) n k, fun v _ => v = .pointer (some ⟨w.heap.size + 1 + 1, 0, none⟩), fun v _ => v = .int .i64 q, fun v _ => v = .pointer (some ⟨w.heap.size, 1, none⟩), fun v _ => v = .int .i64 C, fun v _ => v = .int .i64 Q, fun v _ => v = .pointer (some ⟨w.heap.size + 1 + 1, 0, none⟩), fun v _ => v = .int .i64 q, fun v _ => v = .pointer (some ⟨w.heap.size, 1, none⟩), fun v _ => v = .int .i64 C, fun v _ => v = .int .i64 Q, fun v _ => v = .pointer (some ⟨w.heap.size, 1, none⟩), fun v _ => v = .int .i64 C, fun v _ => v = .int .i64 E, fun v _ => v = .slice (some (ad.add (Q * 4))) C (k - Q), fun v _ => v = .bool true, fun v _ => v = .bool true, fun v _ => v = .pointer (some ⟨b, 0, none⟩), fun v _ => v = .pointer (some ⟨w.heap.size + 1 + 1, 0, none⟩), fun v _ => v = .int .i64 q, fun v _ => v = .pointer (some ⟨w.heap.size + 1 + 1, 1, none⟩), fun v _ => v = .int .i64 a1, fun v _ => v = .agg #[.int .i32 X.1, .int .i64 X.2.1, .int .i64 X.2.2.1, .int .i64 X.2.2.2], fun v _ => v = .agg (gridV R C (some ad) n k).toArray, fun v _ => v = .pointer (some ⟨w.heap.size + 1 + 1, 0, none⟩), fun v _ => v = .int .i64 q, fun v _ => v = .pointer (some ⟨w.heap.size + 1 + 1, 1, none⟩), fun v _ => v = .int .i64 a1, fun v _ => v = .agg #[.int .i32 0, .int .i64 0, .int .i64 0, .int .i64 0], fun v _ => v = .agg #[.int .i32 X.1, .int .i64 X.2.1, .int .i64 X.2.2.1, .int .i64 X.2.2.2], fun v _ => v = .bool true, fun v _ => v = .bool true, fun v _ => v = .bool true]) [] (by kernel_rfl) rfl (condAt_keep (stable_cons (stable_eq _) (stable_cons (stable_eq _) (stable_cons (stable_eq _) (stable_cons (stable_eq _) (stable_cons (stable_eq _) (stable_cons (stable_eq _) (stable_cons (stable_eq _) (stable_cons (stable_eq _) (stable_cons (stable_eq _) (stable_cons (stable_eq _) (stable_cons (stable_eq _) (stable_cons (stable_eq _) (stable_cons (stable_eq _) (stable_cons (stable_eq _) (stable_cons (stable_eq _) (stable_cons (stable_eq _) (stable_cons (stable_eq _) (stable_cons (stable_eq _) (stable_cons (stable_eq _) (stable_cons (stable_eq _) (stable_cons (stable_eq _) (stable_cons (stable_eq _) (stable_cons (stable_eq _) (stable_cons (stable_eq _) (stable_cons (stable_eq _) (stable_cons (stable_eq _) (stable_cons (stable_eq _) (stable_cons (stable_eq _) (stable_cons (stable_eq _) (stable_cons (stable_eq _) (stable_cons (stable_eq _) (stable_cons (stable_eq _) (stable_cons (stable_eq _) (stable_cons (stable_eq _) (stable_cons (stable_eq _) stable_nil)))))))))))))))))))))))))))))))))))) ?hstep16 ?hend16
          case hstep16 =>
            intro p hp o ho x W hbel hdep K hK
            obtain ⟨c0, c1, c2⟩ := boxG (HG.out.below hbel HG.out.lt)
            have p0 : W.cell? ⟨w.heap.size + 1 + 1, 0, none⟩ = some (.int .i64 q) := (HP.out.below hbel HP.out.lt).cell 0
            have p1 : W.cell? ⟨w.heap.size + 1 + 1, 1, none⟩ = some (.int .i64 a1) := (HP.out.below hbel HP.out.lt).cell 1
            simp only [List.mem_cons, List.not_mem_nil, or_false] at hp
            rcases hp with rfl | rfl | rfl | rfl | rfl | rfl | rfl | rfl | rfl | rfl | rfl | rfl | rfl | rfl | rfl | rfl | rfl | rfl | rfl | rfl | rfl | rfl | rfl | rfl | rfl | rfl | rfl | rfl | rfl | rfl | rfl | rfl | rfl | rfl | rfl
            · cases Option.some.inj ho
              simp only [frm, List.foldl_cons, List.foldl_nil, Act.put, List.setIfInBounds_toArray, List.set_cons_zero, List.set_cons_succ] at hK ⊢
              clear hdep ho
              rw [if_pos (by rfl)]
              go_simp
              exact hK _ _ rfl (Below.refl _ _) (by simp)
            · cases Option.some.inj ho
              simp only [frm, List.foldl_cons, List.foldl_nil, Act.put, List.setIfInBounds_toArray, List.set_cons_zero, List.set_cons_succ] at hK ⊢
              clear hdep ho
              rw [if_pos (by rfl)]
              go_simp
              exact hK _ _ rfl (Below.refl _ _) (by simp)
            · cases Option.some.inj ho
              have d1 : x 1 = .pointer (some ⟨w.heap.size, 2, none⟩) := hdep ⟨1, .data⟩ (by simp) rfl rfl
              simp only [frm, List.foldl_cons, List.foldl_nil, Act.put, List.setIfInBounds_toArray, List.set_cons_zero, List.set_cons_succ] at hK ⊢
              clear hdep ho
              rw [d1] at hK ⊢
              clear d1
              rw [if_pos (by rfl)]
              go_simp
              exact hK _ _ rfl (Below.refl _ _) (by simp)
            · cases Option.some.inj ho
              simp only [frm, List.foldl_cons, List.foldl_nil, Act.put, List.setIfInBounds_toArray, List.set_cons_zero, List.set_cons_succ] at hK ⊢
              clear hdep ho
              rw [if_pos (by rfl)]
              go_simp
              exact hK _ _ rfl (Below.refl _ _) (by simp)
            · cases Option.some.inj ho
              have d3 : x 3 = .pointer (some ⟨w.heap.size + 1 + 1, 0, none⟩) := hdep ⟨3, .data⟩ (by simp) rfl rfl
              simp only [frm, List.foldl_cons, List.foldl_nil, Act.put, List.setIfInBounds_toArray, List.set_cons_zero, List.set_cons_succ] at hK ⊢
              clear hdep ho
              rw [d3] at hK ⊢
              clear d3
              rw [if_pos (by rfl)]
              go_simp
              exact hK _ _ rfl (Below.refl _ _) (by simp)
            · cases Option.some.inj ho
              simp only [frm, List.foldl_cons, List.foldl_nil, Act.put, List.setIfInBounds_toArray, List.set_cons_zero, List.set_cons_succ] at hK ⊢
              clear hdep ho
              rw [if_pos (by rfl)]
              go_simp
              exact hK _ _ rfl (Below.refl _ _) (by simp)
            · cases Option.some.inj ho
              have d5 : x 5 = .pointer (some ⟨w.heap.size, 1, none⟩) := hdep ⟨5, .data⟩ (by simp) rfl rfl
              simp only [frm, List.foldl_cons, List.foldl_nil, Act.put, List.setIfInBounds_toArray, List.set_cons_zero, List.set_cons_succ] at hK ⊢
              clear hdep ho
              rw [d5] at hK ⊢
              clear d5
              rw [if_pos (by rfl)]
              go_simp
              exact hK _ _ rfl (Below.refl _ _) (by simp)
            · cases Option.some.inj ho
              have d4 : x 4 = .int .i64 q := hdep ⟨4, .data⟩ (by simp) rfl rfl
              have d6 : x 6 = .int .i64 C := hdep ⟨6, .data⟩ (by simp) rfl rfl
              simp only [frm, List.foldl_cons, List.foldl_nil, Act.put, List.setIfInBounds_toArray, List.set_cons_zero, List.set_cons_succ] at hK ⊢
              clear hdep ho
              rw [d4, d6] at hK ⊢
              clear d4 d6
              rw [if_pos (by rfl)]
              go_simp
              exact hK _ _ rfl (Below.refl _ _) (by simp)
            · cases Option.some.inj ho
              simp only [frm, List.foldl_cons, List.foldl_nil, Act.put, List.setIfInBounds_toArray, List.set_cons_zero, List.set_cons_succ] at hK ⊢
              clear hdep ho
              rw [if_pos (by rfl)]
              go_simp
              exact hK _ _ rfl (Below.refl _ _) (by simp)
            · cases Option.some.inj ho
              have d8 : x 8 = .pointer (some ⟨w.heap.size + 1 + 1, 0, none⟩) := hdep ⟨8, .data⟩ (by simp) rfl rfl
              simp only [frm, List.foldl_cons, List.foldl_nil, Act.put, List.setIfInBounds_toArray, List.set_cons_zero, List.set_cons_succ] at hK ⊢
              clear hdep ho
              rw [d8] at hK ⊢
              clear d8
              rw [if_pos (by rfl)]
              go_simp
              exact hK _ _ rfl (Below.refl _ _) (by simp)
            · cases Option.some.inj ho
              simp only [frm, List.foldl_cons, List.foldl_nil, Act.put, List.setIfInBounds_toArray, List.set_cons_zero, List.set_cons_succ] at hK ⊢
              clear hdep ho
              rw [if_pos (by rfl)]
              go_simp
              exact hK _ _ rfl (Below.refl _ _) (by simp)
            · cases Option.some.inj ho
              have d10 : x 10 = .pointer (some ⟨w.heap.size, 1, none⟩) := hdep ⟨10, .data⟩ (by simp) rfl rfl
              simp only [frm, List.foldl_cons, List.foldl_nil, Act.put, List.setIfInBounds_toArray, List.set_cons_zero, List.set_cons_succ] at hK ⊢
              clear hdep ho
              rw [d10] at hK ⊢
              clear d10
              rw [if_pos (by rfl)]
              go_simp
              exact hK _ _ rfl (Below.refl _ _) (by simp)
            · cases Option.some.inj ho
              have d9 : x 9 = .int .i64 q := hdep ⟨9, .data⟩ (by simp) rfl rfl
              have d11 : x 11 = .int .i64 C := hdep ⟨11, .data⟩ (by simp) rfl rfl
              simp only [frm, List.foldl_cons, List.foldl_nil, Act.put, List.setIfInBounds_toArray, List.set_cons_zero, List.set_cons_succ] at hK ⊢
              clear hdep ho
              rw [d9, d11] at hK ⊢
              clear d9 d11
              rw [if_pos (by rfl)]
              go_simp
              exact hK _ _ rfl (Below.refl _ _) (by simp)
            · cases Option.some.inj ho
              simp only [frm, List.foldl_cons, List.foldl_nil, Act.put, List.setIfInBounds_toArray, List.set_cons_zero, List.set_cons_succ] at hK ⊢
              clear hdep ho
              rw [if_pos (by rfl)]
              go_simp
              exact hK _ _ rfl (Below.refl _ _) (by simp)
            · cases Option.some.inj ho
              have d13 : x 13 = .pointer (some ⟨w.heap.size, 1, none⟩) := hdep ⟨13, .data⟩ (by simp) rfl rfl
              simp only [frm, List.foldl_cons, List.foldl_nil, Act.put, List.setIfInBounds_toArray, List.set_cons_zero, List.set_cons_succ] at hK ⊢
              clear hdep ho
              rw [d13] at hK ⊢
              clear d13
              rw [if_pos (by rfl)]
              go_simp
              exact hK _ _ rfl (Below.refl _ _) (by simp)
            · cases Option.some.inj ho
              have d12 : x 12 = .int .i64 Q := hdep ⟨12, .data⟩ (by simp) rfl rfl
              have d14 : x 14 = .int .i64 C := hdep ⟨14, .data⟩ (by simp) rfl rfl
              simp only [frm, List.foldl_cons, List.foldl_nil, Act.put, List.setIfInBounds_toArray, List.set_cons_zero, List.set_cons_succ] at hK ⊢
              clear hdep ho
              rw [d12, d14] at hK ⊢
              clear d12 d14
              rw [if_pos (by rfl)]
              go_simp
              exact hK _ _ rfl (Below.refl _ _) (by simp)
            · cases Option.some.inj ho
              have d2 : x 2 = .slice (some ad) n k := hdep ⟨2, .data⟩ (by simp) rfl rfl
              have d7 : x 7 = .int .i64 Q := hdep ⟨7, .data⟩ (by simp) rfl rfl
              have d15 : x 15 = .int .i64 E := hdep ⟨15, .data⟩ (by simp) rfl rfl
              simp only [frm, List.foldl_cons, List.foldl_nil, Act.put, List.setIfInBounds_toArray, List.set_cons_zero, List.set_cons_succ] at hK ⊢
              clear hdep ho
              rw [d2, d7, d15] at hK ⊢
              clear d2 d7 d15
              rw [if_pos (by rfl)]
              go_simp
              exact hK _ _ rfl (Below.refl _ _) (by simp)
            · cases Option.some.inj ho
              have d0 : x 0 = .slice (some ⟨gr, 0, none⟩) C capr := hdep ⟨0, .data⟩ (by simp) rfl rfl
              have d16 : x 16 = .slice (some (ad.add (Q * 4))) C (k - Q) := hdep ⟨16, .data⟩ (by simp) rfl rfl
              simp only [frm, List.foldl_cons, List.foldl_nil, Act.put, List.setIfInBounds_toArray, List.set_cons_zero, List.set_cons_succ] at hK ⊢
              clear hdep ho
              rw [d0, d16] at hK ⊢
              clear d0 d16
              rw [if_pos (by rfl)]
              go_simp
              refine (sameC_c (some ⟨gr, 0, none⟩) (some (ad.add (Q * 4))) C capr C (k - Q) _ _ W (HRr.out.keep hbel) (HRs.out.keep hbel)).mono ?_
              rintro e w' ⟨rfl, kk, rfl⟩
              exact hK _ _ (congrArg Value.bool (decide_eq_true rfl)) (belowDrewN (Below.refl _ _) _) (by simp)
            · cases Option.some.inj ho
              have d17 : x 17 = .bool true := hdep ⟨17, .data⟩ (by simp) rfl rfl
              simp only [frm, List.foldl_cons, List.foldl_nil, Act.put, List.setIfInBounds_toArray, List.set_cons_zero, List.set_cons_succ] at hK ⊢
              clear hdep ho
              rw [d17] at hK ⊢
              clear d17
              rw [if_pos (by rfl)]
              go_simp
              exact hK _ _ rfl (Below.refl _ _) (by simp)
            · cases Option.some.inj ho
              have d18 : x 18 = .bool true := hdep ⟨18, .guard⟩ (by simp) rfl rfl
              simp only [frm, List.foldl_cons, List.foldl_nil, Act.put, List.setIfInBounds_toArray, List.set_cons_zero, List.set_cons_succ] at hK ⊢
              clear hdep ho
              rw [d18] at hK ⊢
              clear d18
              rw [if_pos (by rfl)]
              go_simp
              exact hK _ _ rfl (Below.refl _ _) (by simp)
            · cases Option.some.inj ho
              have d18 : x 18 = .bool true := hdep ⟨18, .guard⟩ (by simp) rfl rfl
              simp only [frm, List.foldl_cons, List.foldl_nil, Act.put, List.setIfInBounds_toArray, List.set_cons_zero, List.set_cons_succ] at hK ⊢
              clear hdep ho
              rw [d18] at hK ⊢
              clear d18
              rw [if_pos (by rfl)]
              go_simp
              exact hK _ _ rfl (Below.refl _ _) (by simp)
            · cases Option.some.inj ho
              have d20 : x 20 = .pointer (some ⟨w.heap.size + 1 + 1, 0, none⟩) := hdep ⟨20, .data⟩ (by simp) rfl rfl
              have d18 : x 18 = .bool true := hdep ⟨18, .guard⟩ (by simp) rfl rfl
              simp only [frm, List.foldl_cons, List.foldl_nil, Act.put, List.setIfInBounds_toArray, List.set_cons_zero, List.set_cons_succ] at hK ⊢
              clear hdep ho
              rw [d20, d18] at hK ⊢
              clear d20 d18
              rw [if_pos (by rfl)]
              go_simp
              exact hK _ _ rfl (Below.refl _ _) (by simp)
            · cases Option.some.inj ho
              have d18 : x 18 = .bool true := hdep ⟨18, .guard⟩ (by simp) rfl rfl
              simp only [frm, List.foldl_cons, List.foldl_nil, Act.put, List.setIfInBounds_toArray, List.set_cons_zero, List.set_cons_succ] at hK ⊢
              clear hdep ho
              rw [d18] at hK ⊢
              clear d18
              rw [if_pos (by rfl)]
              go_simp
              exact hK _ _ rfl (Below.refl _ _) (by simp)
            · cases Option.some.inj ho
              have d22 : x 22 = .pointer (some ⟨w.heap.size + 1 + 1, 1, none⟩) := hdep ⟨22, .data⟩ (by simp) rfl rfl
              have d18 : x 18 = .bool true := hdep ⟨18, .guard⟩ (by simp) rfl rfl
              simp only [frm, List.foldl_cons, List.foldl_nil, Act.put, List.setIfInBounds_toArray, List.set_cons_zero, List.set_cons_succ] at hK ⊢
              clear hdep ho
              rw [d22, d18] at hK ⊢
              clear d22 d18
              rw [if_pos (by rfl)]
              go_simp
              exact hK _ _ rfl (Below.refl _ _) (by simp)
            · cases Option.some.inj ho
              have d19 : x 19 = .pointer (some ⟨b, 0, none⟩) := hdep ⟨19, .data⟩ (by simp) rfl rfl
              have d21 : x 21 = .int .i64 q := hdep ⟨21, .data⟩ (by simp) rfl rfl
              have d23 : x 23 = .int .i64 a1 := hdep ⟨23, .data⟩ (by simp) rfl rfl
              have d18 : x 18 = .bool true := hdep ⟨18, .guard⟩ (by simp) rfl rfl
              simp only [frm, List.foldl_cons, List.foldl_nil, Act.put, List.setIfInBounds_toArray, List.set_cons_zero, List.set_cons_succ] at hK ⊢
              clear hdep ho
              rw [d19, d21, d23, d18] at hK ⊢
              clear d19 d21 d23 d18
              rw [if_pos (by rfl)]
              go_simp
              refine (at_c b gb R C f q a1 W (HBD.out.below hbel)).mono ?_
              rw [HXA.out]
              rintro e w' ⟨rfl, hb⟩
              exact hK _ _ rfl hb (by simp)
            · cases Option.some.inj ho
              have d18 : x 18 = .bool true := hdep ⟨18, .guard⟩ (by simp) rfl rfl
              simp only [frm, List.foldl_cons, List.foldl_nil, Act.put, List.setIfInBounds_toArray, List.set_cons_zero, List.set_cons_succ] at hK ⊢
              clear hdep ho
              rw [d18] at hK ⊢
              clear d18
              rw [if_pos (by rfl)]
              exact wp_load_all 31 (.tmp 3) rfl _ rfl _ _ (HG.out.below hbel HG.out.lt) _ Try.underlying31 rfl sizeG (hK _ _ rfl (Below.refl _ _) (by simp))
            · cases Option.some.inj ho
              have d18 : x 18 = .bool true := hdep ⟨18, .guard⟩ (by simp) rfl rfl
              simp only [frm, List.foldl_cons, List.foldl_nil, Act.put, List.setIfInBounds_toArray, List.set_cons_zero, List.set_cons_succ] at hK ⊢
              clear hdep ho
              rw [d18] at hK ⊢
              clear d18
              rw [if_pos (by rfl)]
              go_simp
              exact hK _ _ rfl (Below.refl _ _) (by simp)
            · cases Option.some.inj ho
              have d26 : x 26 = .pointer (some ⟨w.heap.size + 1 + 1, 0, none⟩) := hdep ⟨26, .data⟩ (by simp) rfl rfl
              have d18 : x 18 = .bool true := hdep ⟨18, .guard⟩ (by simp) rfl rfl
              simp only [frm, List.foldl_cons, List.foldl_nil, Act.put, List.setIfInBounds_toArray, List.set_cons_zero, List.set_cons_succ] at hK ⊢
              clear hdep ho
              rw [d26, d18] at hK ⊢
              clear d26 d18
              rw [if_pos (by rfl)]
              go_simp
              exact hK _ _ rfl (Below.refl _ _) (by simp)
            · cases Option.some.inj ho
              have d18 : x 18 = .bool true := hdep ⟨18, .guard⟩ (by simp) rfl rfl
              simp only [frm, List.foldl_cons, List.foldl_nil, Act.put, List.setIfInBounds_toArray, List.set_cons_zero, List.set_cons_succ] at hK ⊢
              clear hdep ho
              rw [d18] at hK ⊢
              clear d18
              rw [if_pos (by rfl)]
              go_simp
              exact hK _ _ rfl (Below.refl _ _) (by simp)
            · cases Option.some.inj ho
              have d28 : x 28 = .pointer (some ⟨w.heap.size + 1 + 1, 1, none⟩) := hdep ⟨28, .data⟩ (by simp) rfl rfl
              have d18 : x 18 = .bool true := hdep ⟨18, .guard⟩ (by simp) rfl rfl
              simp only [frm, List.foldl_cons, List.foldl_nil, Act.put, List.setIfInBounds_toArray, List.set_cons_zero, List.set_cons_succ] at hK ⊢
              clear hdep ho
              rw [d28, d18] at hK ⊢
              clear d28 d18
              rw [if_pos (by rfl)]
              go_simp
              exact hK _ _ rfl (Below.refl _ _) (by simp)
            · cases Option.some.inj ho
              have d18 : x 18 = .bool true := hdep ⟨18, .guard⟩ (by simp) rfl rfl
              simp only [frm, List.foldl_cons, List.foldl_nil, Act.put, List.setIfInBounds_toArray, List.set_cons_zero, List.set_cons_succ] at hK ⊢
              clear hdep ho
              rw [d18] at hK ⊢
              clear d18
              rw [if_pos (by rfl)]
              go_simp
              exact hK _ _ rfl (Below.refl _ _) (by simp)
            · cases Option.some.inj ho
              have d25 : x 25 = .agg (gridV R C (some ad) n k).toArray := hdep ⟨25, .data⟩ (by simp) rfl rfl
              have d27 : x 27 = .int .i64 q := hdep ⟨27, .data⟩ (by simp) rfl rfl
              have d29 : x 29 = .int .i64 a1 := hdep ⟨29, .data⟩ (by simp) rfl rfl
              have d30 : x 30 = .agg #[.int .i32 0, .int .i64 0, .int .i64 0, .int .i64 0] := hdep ⟨30, .data⟩ (by simp) rfl rfl
              have d18 : x 18 = .bool true := hdep ⟨18, .guard⟩ (by simp) rfl rfl
              simp only [frm, List.foldl_cons, List.foldl_nil, Act.put, List.setIfInBounds_toArray, List.set_cons_zero, List.set_cons_succ] at hK ⊢
              clear hdep ho
              rw [d25, d27, d29, d30, d18] at hK ⊢
              clear d25 d27 d29 d30 d18
              rw [if_pos (by rfl)]
              go_simp
              refine (refAt_c R C (some ad) n k f q a1 (0, 0, 0, 0) W (HRW.out.keep hbel) HN.out HRC.out.1 HRC.out.2).mono ?_
              rw [HXB.out]
              rintro e w' ⟨rfl, hb⟩
              exact hK _ _ rfl hb (by simp)
            · cases Option.some.inj ho
              have d24 : x 24 = .agg #[.int .i32 X.1, .int .i64 X.2.1, .int .i64 X.2.2.1, .int .i64 X.2.2.2] := hdep ⟨24, .data⟩ (by simp) rfl rfl
              have d31 : x 31 = .agg #[.int .i32 X.1, .int .i64 X.2.1, .int .i64 X.2.2.1, .int .i64 X.2.2.2] := hdep ⟨31, .data⟩ (by simp) rfl rfl
              have d18 : x 18 = .bool true := hdep ⟨18, .guard⟩ (by simp) rfl rfl
              simp only [frm, List.foldl_cons, List.foldl_nil, Act.put, List.setIfInBounds_toArray, List.set_cons_zero, List.set_cons_succ] at hK ⊢
              clear hdep ho
              rw [d24, d31, d18] at hK ⊢
              clear d24 d31 d18
              rw [if_pos (by rfl)]
              have heq := fun W => run_eq_cell W X X
              simp only [cellV] at heq
              go_simp
              exact hK _ _ rfl (Below.refl _ _) (by simp)
            · cases Option.some.inj ho
              have d18 : x 18 = .bool true := hdep ⟨18, .data⟩ (by simp) rfl rfl
              have d32 : x 32 = .bool true := hdep ⟨32, .data⟩ (by simp) rfl rfl
              simp only [frm, List.foldl_cons, List.foldl_nil, Act.put, List.setIfInBounds_toArray, List.set_cons_zero, List.set_cons_succ] at hK ⊢
              clear hdep ho
              rw [d18, d32] at hK ⊢
              clear d18 d32
              rw [if_pos (by rfl)]
              go_simp
              exact hK _ _ rfl (Below.refl _ _) (by simp)
            · cases Option.some.inj ho
              have d33 : x 33 = .bool true := hdep ⟨33, .data⟩ (by simp) rfl rfl
              simp only [frm, List.foldl_cons, List.foldl_nil, Act.put, List.setIfInBounds_toArray, List.set_cons_zero, List.set_cons_succ] at hK ⊢
              clear hdep ho
              rw [d33] at hK ⊢
              clear d33
              rw [if_pos (by rfl)]
              go_simp
              exact hK _ _ rfl (Below.refl _ _) (by simp)
          case hend16 =>
            intro x W16 hbel hall _
            have d34 : x 34 = .bool true := hall (34, 6) (by simp)
            simp only [frm, List.foldl_cons, List.foldl_nil, Act.put, List.setIfInBounds_toArray, List.set_cons_zero, List.set_cons_succ]
            rw [d34]
            clear hall d34
            generalize x 0 = z0
            generalize x 1 = z1
            generalize x 2 = z2
            generalize x 3 = z3
            generalize x 4 = z4
            generalize x 5 = z5
            generalize x 6 = z6
            generalize x 7 = z7
            generalize x 8 = z8
            generalize x 9 = z9
            generalize x 10 = z10
            generalize x 11 = z11
            generalize x 12 = z12
            generalize x 13 = z13
            generalize x 14 = z14
            generalize x 15 = z15
            generalize x 16 = z16
            generalize x 17 = z17
            generalize x 18 = z18
            generalize x 19 = z19
            generalize x 20 = z20
            generalize x 21 = z21
            generalize x 22 = z22
            generalize x 23 = z23
            generalize x 24 = z24
            generalize x 25 = z25
            generalize x 26 = z26
            generalize x 27 = z27
            generalize x 28 = z28
            generalize x 29 = z29
            generalize x 30 = z30
            generalize x 31 = z31
            generalize x 32 = z32
            generalize x 33 = z33
            refine wpAny_done (by kernel_rfl) ?_ _
            have HF3 := Lib.hid (HBW.out.trans (hbel.mono HBW.out.size))
            clear hbel
            go_wp2
            go_ret
            exact ⟨rfl, HF3.out⟩
end Go.Proofs.Ytgmfmhlboehdoaa.gridTells
