/- What the document's board is behind an operation (moved of the statements of layer 10), as a walk through the translated text. Conditions: grids of at most 60 rows and 132 columns, slices read as lists of cells. -/
import Derived.Test.YtgmfmhlboehdoaaGridEq
import Derived.Test.YtgmfmhlboehdoaaGridR8
import Derived.Test.YtgmfmhlboehdoaaOpen6
import Derived.Deep.CutRange
namespace Go.Proofs.Ytgmfmhlboehdoaa
open Go.ChangeShapes Go.WideShapes Go.RowKit
/-- The cells of an operation's block, as walks spell them. -/
theorem boxO {w : World} {z : Nat} {t : TypeId} {o : OpV} (h : Blk w z t (opV o)) :
    w.cell? ⟨z, 0, none⟩ = some (.int .i64 o.1) ∧ w.cell? ⟨z, 1, none⟩ = some (.int .i64 o.2.1) ∧ w.cell? ⟨z, 2, none⟩ = some (.int .i64 o.2.2.1) ∧ w.cell? ⟨z, 3, none⟩ = some (.int .i64 o.2.2.2.1) ∧
    w.cell? ⟨z, 4, none⟩ = some (.int .i32 o.2.2.2.2.1) ∧ w.cell? ⟨z, 5, none⟩ = some (.int .i64 o.2.2.2.2.2.1) ∧ w.cell? ⟨z, 6, none⟩ = some (.int .i64 o.2.2.2.2.2.2.1) ∧ w.cell? ⟨z, 7, none⟩ = some (.int .i64 o.2.2.2.2.2.2.2) :=
  ⟨h.cell 0, h.cell 1, h.cell 2, h.cell 3, h.cell 4, h.cell 5, h.cell 6, h.cell 7⟩
def MovedPost (w : World) (R C : Nat) (A : Option Addr) (n : Nat) (F : Nat → CellV) (en : Ending) (w' : World) : Prop :=
  ∃ A' k', en = .returned (.agg (gridV R C A' n k').toArray) ∧ ReadsS cellV 4 w' A' n k' (tab n F) ∧ Below w.heap.size w w' ∧ (A' = A ∨ ∀ ad, A' = some ad → w.heap.size ≤ ad.block)
/-- The document's cells behind an operation of kind 1 to 5. -/
def movedF (R C : Nat) (f : Nat → CellV) (K a b m : Int) (y : CellV) : Nat → CellV :=
  if K = 1 then filledF C f a b m y
  else if K = 2 ∧ (spansB R a b && decide (1 ≤ m)) = true then rollF R C f a b (min m 200) y
  else if K = 3 ∧ (spansB R a b && decide (1 ≤ m)) = true then rollF R C f a b (0 - min m 200) y
  else if K = 4 ∧ (hasB R C a b && decide (1 ≤ m)) = true then slideF R C f a b (0 - min m 200) y
  else if K = 5 ∧ (hasB R C a b && decide (1 ≤ m)) = true then slideF R C f a b (min m 200) y
  else f
set_option maxRecDepth 100000 in
set_option maxHeartbeats 6400000 in
theorem moved_c (R C : Nat) (A : Option Addr) (n k : Nat) (f : Nat → CellV) (K a b m : Int) (y : CellV) (w : World) (hr : ReadsS cellV 4 w A n k (tab n f)) (hn : n = R * C) (hR : R ≤ 60) (hC : C ≤ 132) (hC1 : 1 ≤ C) (hm64 : fit64 m) :
    Calls Try.prog 38 #[.agg (gridV R C A n k).toArray, .agg (opV (K, a, b, m, y)).toArray] w (MovedPost w R C A n (movedF R C f K a b m y)) := by
  have HR := Lib.hid hr
  have HN := Lib.hid hn
  obtain ⟨M, hM⟩ : ∃ M, Hid (min m 200 = M) := ⟨_, rfl⟩
  obtain ⟨D, hD⟩ : ∃ D, Hid (0 - min m 200 = D) := ⟨_, rfl⟩
  obtain ⟨F, hF⟩ : ∃ F, Hid (movedF R C f K a b m y = F) := ⟨_, rfl⟩
  rw [hF.out]
  have hFE : Hid (F = movedF R C f K a b m y) := Lib.hid hF.out.symm
  obtain ⟨hm1, hm2⟩ := hm64
  clear hr hn hF
  simp only [gridV_list, opV, cellV]
  go_enter Try.func38, Try.ntmps38
  go_upto_region 1 with (fail)
  refine name_wp (fun w1 => Blk w1 w.heap.size 31 (gridV R C A n k) ∧ Blk w1 (w.heap.size + 1) 40 (opV (K, a, b, m, y)) ∧ Blk w1 (w.heap.size + 1 + 1) 31 (gridV 0 0 none 0 0) ∧ Below w.heap.size w w1) ⟨((Blk.new _ _ _).alloc _).alloc _, (newAt _ (opV (K, a, b, m, y)) (by simp)).alloc _, newAt _ _ (by simp), ((alloc_below' _ _).alloc (by simp) _).alloc (by simp; omega) _⟩ ?_
  rintro w1 ⟨hb1, hb2, hb3, hbel1⟩
  have HBel1 := Lib.hid hbel1
  have HG1 := Lib.hid hb1
  have HO1 := Lib.hid hb2
  have HZ1 := Lib.hid hb3
  obtain ⟨c0, c1, c2⟩ := boxG hb1
  obtain ⟨o0, o1, o2, o3, o4, o5, o6, o7⟩ := boxO hb2
  clear hb1 hb2 hb3 hbel1
  obtain ⟨Bs, hBs⟩ : ∃ Bs, Hid ((spansB R a b && decide (1 ≤ m)) = Bs) := ⟨_, rfl⟩
  obtain ⟨Bt, hBt⟩ : ∃ Bt, Hid ((hasB R C a b && decide (1 ≤ m)) = Bt) := ⟨_, rfl⟩
  go_cut [5] from 7 to 28 (fun s5 wx => s5 = .bool Bs ∧ w1 = wx)
  case first =>
    have hS : Hid (Bs = decide ((0 ≤ a ∧ b < R ∧ a ≤ b) ∧ 1 ≤ m)) := by show _ = _; rw [← hBs.out, spansB]; simp
    by_cases h1 : 0 ≤ a
    · by_cases h2 : b < R
      · by_cases h3 : a ≤ b
        · by_cases h4 : 0 < m
          · go_wp2
            go_meet
            exact ⟨congrArg Value.bool (by rw [hS.out]; symm; rw [decide_eq_true_eq]; omega), rfl⟩
          · have g4 : decide (0 < m) = false := by simpa using h4
            go_wp2
            go_meet
            exact ⟨congrArg Value.bool (by rw [hS.out]; symm; rw [decide_eq_false_iff_not]; omega), rfl⟩
        · have g3 : decide (a ≤ b) = false := by simpa using h3
          go_wp2
          go_meet
          exact ⟨congrArg Value.bool (by rw [hS.out]; symm; rw [decide_eq_false_iff_not]; omega), rfl⟩
      · have g2 : decide (b < (R : Int)) = false := by simpa using h2
        go_wp2
        go_meet
        exact ⟨congrArg Value.bool (by rw [hS.out]; symm; rw [decide_eq_false_iff_not]; omega), rfl⟩
    · have g1 : decide (0 ≤ a) = false := by simpa using h1
      go_wp2
      go_meet
      exact ⟨congrArg Value.bool (by rw [hS.out]; symm; rw [decide_eq_false_iff_not]; omega), rfl⟩
  case rest =>
    obtain ⟨rfl, rfl⟩ := hcut
    go_upto_region 2 with (fail)
    go_cut [6] from 29 to 39 (fun s6 wx => s6 = .bool Bt ∧ Hid (Blk wx w.heap.size 31 (gridV R C A n k) ∧ Blk wx (w.heap.size + 1) 40 (opV (K, a, b, m, y)) ∧ Blk wx (w.heap.size + 1 + 1) 31 (gridV 0 0 none 0 0) ∧ Below w.heap.size w wx))
    case first =>
      go_wp2_with fail
      refine (there_c R C A n k a b w1).mono ?_
      obtain ⟨Bh, hBh⟩ : ∃ Bh, Hid (hasB R C a b = Bh) := ⟨_, rfl⟩
      rw [hBh.out]
      have hT : Hid (Bt = (Bh && decide (1 ≤ m))) := by show _ = _; rw [← hBt.out, hBh.out]
      rintro en w2 ⟨rfl, hb2⟩
      have HALL : Hid (Blk w2 w.heap.size 31 (gridV R C A n k) ∧ Blk w2 (w.heap.size + 1) 40 (opV (K, a, b, m, y)) ∧ Blk w2 (w.heap.size + 1 + 1) 31 (gridV 0 0 none 0 0) ∧ Below w.heap.size w w2) := Lib.hid ⟨HG1.out.below hb2 HG1.out.lt, HO1.out.below hb2 HO1.out.lt, HZ1.out.below hb2 HZ1.out.lt, HBel1.out.trans (hb2.mono HBel1.out.size)⟩
      clear c0 c1 c2 o0 o1 o2 o3 o4 o5 o6 o7 hb2
      obtain ⟨_, _, _, o3, _⟩ := boxO HALL.out.2.1
      cases Bh with
      | true =>
        by_cases h4 : 0 < m
        · go_wp2
          go_meet
          exact ⟨congrArg Value.bool (by rw [hT.out]; simp; omega), HALL⟩
        · have g4 : decide (0 < m) = false := by simpa using h4
          go_wp2
          go_meet
          exact ⟨congrArg Value.bool (by rw [hT.out]; simp; omega), HALL⟩
      | false =>
        go_wp2
        go_meet
        exact ⟨congrArg Value.bool (by rw [hT.out]; simp), HALL⟩
    case rest =>
      obtain ⟨rfl, hW⟩ := hcut
      obtain ⟨hg, ho, hz, hb⟩ := hW.out
      have HG := Lib.hid hg
      have HO := Lib.hid ho
      have HZ := Lib.hid hz
      have HBel := Lib.hid hb
      have hzl := hz.lt
      clear c0 c1 c2 o0 o1 o2 o3 o4 o5 o6 o7 hg ho hz hb hW HG1 HO1 HZ1 HBel1
      obtain ⟨c0, c1, c2⟩ := boxG HG.out
      obtain ⟨o0, o1, o2, o3, o4, o5, o6, o7⟩ := boxO HO.out
      have hM1 : -9223372036854775808 ≤ M ∧ M ≤ 200 := by have := hM.out; omega
      have hDM : Hid (D = 0 - M) := by show _ = _; rw [← hD.out, hM.out]
      obtain ⟨hM1, hM2⟩ := hM1
      by_cases h1 : K = 1
      · subst h1
        have k1 : ((1 : Int) == 1) = true := rfl
        have hF1 : F = filledF C f a b m y := by rw [hFE.out, movedF, if_pos rfl]
        subst hF1
        go_wp2_with fail
        refine (refFill_c R C A n k f a b m y wc (HR.out.keep HBel.out) HN.out hR hC hC1).mono ?_
        rintro en w7 ⟨A', k', rfl, h7⟩
        have HR7 := Lib.hid h7.read
        have HN7 := Lib.hid h7.new
        have HB7 := Lib.hid (HBel.out.trans (h7.bel.mono HBel.out.size))
        have HS := Lib.hid (HZ.out.below h7.bel HZ.out.lt)
        clear h7 c0 c1 c2 o0 o1 o2 o3 o4 o5 o6 o7
        go_wp2_with ((with_reducible refine at_store 31 ?_); refine wpList_store_at rfl rfl 31 (.tmp 4) (.tmp 53) rfl (w.heap.size + 1 + 1) 0 rfl _ rfl _ _ HS.out (Nat.le_refl 3) (one_gridV _ _ _ _ _) sizeG ?_; intro w8 hb8 hg8; rw [splice_all _ _ (by rfl)] at hb8; have HB8 := Lib.hid hb8; have HG8 := Lib.hid hg8; clear hb8 hg8)
        refine bodyPost_ret (v := .agg (gridV R C A' n k').toArray) ?_ rfl ?_
        · exact results_cell_row rfl _ _ (w.heap.size + 1 + 1) _ _ _ _ rfl HB8.out Try.underlying31 rfl (by kernel_rfl)
        · have k8 : Chg (fun i => i = w.heap.size + 1 + 1) w7 w8 := Chg.of_only HG8.out (fun i hi => (Option.some.inj hi).symm)
          exact ⟨A', k', rfl, HR7.out.only HG8.out (fun _ ad e => by have := HN7.out ad e; omega), k8.below HB7.out (by have := HB7.out.size; omega) (fun i hi => by omega), .inr (fun ad e => by have := HN7.out ad e; omega)⟩
      have k1 : (K == 1) = false := by simpa using h1
      by_cases h2 : K = 2
      · have k2 : (K == 2) = true := by simpa using h2
        cases hb : Bs with
        | true =>
          have hF1 : F = rollF R C f a b M y := by rw [hFE.out, movedF, if_neg (by omega), if_pos ⟨h2, by rw [hBs.out, hb]⟩, hM.out]
          subst hF1 hb
          have KK := Lib.hid h2
          clear h1 h2
          have dpos : 1 ≤ m := by have h := hBs.out; simp only [Bool.and_eq_true, decide_eq_true_eq] at h; exact h.2
          have e1 : min m 200 = M := hM.out
          have hD1 : -200 ≤ D ∧ D ≤ 200 := by have := hDM.out; omega
          have e2 : IntKind.i64.wrap (0 - M) = D := by have := hDM.out; rw [IntKind.wrap_i64]; omega
          have e3 : IntKind.i64.wrap (-M) = D := by have := hDM.out; rw [IntKind.wrap_i64]; omega
          have e4 : -M = D := by have := hDM.out; omega
          have e5 : 0 - M = D := by have := hDM.out; omega
          have hMM : -200 ≤ M ∧ M ≤ 200 := by omega
          go_wp2_with fail
          refine (refRoll_c R C A n k f a b M y wc (HR.out.keep HBel.out) HN.out hR hC hMM).mono ?_
          rintro en w7 ⟨A', k', rfl, h7⟩
          have HR7 := Lib.hid h7.read
          have HN7 := Lib.hid h7.new
          have HB7 := Lib.hid (HBel.out.trans (h7.bel.mono HBel.out.size))
          have HS := Lib.hid (HZ.out.below h7.bel HZ.out.lt)
          clear h7 c0 c1 c2 o0 o1 o2 o3 o4 o5 o6 o7
          go_wp2_with ((with_reducible refine at_store 31 ?_); refine wpList_store_at rfl rfl 31 (.tmp 4) (.tmp 71) rfl (w.heap.size + 1 + 1) 0 rfl _ rfl _ _ HS.out (Nat.le_refl 3) (one_gridV _ _ _ _ _) sizeG ?_; intro w8 hb8 hg8; rw [splice_all _ _ (by rfl)] at hb8; have HB8 := Lib.hid hb8; have HG8 := Lib.hid hg8; clear hb8 hg8)
          refine bodyPost_ret (v := .agg (gridV R C A' n k').toArray) ?_ rfl ?_
          · exact results_cell_row rfl _ _ (w.heap.size + 1 + 1) _ _ _ _ rfl HB8.out Try.underlying31 rfl (by kernel_rfl)
          · have k8 : Chg (fun i => i = w.heap.size + 1 + 1) w7 w8 := Chg.of_only HG8.out (fun i hi => (Option.some.inj hi).symm)
            exact ⟨A', k', rfl, HR7.out.only HG8.out (fun _ ad e => by have := HN7.out ad e; omega), k8.below HB7.out (by have := HB7.out.size; omega) (fun i hi => by omega), .inr (fun ad e => by have := HN7.out ad e; omega)⟩
        | false =>
          have hF1 : F = f := by rw [hFE.out, movedF, if_neg (by omega), if_neg (fun h => by have := h.2; rw [hBs.out, hb] at this; cases this), if_neg (by omega), if_neg (by omega), if_neg (by omega)]
          subst hF1 hb
          have k3 : (K == 3) = false := by rw [beq_eq_false_iff_ne]; omega
          have k4 : (K == 4) = false := by rw [beq_eq_false_iff_ne]; omega
          have k5 : (K == 5) = false := by rw [beq_eq_false_iff_ne]; omega
          have KK := Lib.hid h2
          clear h1 h2
          have HS := HZ
          go_wp2_with ((with_reducible refine at_store 31 ?_); refine wpList_store_at rfl rfl 31 (.tmp 4) (.tmp 128) rfl (w.heap.size + 1 + 1) 0 rfl _ rfl _ _ HS.out (Nat.le_refl 3) (one_gridV _ _ _ _ _) sizeG ?_; intro w8 hb8 hg8; rw [splice_all _ _ (by rfl)] at hb8; have HB8 := Lib.hid hb8; have HG8 := Lib.hid hg8; clear hb8 hg8)
          refine bodyPost_ret (v := .agg (gridV R C A n k).toArray) ?_ rfl ?_
          · exact results_cell_row rfl _ _ (w.heap.size + 1 + 1) _ _ _ _ rfl HB8.out Try.underlying31 rfl (by kernel_rfl)
          · have k8 : Chg (fun i => i = w.heap.size + 1 + 1) wc w8 := Chg.of_only HG8.out (fun i hi => (Option.some.inj hi).symm)
            exact ⟨A, k, rfl, (HR.out.keep HBel.out).only HG8.out (fun h0 ad e => by obtain ⟨ad', e', hlt⟩ := HR.out.pos h0; rw [e] at e'; cases e'; omega), k8.below HBel.out (by have := HBel.out.size; omega) (fun i hi => by omega), .inl rfl⟩
      have k2 : (K == 2) = false := by simpa using h2
      by_cases h3 : K = 3
      · have k3 : (K == 3) = true := by simpa using h3
        cases hb : Bs with
        | true =>
          have hF1 : F = rollF R C f a b D y := by rw [hFE.out, movedF, if_neg (by omega), if_neg (by omega), if_pos ⟨h3, by rw [hBs.out, hb]⟩, hD.out]
          subst hF1 hb
          have KK := Lib.hid h3
          clear h1 h2 h3
          have dpos : 1 ≤ m := by have h := hBs.out; simp only [Bool.and_eq_true, decide_eq_true_eq] at h; exact h.2
          have e1 : min m 200 = M := hM.out
          have hD1 : -200 ≤ D ∧ D ≤ 200 := by have := hDM.out; omega
          have e2 : IntKind.i64.wrap (0 - M) = D := by have := hDM.out; rw [IntKind.wrap_i64]; omega
          have e3 : IntKind.i64.wrap (-M) = D := by have := hDM.out; rw [IntKind.wrap_i64]; omega
          have e4 : -M = D := by have := hDM.out; omega
          have e5 : 0 - M = D := by have := hDM.out; omega
          have hMM : -200 ≤ M ∧ M ≤ 200 := by omega
          go_wp2_with fail
          refine (refRoll_c R C A n k f a b D y wc (HR.out.keep HBel.out) HN.out hR hC hD1).mono ?_
          rintro en w7 ⟨A', k', rfl, h7⟩
          have HR7 := Lib.hid h7.read
          have HN7 := Lib.hid h7.new
          have HB7 := Lib.hid (HBel.out.trans (h7.bel.mono HBel.out.size))
          have HS := Lib.hid (HZ.out.below h7.bel HZ.out.lt)
          clear h7 c0 c1 c2 o0 o1 o2 o3 o4 o5 o6 o7
          go_wp2_with ((with_reducible refine at_store 31 ?_); refine wpList_store_at rfl rfl 31 (.tmp 4) (.tmp 90) rfl (w.heap.size + 1 + 1) 0 rfl _ rfl _ _ HS.out (Nat.le_refl 3) (one_gridV _ _ _ _ _) sizeG ?_; intro w8 hb8 hg8; rw [splice_all _ _ (by rfl)] at hb8; have HB8 := Lib.hid hb8; have HG8 := Lib.hid hg8; clear hb8 hg8)
          refine bodyPost_ret (v := .agg (gridV R C A' n k').toArray) ?_ rfl ?_
          · exact results_cell_row rfl _ _ (w.heap.size + 1 + 1) _ _ _ _ rfl HB8.out Try.underlying31 rfl (by kernel_rfl)
          · have k8 : Chg (fun i => i = w.heap.size + 1 + 1) w7 w8 := Chg.of_only HG8.out (fun i hi => (Option.some.inj hi).symm)
            exact ⟨A', k', rfl, HR7.out.only HG8.out (fun _ ad e => by have := HN7.out ad e; omega), k8.below HB7.out (by have := HB7.out.size; omega) (fun i hi => by omega), .inr (fun ad e => by have := HN7.out ad e; omega)⟩
        | false =>
          have hF1 : F = f := by rw [hFE.out, movedF, if_neg (by omega), if_neg (by omega), if_neg (fun h => by have := h.2; rw [hBs.out, hb] at this; cases this), if_neg (by omega), if_neg (by omega)]
          subst hF1 hb
          have k4 : (K == 4) = false := by rw [beq_eq_false_iff_ne]; omega
          have k5 : (K == 5) = false := by rw [beq_eq_false_iff_ne]; omega
          have KK := Lib.hid h3
          clear h1 h2 h3
          have HS := HZ
          go_wp2_with ((with_reducible refine at_store 31 ?_); refine wpList_store_at rfl rfl 31 (.tmp 4) (.tmp 128) rfl (w.heap.size + 1 + 1) 0 rfl _ rfl _ _ HS.out (Nat.le_refl 3) (one_gridV _ _ _ _ _) sizeG ?_; intro w8 hb8 hg8; rw [splice_all _ _ (by rfl)] at hb8; have HB8 := Lib.hid hb8; have HG8 := Lib.hid hg8; clear hb8 hg8)
          refine bodyPost_ret (v := .agg (gridV R C A n k).toArray) ?_ rfl ?_
          · exact results_cell_row rfl _ _ (w.heap.size + 1 + 1) _ _ _ _ rfl HB8.out Try.underlying31 rfl (by kernel_rfl)
          · have k8 : Chg (fun i => i = w.heap.size + 1 + 1) wc w8 := Chg.of_only HG8.out (fun i hi => (Option.some.inj hi).symm)
            exact ⟨A, k, rfl, (HR.out.keep HBel.out).only HG8.out (fun h0 ad e => by obtain ⟨ad', e', hlt⟩ := HR.out.pos h0; rw [e] at e'; cases e'; omega), k8.below HBel.out (by have := HBel.out.size; omega) (fun i hi => by omega), .inl rfl⟩
      have k3 : (K == 3) = false := by simpa using h3
      by_cases h4 : K = 4
      · have k4 : (K == 4) = true := by simpa using h4
        cases hb : Bt with
        | true =>
          have hF1 : F = slideF R C f a b D y := by rw [hFE.out, movedF, if_neg (by omega), if_neg (by omega), if_neg (by omega), if_pos ⟨h4, by rw [hBt.out, hb]⟩, hD.out]
          subst hF1 hb
          have KK := Lib.hid h4
          clear h1 h2 h3 h4
          have dpos : 1 ≤ m := by have h := hBt.out; simp only [Bool.and_eq_true, decide_eq_true_eq] at h; exact h.2
          have e1 : min m 200 = M := hM.out
          have hD1 : -200 ≤ D ∧ D ≤ 200 := by have := hDM.out; omega
          have e2 : IntKind.i64.wrap (0 - M) = D := by have := hDM.out; rw [IntKind.wrap_i64]; omega
          have e3 : IntKind.i64.wrap (-M) = D := by have := hDM.out; rw [IntKind.wrap_i64]; omega
          have e4 : -M = D := by have := hDM.out; omega
          have e5 : 0 - M = D := by have := hDM.out; omega
          have hMM : -200 ≤ M ∧ M ≤ 200 := by omega
          go_wp2_with fail
          refine (refSlide_c R C A n k f a b D y wc (HR.out.keep HBel.out) HN.out hR hC hC1 hD1).mono ?_
          rintro en w7 ⟨A', k', rfl, h7⟩
          have HR7 := Lib.hid h7.read
          have HN7 := Lib.hid h7.new
          have HB7 := Lib.hid (HBel.out.trans (h7.bel.mono HBel.out.size))
          have HS := Lib.hid (HZ.out.below h7.bel HZ.out.lt)
          clear h7 c0 c1 c2 o0 o1 o2 o3 o4 o5 o6 o7
          go_wp2_with ((with_reducible refine at_store 31 ?_); refine wpList_store_at rfl rfl 31 (.tmp 4) (.tmp 109) rfl (w.heap.size + 1 + 1) 0 rfl _ rfl _ _ HS.out (Nat.le_refl 3) (one_gridV _ _ _ _ _) sizeG ?_; intro w8 hb8 hg8; rw [splice_all _ _ (by rfl)] at hb8; have HB8 := Lib.hid hb8; have HG8 := Lib.hid hg8; clear hb8 hg8)
          refine bodyPost_ret (v := .agg (gridV R C A' n k').toArray) ?_ rfl ?_
          · exact results_cell_row rfl _ _ (w.heap.size + 1 + 1) _ _ _ _ rfl HB8.out Try.underlying31 rfl (by kernel_rfl)
          · have k8 : Chg (fun i => i = w.heap.size + 1 + 1) w7 w8 := Chg.of_only HG8.out (fun i hi => (Option.some.inj hi).symm)
            exact ⟨A', k', rfl, HR7.out.only HG8.out (fun _ ad e => by have := HN7.out ad e; omega), k8.below HB7.out (by have := HB7.out.size; omega) (fun i hi => by omega), .inr (fun ad e => by have := HN7.out ad e; omega)⟩
        | false =>
          have hF1 : F = f := by rw [hFE.out, movedF, if_neg (by omega), if_neg (by omega), if_neg (by omega), if_neg (fun h => by have := h.2; rw [hBt.out, hb] at this; cases this), if_neg (by omega)]
          subst hF1 hb
          have k5 : (K == 5) = false := by rw [beq_eq_false_iff_ne]; omega
          have KK := Lib.hid h4
          clear h1 h2 h3 h4
          have HS := HZ
          go_wp2_with ((with_reducible refine at_store 31 ?_); refine wpList_store_at rfl rfl 31 (.tmp 4) (.tmp 128) rfl (w.heap.size + 1 + 1) 0 rfl _ rfl _ _ HS.out (Nat.le_refl 3) (one_gridV _ _ _ _ _) sizeG ?_; intro w8 hb8 hg8; rw [splice_all _ _ (by rfl)] at hb8; have HB8 := Lib.hid hb8; have HG8 := Lib.hid hg8; clear hb8 hg8)
          refine bodyPost_ret (v := .agg (gridV R C A n k).toArray) ?_ rfl ?_
          · exact results_cell_row rfl _ _ (w.heap.size + 1 + 1) _ _ _ _ rfl HB8.out Try.underlying31 rfl (by kernel_rfl)
          · have k8 : Chg (fun i => i = w.heap.size + 1 + 1) wc w8 := Chg.of_only HG8.out (fun i hi => (Option.some.inj hi).symm)
            exact ⟨A, k, rfl, (HR.out.keep HBel.out).only HG8.out (fun h0 ad e => by obtain ⟨ad', e', hlt⟩ := HR.out.pos h0; rw [e] at e'; cases e'; omega), k8.below HBel.out (by have := HBel.out.size; omega) (fun i hi => by omega), .inl rfl⟩
      have k4 : (K == 4) = false := by simpa using h4
      by_cases h5 : K = 5
      · have k5 : (K == 5) = true := by simpa using h5
        cases hb : Bt with
        | true =>
          have hF1 : F = slideF R C f a b M y := by rw [hFE.out, movedF, if_neg (by omega), if_neg (by omega), if_neg (by omega), if_neg (by omega), if_pos ⟨h5, by rw [hBt.out, hb]⟩, hM.out]
          subst hF1 hb
          have KK := Lib.hid h5
          clear h1 h2 h3 h4 h5
          have dpos : 1 ≤ m := by have h := hBt.out; simp only [Bool.and_eq_true, decide_eq_true_eq] at h; exact h.2
          have e1 : min m 200 = M := hM.out
          have hD1 : -200 ≤ D ∧ D ≤ 200 := by have := hDM.out; omega
          have e2 : IntKind.i64.wrap (0 - M) = D := by have := hDM.out; rw [IntKind.wrap_i64]; omega
          have e3 : IntKind.i64.wrap (-M) = D := by have := hDM.out; rw [IntKind.wrap_i64]; omega
          have e4 : -M = D := by have := hDM.out; omega
          have e5 : 0 - M = D := by have := hDM.out; omega
          have hMM : -200 ≤ M ∧ M ≤ 200 := by omega
          go_wp2_with fail
          refine (refSlide_c R C A n k f a b M y wc (HR.out.keep HBel.out) HN.out hR hC hC1 hMM).mono ?_
          rintro en w7 ⟨A', k', rfl, h7⟩
          have HR7 := Lib.hid h7.read
          have HN7 := Lib.hid h7.new
          have HB7 := Lib.hid (HBel.out.trans (h7.bel.mono HBel.out.size))
          have HS := Lib.hid (HZ.out.below h7.bel HZ.out.lt)
          clear h7 c0 c1 c2 o0 o1 o2 o3 o4 o5 o6 o7
          go_wp2_with ((with_reducible refine at_store 31 ?_); refine wpList_store_at rfl rfl 31 (.tmp 4) (.tmp 127) rfl (w.heap.size + 1 + 1) 0 rfl _ rfl _ _ HS.out (Nat.le_refl 3) (one_gridV _ _ _ _ _) sizeG ?_; intro w8 hb8 hg8; rw [splice_all _ _ (by rfl)] at hb8; have HB8 := Lib.hid hb8; have HG8 := Lib.hid hg8; clear hb8 hg8)
          refine bodyPost_ret (v := .agg (gridV R C A' n k').toArray) ?_ rfl ?_
          · exact results_cell_row rfl _ _ (w.heap.size + 1 + 1) _ _ _ _ rfl HB8.out Try.underlying31 rfl (by kernel_rfl)
          · have k8 : Chg (fun i => i = w.heap.size + 1 + 1) w7 w8 := Chg.of_only HG8.out (fun i hi => (Option.some.inj hi).symm)
            exact ⟨A', k', rfl, HR7.out.only HG8.out (fun _ ad e => by have := HN7.out ad e; omega), k8.below HB7.out (by have := HB7.out.size; omega) (fun i hi => by omega), .inr (fun ad e => by have := HN7.out ad e; omega)⟩
        | false =>
          have hF1 : F = f := by rw [hFE.out, movedF, if_neg (by omega), if_neg (by omega), if_neg (by omega), if_neg (by omega), if_neg (fun h => by have := h.2; rw [hBt.out, hb] at this; cases this)]
          subst hF1 hb
          have KK := Lib.hid h5
          clear h1 h2 h3 h4 h5
          have HS := HZ
          go_wp2_with ((with_reducible refine at_store 31 ?_); refine wpList_store_at rfl rfl 31 (.tmp 4) (.tmp 128) rfl (w.heap.size + 1 + 1) 0 rfl _ rfl _ _ HS.out (Nat.le_refl 3) (one_gridV _ _ _ _ _) sizeG ?_; intro w8 hb8 hg8; rw [splice_all _ _ (by rfl)] at hb8; have HB8 := Lib.hid hb8; have HG8 := Lib.hid hg8; clear hb8 hg8)
          refine bodyPost_ret (v := .agg (gridV R C A n k).toArray) ?_ rfl ?_
          · exact results_cell_row rfl _ _ (w.heap.size + 1 + 1) _ _ _ _ rfl HB8.out Try.underlying31 rfl (by kernel_rfl)
          · have k8 : Chg (fun i => i = w.heap.size + 1 + 1) wc w8 := Chg.of_only HG8.out (fun i hi => (Option.some.inj hi).symm)
            exact ⟨A, k, rfl, (HR.out.keep HBel.out).only HG8.out (fun h0 ad e => by obtain ⟨ad', e', hlt⟩ := HR.out.pos h0; rw [e] at e'; cases e'; omega), k8.below HBel.out (by have := HBel.out.size; omega) (fun i hi => by omega), .inl rfl⟩
      have k5 : (K == 5) = false := by simpa using h5
      have hF1 : F = f := by rw [hFE.out, movedF, if_neg h1, if_neg (by omega), if_neg (by omega), if_neg (by omega), if_neg (by omega)]
      subst hF1
      clear h1 h2 h3 h4 h5
      have HS := HZ
      go_wp2_with ((with_reducible refine at_store 31 ?_); refine wpList_store_at rfl rfl 31 (.tmp 4) (.tmp 128) rfl (w.heap.size + 1 + 1) 0 rfl _ rfl _ _ HS.out (Nat.le_refl 3) (one_gridV _ _ _ _ _) sizeG ?_; intro w8 hb8 hg8; rw [splice_all _ _ (by rfl)] at hb8; have HB8 := Lib.hid hb8; have HG8 := Lib.hid hg8; clear hb8 hg8)
      refine bodyPost_ret (v := .agg (gridV R C A n k).toArray) ?_ rfl ?_
      · exact results_cell_row rfl _ _ (w.heap.size + 1 + 1) _ _ _ _ rfl HB8.out Try.underlying31 rfl (by kernel_rfl)
      · have k8 : Chg (fun i => i = w.heap.size + 1 + 1) wc w8 := Chg.of_only HG8.out (fun i hi => (Option.some.inj hi).symm)
        exact ⟨A, k, rfl, (HR.out.keep HBel.out).only HG8.out (fun h0 ad e => by obtain ⟨ad', e', hlt⟩ := HR.out.pos h0; rw [e] at e'; cases e'; omega), k8.below HBel.out (by have := HBel.out.size; omega) (fun i hi => by omega), .inl rfl⟩
end Go.Proofs.Ytgmfmhlboehdoaa
