/- What do of the statements of layer 10 does at a board and at the document's one, as a walk through the translated text. Conditions: the board lies in memory of its own, the document's grid in other memory. -/
import Derived.Test.YtgmfmhlboehdoaaGridD0
namespace Go.Proofs.Ytgmfmhlboehdoaa
open Go.ChangeShapes Go.WideShapes Go.RowKit
theorem put_tt (b g R C : Nat) (f : Nat → CellV) (r c : Int) (y : CellV) (w : World) (h : BAt w b g R C f) (ht : (hasB R C r c && okC y) = true) :
    Calls Try.prog 24 #[.pointer (some ⟨b, 0, none⟩), .int .i64 r, .int .i64 c, .agg (cellV y).toArray] w fun en w' => en = .returned (.int .i64 0) ∧ BAt w' b g R C (putF C r.toNat c.toNat y f) ∧ Chg (fun i => i = b ∨ i = g) w w' := by
  refine (put_c b g R C f r c y w h).mono ?_
  rintro en w' ⟨e, h1, h2⟩
  rw [if_pos ht] at h1 e
  exact ⟨e, h1, h2.mono fun _ h => .inr h⟩
theorem put_ff (b g R C : Nat) (f : Nat → CellV) (r c : Int) (y : CellV) (w : World) (h : BAt w b g R C f) (ht : (hasB R C r c && okC y) = false) :
    Calls Try.prog 24 #[.pointer (some ⟨b, 0, none⟩), .int .i64 r, .int .i64 c, .agg (cellV y).toArray] w fun en w' => en = .returned (.int .i64 1) ∧ BAt w' b g R C f ∧ Chg (fun i => i = b ∨ i = g) w w' := by
  refine (put_c b g R C f r c y w h).mono ?_
  rintro en w' ⟨e, h1, h2⟩
  rw [if_neg (by rw [ht]; decide)] at h1 e
  exact ⟨e, h1, h2.mono fun _ h => .inr h⟩
set_option maxRecDepth 100000 in
set_option maxHeartbeats 12800000 in
theorem do_c (b g R C : Nat) (A : Option Addr) (n k : Nat) (f : Nat → CellV) (K a d m : Int) (y : CellV) (w : World) (hB : BAt w b g R C f) (hr : ReadsS cellV 4 w A n k (tab n f)) (hn : n = R * C) (hap : ∀ ad, A = some ad → ad.block ≠ b ∧ ad.block ≠ g) (hm64 : fit64 m) (hfy : fitC y) :
    Calls Try.prog 10 #[.pointer (some ⟨b, 0, none⟩), .agg (gridV R C A n k).toArray, .agg (opV (K, a, d, m, y)).toArray] w (DoPost w b g A) := by
  have HR := Lib.hid hr
  have HN := Lib.hid hn
  have HB0 := Lib.hid hB
  have HAP0 := Lib.hid hap
  obtain ⟨hR1, hR2⟩ := hB.rows
  obtain ⟨hC1, hC2⟩ := hB.cols
  have hbl := hB.blt
  have hgl := hB.glt
  have hn1 : 0 < n := by rw [hn]; exact Nat.mul_pos hR1 hC1
  have HM64 := Lib.hid hm64
  have hy1 := Lib.hid hfy.1
  clear hr hn hB hap hm64 hfy
  simp only [gridV_list, opV, cellV]
  go_enter Try.func10, Try.ntmps10
  go_upto_region 1 with (fail)
  refine name_wp (fun w1 => DoSt w w1 b g R C A n k f (K, a, d, m, y) ∧ BAt w1 b g R C f) ?_ ?_
  · have hb : Below w.heap.size w (((w.alloc (.cells (gridV R C A n k).toArray 31)).alloc (.cells (opV (K, a, d, m, y)).toArray 40)).alloc (.cells (gridV 0 0 none 0 0).toArray 31)) := ((alloc_below' _ _).alloc (by simp) _).alloc (by simp; omega) _
    exact ⟨⟨((Blk.new _ _ _).alloc _).alloc _, (newAt _ (opV (K, a, d, m, y)) (by simp)).alloc _, newAt _ _ (by simp), HR.out.keep hb, Chg.of_below hb, HAP0.out, hbl, hgl⟩, HB0.out.below hb⟩
  rintro w1 ⟨hst1, hba1⟩
  have HST1 := Lib.hid hst1
  have HBA1 := Lib.hid hba1
  have HAP := Lib.hid (hst1.apart HR.out hn1)
  obtain ⟨o0, o1, o2, o3, o4, o5, o6, o7⟩ := boxO hst1.o0
  clear hst1 hba1
  obtain ⟨Bo, hBo⟩ : ∃ Bo, Hid (okC y = Bo) := ⟨_, rfl⟩
  go_wp2_with fail
  refine (refRight_c y w1 hy1.out).mono ?_
  rw [hBo.out]
  rintro en w2 ⟨rfl, hb2⟩
  have HST := Lib.hid (HST1.out.below hb2)
  have HBA := Lib.hid (HBA1.out.below hb2)
  have hzw : w.heap.size + 1 + 1 < w2.heap.size := HST.out.z0.lt
  clear hb2 o0 o1 o2 o3 o4 o5 o6 o7 HST1 HBA1
  obtain ⟨c0, c1, c2⟩ := boxG HST.out.g0
  obtain ⟨o0, o1, o2, o3, o4, o5, o6, o7⟩ := boxO HST.out.o0
  by_cases h0 : K = 0
  · have k0 : (K == 0) = true := by simpa using h0
    have H0 := Lib.hid h0
    clear h0
    have HTH := Lib.hid (fun W => there_c R C A n k a d W)
    cases hp : (hasB R C a d && okC y) with
    | false =>
      have HP := Lib.hid (put_ff b g R C f a d y w2 HBA.out hp)
      simp only [cellV] at HP
      have HALL : Hid (∀ P : Prop, (hasB R C a d = false → P) → (hasB R C a d = true → Bo = false → P) → P) := by
        intro P x z
        cases h : hasB R C a d with
        | false => exact x h
        | true => rw [h, Bool.true_and, hBo.out] at hp; exact z h hp
      clear hp
      refine HALL.out _ (fun hh => ?_) (fun hh hb => ?_)
      · have HH := Lib.hid hh
        clear hh
        go_wp2_with fail
        refine HP.out.mono ?_
        rintro en w3 ⟨rfl, h3, k3⟩
        replace HST := Lib.hid (HST.out.mut k3)
        replace HBA := Lib.hid h3
        clear c0 c1 c2 o0 o1 o2 o3 o4 o5 o6 o7
        clear h3 k3
        obtain ⟨c0, c1, c2⟩ := boxG HST.out.g0
        obtain ⟨o0, o1, o2, o3, o4, o5, o6, o7⟩ := boxO HST.out.o0
        go_wp2_with fail
        refine (HTH.out w3).mono ?_
        rw [HH.out]
        rintro en w4 ⟨rfl, hb4⟩
        replace HST := Lib.hid (HST.out.below hb4)
        replace HBA := Lib.hid (HBA.out.below hb4)
        clear c0 c1 c2 o0 o1 o2 o3 o4 o5 o6 o7
        clear hb4
        obtain ⟨c0, c1, c2⟩ := boxG HST.out.g0
        obtain ⟨o0, o1, o2, o3, o4, o5, o6, o7⟩ := boxO HST.out.o0
        have HS := Lib.hid HST.out.z0
        go_wp2_with ((with_reducible refine at_store 31 ?_); refine wpList_store_at rfl rfl 31 (.tmp 6) (.tmp 60) rfl (w.heap.size + 1 + 1) 0 rfl _ rfl _ _ HS.out (Nat.le_refl 3) (one_gridV _ _ _ _ _) sizeG ?_; intro w8 hb8 hg8; rw [splice_all _ _ (by rfl)] at hb8; have HB8 := Lib.hid hb8; have HG8 := Lib.hid hg8; clear hb8 hg8)
        refine bodyPost_ret (v := .tuple #[.agg (gridV R C A n k).toArray, .bool true]) ?_ rfl ?_
        · exact results_pair rfl _ _ (w.heap.size + 1 + 1) _ _ _ (.bool true) rfl rfl HB8.out Try.underlying31 rfl (by kernel_rfl)
        · exact HST.out.fin HBA.out HN.out HST.out.rd HAP.out (.inr rfl) (.inl rfl) HG8.out
      · have HH := Lib.hid hh
        subst hb
        clear hh
        go_wp2_with fail
        refine HP.out.mono ?_
        rintro en w3 ⟨rfl, h3, k3⟩
        replace HST := Lib.hid (HST.out.mut k3)
        replace HBA := Lib.hid h3
        clear c0 c1 c2 o0 o1 o2 o3 o4 o5 o6 o7
        clear h3 k3
        obtain ⟨c0, c1, c2⟩ := boxG HST.out.g0
        obtain ⟨o0, o1, o2, o3, o4, o5, o6, o7⟩ := boxO HST.out.o0
        go_wp2_with fail
        refine (HTH.out w3).mono ?_
        rw [HH.out]
        rintro en w4 ⟨rfl, hb4⟩
        replace HST := Lib.hid (HST.out.below hb4)
        replace HBA := Lib.hid (HBA.out.below hb4)
        clear c0 c1 c2 o0 o1 o2 o3 o4 o5 o6 o7
        clear hb4
        obtain ⟨c0, c1, c2⟩ := boxG HST.out.g0
        obtain ⟨o0, o1, o2, o3, o4, o5, o6, o7⟩ := boxO HST.out.o0
        have HS := Lib.hid HST.out.z0
        go_wp2_with ((with_reducible refine at_store 31 ?_); refine wpList_store_at rfl rfl 31 (.tmp 6) (.tmp 60) rfl (w.heap.size + 1 + 1) 0 rfl _ rfl _ _ HS.out (Nat.le_refl 3) (one_gridV _ _ _ _ _) sizeG ?_; intro w8 hb8 hg8; rw [splice_all _ _ (by rfl)] at hb8; have HB8 := Lib.hid hb8; have HG8 := Lib.hid hg8; clear hb8 hg8)
        refine bodyPost_ret (v := .tuple #[.agg (gridV R C A n k).toArray, .bool true]) ?_ rfl ?_
        · exact results_pair rfl _ _ (w.heap.size + 1 + 1) _ _ _ (.bool true) rfl rfl HB8.out Try.underlying31 rfl (by kernel_rfl)
        · exact HST.out.fin HBA.out HN.out HST.out.rd HAP.out (.inr rfl) (.inl rfl) HG8.out
    | true =>
      have HP := Lib.hid (put_tt b g R C f a d y w2 HBA.out hp)
      simp only [cellV] at HP
      have hp2 := hp
      simp only [Bool.and_eq_true] at hp2
      have HH := Lib.hid hp2.1
      obtain rfl : Bo = true := by rw [← hBo.out]; exact hp2.2
      obtain ⟨q, p, rfl, rfl, hq, hpp⟩ := has_parts hp2.1
      rw [show (q : Int).toNat = q from rfl, show (p : Int).toNat = p from rfl] at HP
      clear hp hp2
      go_wp2_with fail
      refine HP.out.mono ?_
      rintro en w3 ⟨rfl, h3, k3⟩
      replace HST := Lib.hid (HST.out.mut k3)
      replace HBA := Lib.hid h3
      clear c0 c1 c2 o0 o1 o2 o3 o4 o5 o6 o7
      clear h3 k3
      obtain ⟨c0, c1, c2⟩ := boxG HST.out.g0
      obtain ⟨o0, o1, o2, o3, o4, o5, o6, o7⟩ := boxO HST.out.o0
      go_wp2_with fail
      refine (HTH.out w3).mono ?_
      rw [HH.out]
      rintro en w4 ⟨rfl, hb4⟩
      replace HST := Lib.hid (HST.out.below hb4)
      replace HBA := Lib.hid (HBA.out.below hb4)
      clear c0 c1 c2 o0 o1 o2 o3 o4 o5 o6 o7
      clear hb4
      obtain ⟨c0, c1, c2⟩ := boxG HST.out.g0
      obtain ⟨o0, o1, o2, o3, o4, o5, o6, o7⟩ := boxO HST.out.o0
      go_wp2_with fail
      refine (refPut_c R C A n k f q p y w4 HST.out.rd HN.out hR2 hC2 hq hpp).mono ?_
      rintro en w5 ⟨A', k', rfl, h5⟩
      have HNW := Lib.hid h5.new
      have HRD := Lib.hid h5.read
      have hl4 := HST.out.z0.lt
      have hs4 := HST.out.chg.size
      replace HST := Lib.hid (HST.out.below h5.bel)
      replace HBA := Lib.hid (HBA.out.below h5.bel)
      clear c0 c1 c2 o0 o1 o2 o3 o4 o5 o6 o7
      clear h5
      have HS := Lib.hid HST.out.z0
      go_wp2_with ((with_reducible refine at_store 31 ?_); refine wpList_store_at rfl rfl 31 (.tmp 6) (.tmp 70) rfl (w.heap.size + 1 + 1) 0 rfl _ rfl _ _ HS.out (Nat.le_refl 3) (one_gridV _ _ _ _ _) sizeG ?_; intro w8 hb8 hg8; rw [splice_all _ _ (by rfl)] at hb8; have HB8 := Lib.hid hb8; have HG8 := Lib.hid hg8; clear hb8 hg8)
      refine bodyPost_ret (v := .tuple #[.agg (gridV R C A' n k').toArray, .bool true]) ?_ rfl ?_
      · exact results_pair rfl _ _ (w.heap.size + 1 + 1) _ _ _ (.bool true) rfl rfl HB8.out Try.underlying31 rfl (by kernel_rfl)
      · exact HST.out.fin HBA.out HN.out HRD.out (fun ad e => by have := HNW.out ad e; omega) (.inr rfl) (.inr (fun ad e => by have := HNW.out ad e; omega)) HG8.out
  have k0 : (K == 0) = false := by simpa using h0
  by_cases h1 : K = 1
  · have k1 : (K == 1) = true := by simpa using h1
    have HK := Lib.hid h1
    clear h0 h1
    have HC := Lib.hid (bfill_c b g R C f a d m y w2 HBA.out)
    simp only [cellV] at HC
    cases Bo with
    | false =>
      go_wp2_with fail
      refine HC.out.mono ?_
      rintro en w3 ⟨⟨v, rfl⟩, h3, k3⟩
      rw [if_neg (by rw [hBo.out]; simp)] at h3
      replace HST := Lib.hid (HST.out.mut (k3.mono fun _ h => .inr h))
      replace HBA := Lib.hid h3
      clear c0 c1 c2 o0 o1 o2 o3 o4 o5 o6 o7
      clear h3 k3
      obtain ⟨c0, c1, c2⟩ := boxG HST.out.g0
      obtain ⟨o0, o1, o2, o3, o4, o5, o6, o7⟩ := boxO HST.out.o0
      have HS := Lib.hid HST.out.z0
      go_wp2_with ((with_reducible refine at_store 31 ?_); refine wpList_store_at rfl rfl 31 (.tmp 6) (.tmp 135) rfl (w.heap.size + 1 + 1) 0 rfl _ rfl _ _ HS.out (Nat.le_refl 3) (one_gridV _ _ _ _ _) sizeG ?_; intro w8 hb8 hg8; rw [splice_all _ _ (by rfl)] at hb8; have HB8 := Lib.hid hb8; have HG8 := Lib.hid hg8; clear hb8 hg8)
      refine bodyPost_ret (v := .tuple #[.agg (gridV R C A n k).toArray, .bool true]) ?_ rfl ?_
      · exact results_pair rfl _ _ (w.heap.size + 1 + 1) _ _ _ (.bool true) rfl rfl HB8.out Try.underlying31 rfl (by kernel_rfl)
      · exact HST.out.fin HBA.out HN.out HST.out.rd HAP.out (.inr rfl) (.inl rfl) HG8.out
    | true =>
      go_wp2_with fail
      refine HC.out.mono ?_
      rintro en w3 ⟨⟨v, rfl⟩, h3, k3⟩
      replace HST := Lib.hid (HST.out.mut (k3.mono fun _ h => .inr h))
      replace HBA := Lib.hid (h3.congr (mut1 (by omega) (hBo.out)))
      clear c0 c1 c2 o0 o1 o2 o3 o4 o5 o6 o7
      clear h3 k3
      obtain ⟨c0, c1, c2⟩ := boxG HST.out.g0
      obtain ⟨o0, o1, o2, o3, o4, o5, o6, o7⟩ := boxO HST.out.o0
      go_wp2_with fail
      refine (moved_c R C A n k f K a d m y w3 HST.out.rd HN.out hR2 hC2 hC1 HM64.out).mono ?_
      rintro en w4 ⟨A', k', rfl, hrd, hbl4, hnw⟩
      have HRD := Lib.hid hrd
      have HNW := Lib.hid hnw
      have hl3 := HST.out.z0.lt
      have hs3 := HST.out.chg.size
      rw [← HK.out] at HBA
      replace HST := Lib.hid (HST.out.below hbl4)
      replace HBA := Lib.hid (HBA.out.below hbl4)
      clear hrd hnw hbl4 c0 c1 c2 o0 o1 o2 o3 o4 o5 o6 o7
      have HS := Lib.hid HST.out.z0
      go_wp2_with ((with_reducible refine at_store 31 ?_); refine wpList_store_at rfl rfl 31 (.tmp 6) (.tmp 138) rfl (w.heap.size + 1 + 1) 0 rfl _ rfl _ _ HS.out (Nat.le_refl 3) (one_gridV _ _ _ _ _) sizeG ?_; intro w8 hb8 hg8; rw [splice_all _ _ (by rfl)] at hb8; have HB8 := Lib.hid hb8; have HG8 := Lib.hid hg8; clear hb8 hg8)
      refine bodyPost_ret (v := .tuple #[.agg (gridV R C A' n k').toArray, .bool true]) ?_ rfl ?_
      · exact results_pair rfl _ _ (w.heap.size + 1 + 1) _ _ _ (.bool true) rfl rfl HB8.out Try.underlying31 rfl (by kernel_rfl)
      · exact HST.out.fin HBA.out HN.out HRD.out (fun ad e => by rcases HNW.out with h | h; exact HAP.out ad (h ▸ e); have := h ad e; omega) (.inr rfl) (by rcases HNW.out with h | h; exact .inl h; exact .inr (fun ad e => by have := h ad e; omega)) HG8.out
  have k1 : (K == 1) = false := by simpa using h1
  by_cases h2 : K = 2
  · have k2 : (K == 2) = true := by simpa using h2
    have HK := Lib.hid h2
    clear h0 h1 h2
    have HC := Lib.hid (up_c b g R C f a d m y w2 HBA.out)
    simp only [cellV] at HC
    cases Bo with
    | false =>
      go_wp2_with fail
      refine HC.out.mono ?_
      rintro en w3 ⟨⟨v, rfl⟩, h3, k3⟩
      rw [if_neg (by rw [movesB, hBo.out]; simp)] at h3
      replace HST := Lib.hid (HST.out.mut (k3.mono fun _ h => .inr h))
      replace HBA := Lib.hid h3
      clear c0 c1 c2 o0 o1 o2 o3 o4 o5 o6 o7
      clear h3 k3
      obtain ⟨c0, c1, c2⟩ := boxG HST.out.g0
      obtain ⟨o0, o1, o2, o3, o4, o5, o6, o7⟩ := boxO HST.out.o0
      have HS := Lib.hid HST.out.z0
      go_wp2_with ((with_reducible refine at_store 31 ?_); refine wpList_store_at rfl rfl 31 (.tmp 6) (.tmp 135) rfl (w.heap.size + 1 + 1) 0 rfl _ rfl _ _ HS.out (Nat.le_refl 3) (one_gridV _ _ _ _ _) sizeG ?_; intro w8 hb8 hg8; rw [splice_all _ _ (by rfl)] at hb8; have HB8 := Lib.hid hb8; have HG8 := Lib.hid hg8; clear hb8 hg8)
      refine bodyPost_ret (v := .tuple #[.agg (gridV R C A n k).toArray, .bool true]) ?_ rfl ?_
      · exact results_pair rfl _ _ (w.heap.size + 1 + 1) _ _ _ (.bool true) rfl rfl HB8.out Try.underlying31 rfl (by kernel_rfl)
      · exact HST.out.fin HBA.out HN.out HST.out.rd HAP.out (.inr rfl) (.inl rfl) HG8.out
    | true =>
      go_wp2_with fail
      refine HC.out.mono ?_
      rintro en w3 ⟨⟨v, rfl⟩, h3, k3⟩
      replace HST := Lib.hid (HST.out.mut (k3.mono fun _ h => .inr h))
      replace HBA := Lib.hid (h3.congr (mut2 (by omega) hR2 (hBo.out)))
      clear c0 c1 c2 o0 o1 o2 o3 o4 o5 o6 o7
      clear h3 k3
      obtain ⟨c0, c1, c2⟩ := boxG HST.out.g0
      obtain ⟨o0, o1, o2, o3, o4, o5, o6, o7⟩ := boxO HST.out.o0
      go_wp2_with fail
      refine (moved_c R C A n k f K a d m y w3 HST.out.rd HN.out hR2 hC2 hC1 HM64.out).mono ?_
      rintro en w4 ⟨A', k', rfl, hrd, hbl4, hnw⟩
      have HRD := Lib.hid hrd
      have HNW := Lib.hid hnw
      have hl3 := HST.out.z0.lt
      have hs3 := HST.out.chg.size
      rw [← HK.out] at HBA
      replace HST := Lib.hid (HST.out.below hbl4)
      replace HBA := Lib.hid (HBA.out.below hbl4)
      clear hrd hnw hbl4 c0 c1 c2 o0 o1 o2 o3 o4 o5 o6 o7
      have HS := Lib.hid HST.out.z0
      go_wp2_with ((with_reducible refine at_store 31 ?_); refine wpList_store_at rfl rfl 31 (.tmp 6) (.tmp 138) rfl (w.heap.size + 1 + 1) 0 rfl _ rfl _ _ HS.out (Nat.le_refl 3) (one_gridV _ _ _ _ _) sizeG ?_; intro w8 hb8 hg8; rw [splice_all _ _ (by rfl)] at hb8; have HB8 := Lib.hid hb8; have HG8 := Lib.hid hg8; clear hb8 hg8)
      refine bodyPost_ret (v := .tuple #[.agg (gridV R C A' n k').toArray, .bool true]) ?_ rfl ?_
      · exact results_pair rfl _ _ (w.heap.size + 1 + 1) _ _ _ (.bool true) rfl rfl HB8.out Try.underlying31 rfl (by kernel_rfl)
      · exact HST.out.fin HBA.out HN.out HRD.out (fun ad e => by rcases HNW.out with h | h; exact HAP.out ad (h ▸ e); have := h ad e; omega) (.inr rfl) (by rcases HNW.out with h | h; exact .inl h; exact .inr (fun ad e => by have := h ad e; omega)) HG8.out
  have k2 : (K == 2) = false := by simpa using h2
  by_cases h3 : K = 3
  · have k3 : (K == 3) = true := by simpa using h3
    have HK := Lib.hid h3
    clear h0 h1 h2 h3
    have HC := Lib.hid (down_c b g R C f a d m y w2 HBA.out)
    simp only [cellV] at HC
    cases Bo with
    | false =>
      go_wp2_with fail
      refine HC.out.mono ?_
      rintro en w3 ⟨⟨v, rfl⟩, h3, k3⟩
      rw [if_neg (by rw [movesB, hBo.out]; simp)] at h3
      replace HST := Lib.hid (HST.out.mut (k3.mono fun _ h => .inr h))
      replace HBA := Lib.hid h3
      clear c0 c1 c2 o0 o1 o2 o3 o4 o5 o6 o7
      clear h3 k3
      obtain ⟨c0, c1, c2⟩ := boxG HST.out.g0
      obtain ⟨o0, o1, o2, o3, o4, o5, o6, o7⟩ := boxO HST.out.o0
      have HS := Lib.hid HST.out.z0
      go_wp2_with ((with_reducible refine at_store 31 ?_); refine wpList_store_at rfl rfl 31 (.tmp 6) (.tmp 135) rfl (w.heap.size + 1 + 1) 0 rfl _ rfl _ _ HS.out (Nat.le_refl 3) (one_gridV _ _ _ _ _) sizeG ?_; intro w8 hb8 hg8; rw [splice_all _ _ (by rfl)] at hb8; have HB8 := Lib.hid hb8; have HG8 := Lib.hid hg8; clear hb8 hg8)
      refine bodyPost_ret (v := .tuple #[.agg (gridV R C A n k).toArray, .bool true]) ?_ rfl ?_
      · exact results_pair rfl _ _ (w.heap.size + 1 + 1) _ _ _ (.bool true) rfl rfl HB8.out Try.underlying31 rfl (by kernel_rfl)
      · exact HST.out.fin HBA.out HN.out HST.out.rd HAP.out (.inr rfl) (.inl rfl) HG8.out
    | true =>
      go_wp2_with fail
      refine HC.out.mono ?_
      rintro en w3 ⟨⟨v, rfl⟩, h3, k3⟩
      replace HST := Lib.hid (HST.out.mut (k3.mono fun _ h => .inr h))
      replace HBA := Lib.hid (h3.congr (mut3 (by omega) hR2 (hBo.out)))
      clear c0 c1 c2 o0 o1 o2 o3 o4 o5 o6 o7
      clear h3 k3
      obtain ⟨c0, c1, c2⟩ := boxG HST.out.g0
      obtain ⟨o0, o1, o2, o3, o4, o5, o6, o7⟩ := boxO HST.out.o0
      go_wp2_with fail
      refine (moved_c R C A n k f K a d m y w3 HST.out.rd HN.out hR2 hC2 hC1 HM64.out).mono ?_
      rintro en w4 ⟨A', k', rfl, hrd, hbl4, hnw⟩
      have HRD := Lib.hid hrd
      have HNW := Lib.hid hnw
      have hl3 := HST.out.z0.lt
      have hs3 := HST.out.chg.size
      rw [← HK.out] at HBA
      replace HST := Lib.hid (HST.out.below hbl4)
      replace HBA := Lib.hid (HBA.out.below hbl4)
      clear hrd hnw hbl4 c0 c1 c2 o0 o1 o2 o3 o4 o5 o6 o7
      have HS := Lib.hid HST.out.z0
      go_wp2_with ((with_reducible refine at_store 31 ?_); refine wpList_store_at rfl rfl 31 (.tmp 6) (.tmp 138) rfl (w.heap.size + 1 + 1) 0 rfl _ rfl _ _ HS.out (Nat.le_refl 3) (one_gridV _ _ _ _ _) sizeG ?_; intro w8 hb8 hg8; rw [splice_all _ _ (by rfl)] at hb8; have HB8 := Lib.hid hb8; have HG8 := Lib.hid hg8; clear hb8 hg8)
      refine bodyPost_ret (v := .tuple #[.agg (gridV R C A' n k').toArray, .bool true]) ?_ rfl ?_
      · exact results_pair rfl _ _ (w.heap.size + 1 + 1) _ _ _ (.bool true) rfl rfl HB8.out Try.underlying31 rfl (by kernel_rfl)
      · exact HST.out.fin HBA.out HN.out HRD.out (fun ad e => by rcases HNW.out with h | h; exact HAP.out ad (h ▸ e); have := h ad e; omega) (.inr rfl) (by rcases HNW.out with h | h; exact .inl h; exact .inr (fun ad e => by have := h ad e; omega)) HG8.out
  have k3 : (K == 3) = false := by simpa using h3
  by_cases h4 : K = 4
  · have k4 : (K == 4) = true := by simpa using h4
    have HK := Lib.hid h4
    clear h0 h1 h2 h3 h4
    have HC := Lib.hid (insert_c b g R C f a d m y w2 HBA.out)
    simp only [cellV] at HC
    cases Bo with
    | false =>
      go_wp2_with fail
      refine HC.out.mono ?_
      rintro en w3 ⟨⟨v, rfl⟩, h3, k3⟩
      rw [if_neg (by rw [movesB, hBo.out]; simp)] at h3
      replace HST := Lib.hid (HST.out.mut (k3.mono fun _ h => .inr h))
      replace HBA := Lib.hid h3
      clear c0 c1 c2 o0 o1 o2 o3 o4 o5 o6 o7
      clear h3 k3
      obtain ⟨c0, c1, c2⟩ := boxG HST.out.g0
      obtain ⟨o0, o1, o2, o3, o4, o5, o6, o7⟩ := boxO HST.out.o0
      have HS := Lib.hid HST.out.z0
      go_wp2_with ((with_reducible refine at_store 31 ?_); refine wpList_store_at rfl rfl 31 (.tmp 6) (.tmp 135) rfl (w.heap.size + 1 + 1) 0 rfl _ rfl _ _ HS.out (Nat.le_refl 3) (one_gridV _ _ _ _ _) sizeG ?_; intro w8 hb8 hg8; rw [splice_all _ _ (by rfl)] at hb8; have HB8 := Lib.hid hb8; have HG8 := Lib.hid hg8; clear hb8 hg8)
      refine bodyPost_ret (v := .tuple #[.agg (gridV R C A n k).toArray, .bool true]) ?_ rfl ?_
      · exact results_pair rfl _ _ (w.heap.size + 1 + 1) _ _ _ (.bool true) rfl rfl HB8.out Try.underlying31 rfl (by kernel_rfl)
      · exact HST.out.fin HBA.out HN.out HST.out.rd HAP.out (.inr rfl) (.inl rfl) HG8.out
    | true =>
      go_wp2_with fail
      refine HC.out.mono ?_
      rintro en w3 ⟨⟨v, rfl⟩, h3, k3⟩
      replace HST := Lib.hid (HST.out.mut (k3.mono fun _ h => .inr h))
      replace HBA := Lib.hid (h3.congr (mut4 hC2 (hBo.out)))
      clear c0 c1 c2 o0 o1 o2 o3 o4 o5 o6 o7
      clear h3 k3
      obtain ⟨c0, c1, c2⟩ := boxG HST.out.g0
      obtain ⟨o0, o1, o2, o3, o4, o5, o6, o7⟩ := boxO HST.out.o0
      go_wp2_with fail
      refine (moved_c R C A n k f K a d m y w3 HST.out.rd HN.out hR2 hC2 hC1 HM64.out).mono ?_
      rintro en w4 ⟨A', k', rfl, hrd, hbl4, hnw⟩
      have HRD := Lib.hid hrd
      have HNW := Lib.hid hnw
      have hl3 := HST.out.z0.lt
      have hs3 := HST.out.chg.size
      rw [← HK.out] at HBA
      replace HST := Lib.hid (HST.out.below hbl4)
      replace HBA := Lib.hid (HBA.out.below hbl4)
      clear hrd hnw hbl4 c0 c1 c2 o0 o1 o2 o3 o4 o5 o6 o7
      have HS := Lib.hid HST.out.z0
      go_wp2_with ((with_reducible refine at_store 31 ?_); refine wpList_store_at rfl rfl 31 (.tmp 6) (.tmp 138) rfl (w.heap.size + 1 + 1) 0 rfl _ rfl _ _ HS.out (Nat.le_refl 3) (one_gridV _ _ _ _ _) sizeG ?_; intro w8 hb8 hg8; rw [splice_all _ _ (by rfl)] at hb8; have HB8 := Lib.hid hb8; have HG8 := Lib.hid hg8; clear hb8 hg8)
      refine bodyPost_ret (v := .tuple #[.agg (gridV R C A' n k').toArray, .bool true]) ?_ rfl ?_
      · exact results_pair rfl _ _ (w.heap.size + 1 + 1) _ _ _ (.bool true) rfl rfl HB8.out Try.underlying31 rfl (by kernel_rfl)
      · exact HST.out.fin HBA.out HN.out HRD.out (fun ad e => by rcases HNW.out with h | h; exact HAP.out ad (h ▸ e); have := h ad e; omega) (.inr rfl) (by rcases HNW.out with h | h; exact .inl h; exact .inr (fun ad e => by have := h ad e; omega)) HG8.out
  have k4 : (K == 4) = false := by simpa using h4
  by_cases h5 : K = 5
  · have k5 : (K == 5) = true := by simpa using h5
    have HK := Lib.hid h5
    clear h0 h1 h2 h3 h4 h5
    have HC := Lib.hid (delete_c b g R C f a d m y w2 HBA.out)
    simp only [cellV] at HC
    cases Bo with
    | false =>
      go_wp2_with fail
      refine HC.out.mono ?_
      rintro en w3 ⟨⟨v, rfl⟩, h3, k3⟩
      rw [if_neg (by rw [movesB, hBo.out]; simp)] at h3
      replace HST := Lib.hid (HST.out.mut (k3.mono fun _ h => .inr h))
      replace HBA := Lib.hid h3
      clear c0 c1 c2 o0 o1 o2 o3 o4 o5 o6 o7
      clear h3 k3
      obtain ⟨c0, c1, c2⟩ := boxG HST.out.g0
      obtain ⟨o0, o1, o2, o3, o4, o5, o6, o7⟩ := boxO HST.out.o0
      have HS := Lib.hid HST.out.z0
      go_wp2_with ((with_reducible refine at_store 31 ?_); refine wpList_store_at rfl rfl 31 (.tmp 6) (.tmp 135) rfl (w.heap.size + 1 + 1) 0 rfl _ rfl _ _ HS.out (Nat.le_refl 3) (one_gridV _ _ _ _ _) sizeG ?_; intro w8 hb8 hg8; rw [splice_all _ _ (by rfl)] at hb8; have HB8 := Lib.hid hb8; have HG8 := Lib.hid hg8; clear hb8 hg8)
      refine bodyPost_ret (v := .tuple #[.agg (gridV R C A n k).toArray, .bool true]) ?_ rfl ?_
      · exact results_pair rfl _ _ (w.heap.size + 1 + 1) _ _ _ (.bool true) rfl rfl HB8.out Try.underlying31 rfl (by kernel_rfl)
      · exact HST.out.fin HBA.out HN.out HST.out.rd HAP.out (.inr rfl) (.inl rfl) HG8.out
    | true =>
      go_wp2_with fail
      refine HC.out.mono ?_
      rintro en w3 ⟨⟨v, rfl⟩, h3, k3⟩
      replace HST := Lib.hid (HST.out.mut (k3.mono fun _ h => .inr h))
      replace HBA := Lib.hid (h3.congr (mut5 hC2 (hBo.out)))
      clear c0 c1 c2 o0 o1 o2 o3 o4 o5 o6 o7
      clear h3 k3
      obtain ⟨c0, c1, c2⟩ := boxG HST.out.g0
      obtain ⟨o0, o1, o2, o3, o4, o5, o6, o7⟩ := boxO HST.out.o0
      go_wp2_with fail
      refine (moved_c R C A n k f K a d m y w3 HST.out.rd HN.out hR2 hC2 hC1 HM64.out).mono ?_
      rintro en w4 ⟨A', k', rfl, hrd, hbl4, hnw⟩
      have HRD := Lib.hid hrd
      have HNW := Lib.hid hnw
      have hl3 := HST.out.z0.lt
      have hs3 := HST.out.chg.size
      rw [← HK.out] at HBA
      replace HST := Lib.hid (HST.out.below hbl4)
      replace HBA := Lib.hid (HBA.out.below hbl4)
      clear hrd hnw hbl4 c0 c1 c2 o0 o1 o2 o3 o4 o5 o6 o7
      have HS := Lib.hid HST.out.z0
      go_wp2_with ((with_reducible refine at_store 31 ?_); refine wpList_store_at rfl rfl 31 (.tmp 6) (.tmp 138) rfl (w.heap.size + 1 + 1) 0 rfl _ rfl _ _ HS.out (Nat.le_refl 3) (one_gridV _ _ _ _ _) sizeG ?_; intro w8 hb8 hg8; rw [splice_all _ _ (by rfl)] at hb8; have HB8 := Lib.hid hb8; have HG8 := Lib.hid hg8; clear hb8 hg8)
      refine bodyPost_ret (v := .tuple #[.agg (gridV R C A' n k').toArray, .bool true]) ?_ rfl ?_
      · exact results_pair rfl _ _ (w.heap.size + 1 + 1) _ _ _ (.bool true) rfl rfl HB8.out Try.underlying31 rfl (by kernel_rfl)
      · exact HST.out.fin HBA.out HN.out HRD.out (fun ad e => by rcases HNW.out with h | h; exact HAP.out ad (h ▸ e); have := h ad e; omega) (.inr rfl) (by rcases HNW.out with h | h; exact .inl h; exact .inr (fun ad e => by have := h ad e; omega)) HG8.out
  have k5 : (K == 5) = false := by simpa using h5
  have HC := Lib.hid (resize_c b g R C f a d w2 HBA.out)
  clear h0 h1 h2 h3 h4 h5
  go_wp2_with fail
  refine HC.out.mono ?_
  rintro en w3 (⟨hs, rfl, h3, k3⟩ | ⟨R2, D, g2, rfl, rfl, rfl, hg2, h3, k3⟩)
  · have HSZ := Lib.hid hs
    replace HST := Lib.hid (HST.out.below k3)
    replace HBA := Lib.hid h3
    clear c0 c1 c2 o0 o1 o2 o3 o4 o5 o6 o7
    clear h3 k3 hs
    obtain ⟨c0, c1, c2⟩ := boxG HST.out.g0
    obtain ⟨o0, o1, o2, o3, o4, o5, o6, o7⟩ := boxO HST.out.o0
    go_wp2_with fail
    refine (refSize_c a d w3).mono ?_
    rw [HSZ.out]
    rintro en w4 ⟨rfl, rfl⟩
    have HS := Lib.hid HST.out.z0
    go_wp2_with ((with_reducible refine at_store 31 ?_); refine wpList_store_at rfl rfl 31 (.tmp 6) (.tmp 28) rfl (w.heap.size + 1 + 1) 0 rfl _ rfl _ _ HS.out (Nat.le_refl 3) (one_gridV _ _ _ _ _) sizeG ?_; intro w8 hb8 hg8; rw [splice_all _ _ (by rfl)] at hb8; have HB8 := Lib.hid hb8; have HG8 := Lib.hid hg8; clear hb8 hg8)
    refine bodyPost_ret (v := .tuple #[.agg (gridV R C A n k).toArray, .bool true]) ?_ rfl ?_
    · exact results_pair rfl _ _ (w.heap.size + 1 + 1) _ _ _ (.bool true) rfl rfl HB8.out Try.underlying31 rfl (by kernel_rfl)
    · exact HST.out.fin HBA.out HN.out HST.out.rd HAP.out (.inr rfl) (.inl rfl) HG8.out
  · have HSZ : Hid (sizeOk (R2 : Int) (D : Int) = true) := by
      have h1 := h3.rows
      have h2 := h3.cols
      show _ = _
      rw [sizeOk, decide_eq_true_eq]
      omega
    obtain ⟨hr1, hr2⟩ := h3.rows
    obtain ⟨hd1, hd2⟩ := h3.cols
    replace HST := Lib.hid (HST.out.mut (k3.mono fun _ h => .inl h))
    replace HBA := Lib.hid (h3.congr (fun i _ => res_eq))
    have hg2l := h3.glt
    clear c0 c1 c2 o0 o1 o2 o3 o4 o5 o6 o7
    clear h3 k3
    obtain ⟨c0, c1, c2⟩ := boxG HST.out.g0
    obtain ⟨o0, o1, o2, o3, o4, o5, o6, o7⟩ := boxO HST.out.o0
    go_wp2_with fail
    refine (refSize_c R2 D w3).mono ?_
    rw [HSZ.out]
    rintro en w4 ⟨rfl, rfl⟩
    go_wp2_with fail
    refine (refResize_c R C A n k f R2 D (R2 * D) w3 HST.out.rd HN.out hR2 hC2 rfl hr2 hd2 hd1).mono ?_
    rintro en w5 ⟨A', k', rfl, h5⟩
    have HNW := Lib.hid h5.new
    have HRD := Lib.hid h5.read
    have hl4 := HST.out.z0.lt
    have hs4 := HST.out.chg.size
    replace HST := Lib.hid (HST.out.below h5.bel)
    replace HBA := Lib.hid (HBA.out.below h5.bel)
    clear c0 c1 c2 o0 o1 o2 o3 o4 o5 o6 o7
    clear h5
    have HS := Lib.hid HST.out.z0
    go_wp2_with ((with_reducible refine at_store 31 ?_); refine wpList_store_at rfl rfl 31 (.tmp 6) (.tmp 36) rfl (w.heap.size + 1 + 1) 0 rfl _ rfl _ _ HS.out (Nat.le_refl 3) (one_gridV _ _ _ _ _) sizeG ?_; intro w8 hb8 hg8; rw [splice_all _ _ (by rfl)] at hb8; have HB8 := Lib.hid hb8; have HG8 := Lib.hid hg8; clear hb8 hg8)
    refine bodyPost_ret (v := .tuple #[.agg (gridV R2 D A' (R2 * D) k').toArray, .bool true]) ?_ rfl ?_
    · exact results_pair rfl _ _ (w.heap.size + 1 + 1) _ _ _ (.bool true) rfl rfl HB8.out Try.underlying31 rfl (by kernel_rfl)
    · exact HST.out.fin HBA.out rfl HRD.out (fun ad e => by have := HNW.out ad e; omega) (.inl (by omega)) (.inr (fun ad e => by have := HNW.out ad e; omega)) HG8.out
end Go.Proofs.Ytgmfmhlboehdoaa
