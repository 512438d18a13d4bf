/- What a board's Resize of package grid does, as a walk through the translated text. Conditions: the board lies in memory of its own. -/
import Derived.Test.YtgmfmhlboehdoaaGrid10
namespace Go.Proofs.Ytgmfmhlboehdoaa
open Go.ChangeShapes Go.WideShapes Go.RowKit
theorem row_iff {C i j k : Nat} (hC : 0 < C) (hk : k ≤ C) : (j * C ≤ i ∧ i < j * C + k) ↔ (i / C = j ∧ i % C < k) := by
  have e := Nat.div_add_mod i C
  have hm := Nat.mod_lt i hC
  rw [Nat.mul_comm] at e
  constructor
  · rintro ⟨h1, h2⟩
    have hq : i / C = j := Nat.div_eq_of_lt_le h1 (by rw [Nat.add_mul]; omega)
    rw [hq] at e
    exact ⟨hq, by omega⟩
  · rintro ⟨h1, h2⟩
    rw [h1] at e
    omega
/-- The first j rows of a board of C columns, laid into one of D columns. -/
def resF (j C D : Nat) (f : Nat → CellV) : Nat → CellV := fun i => if i / D < j ∧ i % D < C then f (i / D * C + i % D) else blankV
theorem resF_zero (C D : Nat) (f : Nat → CellV) (i : Nat) : blankV = resF 0 C D f i := by rw [resF, if_neg (fun h => absurd h.1 (Nat.not_lt_zero _))]
theorem resF_succ {j C D k : Nat} {f : Nat → CellV} (hD : 0 < D) (hk : k = min C D) (i : Nat) : (if j * D ≤ i ∧ i < j * D + k then f (j * C + (i - j * D)) else resF j C D f i) = resF (j + 1) C D f i := by
  have hm := Nat.mod_lt i hD
  have e := Nat.div_add_mod i D
  rw [Nat.mul_comm] at e
  by_cases h : j * D ≤ i ∧ i < j * D + k
  · rw [if_pos h]
    obtain ⟨h1, h2⟩ := (row_iff hD (by omega)).1 h
    rw [resF, if_pos ⟨by omega, by omega⟩, h1]
    rw [h1] at e
    congr 1; omega
  · rw [if_neg h]
    have h2 : ¬ (i / D = j ∧ i % D < k) := fun h3 => h ((row_iff hD (by omega)).2 h3)
    unfold resF
    by_cases h3 : i / D < j ∧ i % D < C
    · rw [if_pos h3, if_pos ⟨by omega, h3.2⟩]
    · rw [if_neg h3, if_neg (by omega)]
theorem resF_ok {N R C j D : Nat} {f : Nat → CellV} (hj : j ≤ R) (h : ∀ i, i < R * C → okC (f i) = true) : ∀ i, i < N → okC (resF j C D f i) = true := by
  intro i _
  unfold resF
  split
  · rename_i h1
    exact h _ (place_lt (by omega) h1.2)
  · exact okC_blank
theorem resF_all {R R' C D i : Nat} {f : Nat → CellV} (hi : i < R' * D) : resF (min R' R) C D f i = resF R C D f i := by
  have h : i / D < R' := Nat.div_lt_of_lt_mul (by rw [Nat.mul_comm]; exact hi)
  unfold resF
  by_cases h1 : i / D < R ∧ i % D < C
  · rw [if_pos h1, if_pos ⟨by omega, h1.2⟩]
  · rw [if_neg h1, if_neg (by omega)]
/-- The loop's. -/
structure Res (w wr : World) (b g R C b2 g2 R2 D j : Nat) (f : Nat → CellV) : Prop where
  old : BAt wr b g R C f
  new : BAt wr b2 g2 R2 D (resF j C D f)
  bel : Below w.heap.size w wr
  b2 : w.heap.size ≤ b2
  g2 : w.heap.size ≤ g2
def ResizePost (w : World) (b g R C : Nat) (f : Nat → CellV) (r c : Int) (en : Ending) (w' : World) : Prop :=
  (sizeOk r c = false ∧ en = .returned (.int .i64 22) ∧ BAt w' b g R C f ∧ Below w.heap.size w w') ∨
  (∃ R2 D g2 : Nat, r = R2 ∧ c = D ∧ en = .returned (.int .i64 0) ∧ w.heap.size ≤ g2 ∧ BAt w' b g2 R2 D (resF R C D f) ∧ Chg (fun i => i = b) w w')
set_option maxHeartbeats 1600000 in
theorem resize_c (b g R C : Nat) (f : Nat → CellV) (r c : Int) (w : World) (h : BAt w b g R C f) :
    Calls Try.prog 36 #[.pointer (some ⟨b, 0, none⟩), .int .i64 r, .int .i64 c] w (ResizePost w b g R C f r c) := by
  have H := Lib.hid h
  have hz : b < w.heap.size := h.blt
  have hz2 : g < w.heap.size := h.glt
  clear h
  go_enter Try.func36, Try.ntmps36
  go_wp2_with fail
  refine (new_c r c w).mono ?_
  rintro en w1 (⟨hs, rfl, hb1⟩ | ⟨R2, D, b2, g2, rfl, rfl, rfl, hn1⟩)
  · have HS := Lib.hid hs
    have HB := Lib.hid hb1
    clear hs hb1
    go_wp2
    go_ret
    exact .inl ⟨HS.out, rfl, H.out.below HB.out, HB.out⟩
  · have hR := Lib.hid (show Res w w1 b g R C b2 g2 R2 D 0 f from ⟨H.out.below hn1.bel, (hn1.at_.turn (Chg.refl _ _) (hn1.at_.row.congr fun i _ => resF_zero C D f i) (resF_ok (Nat.zero_le R) H.out.ok)), hn1.bel, hn1.nb, hn1.ng⟩)
    obtain ⟨hr1, hr2⟩ := hn1.at_.rows
    obtain ⟨hd1, hd2⟩ := hn1.at_.cols
    obtain ⟨ho1, ho2⟩ := H.out.rows
    obtain ⟨hc1, hc2⟩ := H.out.cols
    obtain ⟨cap, _, _, c0, c1, c2⟩ := hR.out.old.three
    clear hn1
    obtain ⟨K, hK⟩ : ∃ K, Hid (min R2 R = K) := ⟨_, Lib.hid rfl⟩
    have e1 : min (R2 : Int) (R : Int) = (K : Int) := by have := hK.out; omega
    have hK1 : K ≤ R2 := by have := hK.out; omega
    have hK2 : K ≤ R := by have := hK.out; omega
    go_wp2
    clear e1 c0 c1 c2
    go_loopw [26] (fun i wr => ∃ j : Nat, j ≤ K ∧ i = .int .i64 j ∧ Hid (Res w wr b g R C b2 g2 R2 D j f)) (fun i _ => K - (intOf i).toNat)
    case atStart => exact ⟨0, Nat.zero_le _, rfl, hR⟩
    case round =>
      obtain ⟨j, hj, rfl, hM⟩ := hrel
      by_cases hlt : j < K
      · have hlt2 : (j : Int) < (K : Int) := by omega
        obtain ⟨k, hk⟩ : ∃ k, Hid (k = min C D) := ⟨_, Lib.hid rfl⟩
        have hkC : k ≤ C := by have := hk.out; omega
        have hkD : k ≤ D := by have := hk.out; omega
        go_wp2_with fail
        refine (line_c b2 g2 R2 D _ j wr hM.out.new (by omega)).mono ?_
        rintro en w3 ⟨cc, rfl, h1, h2, k1, rfl⟩
        go_wp2_with fail
        refine (line_c b g R C f j _ (hM.out.old.of_heap (w' := wr.drewN k1) rfl) (by omega)).mono ?_
        rintro en w3 ⟨cd, rfl, h3, h4, k2, rfl⟩
        have hrow := hM.out.new.row.of_heap (w' := wr.drewN (k1 + k2)) rfl
        have hsrc := (hM.out.old.row.of_heap (w' := wr.drewN (k1 + k2)) rfl).reads (j * C) k cd (by have := row_le (C := C) (show j < R by omega); omega) (by omega) h4 (A := some ⟨g, j * C * 4, none⟩) (fun _ => rfl)
        have HRow := Lib.hid hrow
        have HSrc := Lib.hid hsrc
        have hkm : Hid (k = Nat.min C D) := hk
        clear hrow hsrc
        go_wp2_with ((with_reducible refine at_copy ?_); refine wpList_copyK rfl (.tmp 31) (.tmp 34) 29 29 rfl 38 Try.underlying29 sizeC (some ⟨g2, j * D * 4, none⟩) (some ⟨g, j * C * 4, none⟩) D cc C cd k rfl rfl hkm.out g2 (j * D) (R2 * D) 38 _ _ HRow.out (by have := row_le (C := D) (show j < R2 by omega); omega) (fun _ => rfl) HSrc.out ?_; intro w4 hb4 hg4; have HB4 := Lib.hid hb4; have HG4 := Lib.hid hg4; clear hb4 hg4)
        go_roundw
        case rel =>
          have hbw : Below w.heap.size w (wr.drewN (k1 + k2)) := belowDrewN hM.out.bel _
          have hg2 := hM.out.g2
          have hb2 := hM.out.b2
          have hch : Chg (fun i => i = g2) wr w4 := (Chg.of_below (belowDrewN (Below.refl _ _) _)).trans' (Chg.of_only HG4.out (fun i hi => (Option.some.inj hi).symm))
          refine ⟨j + 1, by omega, by go_num, hM.out.old.chg hch (by omega) (by omega), hM.out.new.turn hch (HB4.out.congr fun i _ => resF_succ (by omega) hk.out i) (resF_ok (show j + 1 ≤ R by omega) H.out.ok), hbw.grown HG4.out hM.out.bel.size (fun x hx => by cases hx; exact hg2), hb2, hg2⟩
        case measure => simp [intOf]; omega
      · obtain rfl : j = K := by omega
        obtain ⟨cap2, hb2, hcp1, hcp2⟩ := hM.out.new.box
        obtain ⟨cap1, hb1, _, _⟩ := hM.out.old.box
        have HB2 := Lib.hid hb2
        have HB1 := Lib.hid hb1
        clear hb1 hb2
        obtain ⟨N, hN⟩ : ∃ N, Hid (R2 * D = N) := ⟨_, Lib.hid rfl⟩
        rw [hN.out] at HB2 hcp1
        have d0 : wr.cell? ⟨b2, 0, none⟩ = some (.int .i64 R2) := HB2.out.cell 0
        have d1 : wr.cell? ⟨b2, 1, none⟩ = some (.int .i64 D) := HB2.out.cell 1
        have d2 : wr.cell? ⟨b2, 2, none⟩ = some (.slice (some ⟨g2, 0, none⟩) N cap2) := HB2.out.cell 2
        go_wp2_with ((with_reducible refine at_store 31 ?_); refine wpList_store_at rfl rfl 31 (.tmp 43) (.tmp 41) rfl b 0 rfl (gridV R2 D (some ⟨g2, 0, none⟩) N cap2) rfl _ _ HB1.out (Nat.le_refl 3) (one_gridV _ _ _ _ _) sizeG ?_; intro w4 hb5 hg5; rw [splice_all _ _ (by rfl)] at hb5; have HB5 := Lib.hid hb5; have HG5 := Lib.hid hg5; clear hb5 hg5)
        go_ret
        have hg2 := hM.out.g2
        have hch : Chg (fun i => i = b) wr w4 := Chg.of_only HG5.out (fun i hi => (Option.some.inj hi).symm)
        have hb := HB5.out
        rw [← hN.out] at hb hcp1
        refine .inr ⟨R2, D, g2, rfl, rfl, rfl, hg2, ⟨⟨cap2, hb, hcp1, hcp2⟩, (hM.out.new.row.chg hch (by omega)).congr (fun i hi => ?_), by omega, hM.out.new.rows, hM.out.new.cols, resF_ok (Nat.le_refl R) H.out.ok⟩, (Chg.of_below hM.out.bel).trans' hch⟩
        rw [← hK.out]
        exact resF_all hi
end Go.Proofs.Ytgmfmhlboehdoaa
