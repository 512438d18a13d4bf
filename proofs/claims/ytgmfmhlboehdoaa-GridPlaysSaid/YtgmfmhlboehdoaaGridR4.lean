/- What the reference's Fill of package grid returns, as a walk through the translated text. Conditions: slices read as lists of cells, grids of at most 60 rows and 132 columns. -/
import Derived.Test.YtgmfmhlboehdoaaGridR3
namespace Go.Proofs.Ytgmfmhlboehdoaa
open Go.ChangeShapes Go.WideShapes Go.RowKit
/-- What the reference lays at row r, column m (place i) of a grid of which places of one row are filled. -/
def filledV (f : Nat → CellV) (row fr to : Int) (y : CellV) (i r m : Nat) : CellV := if (r : Int) = row ∧ fr ≤ (m : Int) ∧ (m : Int) < to then y else f i
def filledF (C : Nat) (f : Nat → CellV) (row fr to : Int) (y : CellV) : Nat → CellV := fun i => filledV f row fr to y i (i / C) (i % C)
set_option maxRecDepth 100000 in
set_option maxHeartbeats 6400000 in
theorem refFill_c (R C : Nat) (A : Option Addr) (n k : Nat) (f : Nat → CellV) (row fr to : Int) (y : CellV) (w : World) (hr : ReadsS cellV 4 w A n k (tab n f)) (hn : n = R * C) (hR : R ≤ 60) (hC : C ≤ 132) (hC1 : 1 ≤ C) :
    Calls Try.prog 56 #[.agg (gridV R C A n k).toArray, .int .i64 row, .int .i64 fr, .int .i64 to, .agg (cellV y).toArray] w (RefPost w R C n (filledF C f row fr to y)) := by
  obtain ⟨i0, hi, hz0, hz1, hz2⟩ := info_parts infoC
  have hnb : n ≤ 60 * 132 := by rw [hn]; exact Nat.mul_le_mul hR hC
  have HR := Lib.hid hr
  have HN := Lib.hid hn
  clear hr hn
  simp only [gridV_list, cellV]
  go_enter Try.func56, Try.ntmps56
  go_upto_region 2 with (fail)
  refine name_wp (fun w1 => Blk w1 w.heap.size 31 (gridV R C A n k) ∧ Blk w1 (w.heap.size + 1) 38 (cellV y) ∧ Blk w1 (w.heap.size + 1 + 1) 31 (gridV 0 0 none 0 0) ∧ Out w1 w1 (w.heap.size + 1 + 1 + 1) R C (.slice none 0 0) [] ∧ Below w.heap.size w w1) ⟨(((Blk.new _ _ _).alloc _).alloc _).alloc _, ((newAt _ _ (by simp)).alloc _).alloc _, (newAt _ _ (by simp)).alloc _, ⟨Below.refl _ _, newAt _ [.int .i64 R, .int .i64 C, .slice none 0 0] (by simp), World.ownsRow_nil _ _ _ _⟩, (((alloc_below' _ _).alloc (by simp) _).alloc (by simp; omega) _).alloc (by simp; omega) _⟩ ?_
  rintro w1 ⟨hb0, hb1, hb2, hO1, hbel1⟩
  have HG := Lib.hid hb0
  have HY := Lib.hid hb1
  have HRs := Lib.hid hb2
  have HO1 := Lib.hid hO1
  have HBel := Lib.hid hbel1
  have hzlt := hO1.box.lt
  clear hb0 hb1 hb2 hO1 hbel1
  go_wp2
  have hCn : ¬ C = 0 := by omega
  have hCp : (0 : Int) < (C : Int) := by omega
  go_loopw [12] (fun i wr => ∃ (j : Nat) (v : Value), j ≤ n ∧ i = .int .i64 j ∧ Hid (Out w1 wr (w.heap.size + 1 + 1 + 1) R C v (tab j (filledF C f row fr to y)))) (fun i _ => n - (intOf i).toNat)
  case atStart => exact ⟨0, _, Nat.zero_le _, rfl, HO1⟩
  case round =>
    obtain ⟨j, vv, hj, rfl, hM⟩ := hrel
    have HGr := hM.out.old HG.out (by omega)
    obtain ⟨c0, c1, c2⟩ := boxG HGr
    clear HGr
    by_cases hlt : j < n
    · have hlt2 : (j : Int) < (n : Int) := by omega
      have hj0 : (0 : Int) ≤ (j : Int) := by omega
      obtain ⟨l, hl⟩ : ∃ l, Hid (tab j (filledF C f row fr to y) = l) := ⟨_, rfl⟩
      have HLEN : Hid (l.length ≤ 1099511627776) := by show _ ≤ _; rw [← hl.out, length_tab]; omega
      rw [hl.out] at hM
      obtain ⟨r, hr⟩ : ∃ r, Hid (j / C = r) := ⟨_, Lib.hid rfl⟩
      obtain ⟨m, hm⟩ : ∃ m, Hid (j % C = m) := ⟨_, Lib.hid rfl⟩
      have hrb : r ≤ j := by rw [← hr.out]; exact Nat.div_le_self _ _
      have HV : Hid (filledF C f row fr to y j = filledV f row fr to y j r m) := by show _ = _; rw [filledF, hr.out, hm.out]
      obtain ⟨X, HX⟩ : ∃ X, Hid (f j = X) := ⟨_, rfl⟩
      have hrd := (hM.out.reads HBel.out (by omega) HR.out)
      obtain ⟨ad, rfl, _, hca⟩ := hrd.cell j (by rw [length_tab]; exact hlt)
      rw [tab_get, HX.out] at hca
      obtain ⟨b0, b1, b2, b3⟩ := four hca
      clear hrd hca
      go_upto_region 6 with (fail)
      refine name_wp (fun W => Below wr.heap.size wr W ∧ Blk W wr.heap.size 38 (cellV X)) ⟨alloc_below' _ _, Blk.new _ _ _⟩ ?_
      rintro W ⟨hbW, hX⟩
      have HM0 := hM
      have HXB := Lib.hid hX
      have hzx : w.heap.size + 1 + 1 + 1 < wr.heap.size := hM.out.box.lt
      have HRS := Lib.hid hbW
      have HOW0 := Lib.hid (hM.out.below hbW)
      clear c0 c1 c2 b0 b1 b2 b3 hX hbW hM
      obtain ⟨c0, c1, c2⟩ := boxG (HOW0.out.old HG.out (by omega))
      have q1 : (j : Int).tdiv (C : Int) = (r : Int) := by rw [Int.tdiv_eq_ediv_of_nonneg (by omega), ← hr.out]; rfl
      have q2 : (j : Int) / (C : Int) = (r : Int) := by rw [← hr.out]; rfl
      have m1 : (j : Int).tmod (C : Int) = (m : Int) := by rw [Int.tmod_eq_emod_of_nonneg (by omega), ← hm.out]; rfl
      have m2 : (j : Int) % (C : Int) = (m : Int) := by rw [← hm.out]; rfl
      have e3 : IntKind.i64.wrap (r : Int) = (r : Int) := by rw [IntKind.wrap_i64]; omega
      obtain ⟨len, hlenE⟩ : ∃ len, Hid (l.length = len) := ⟨_, Lib.hid rfl⟩
      have hlenB : len ≤ 1099511627776 := by rw [← hlenE.out]; exact HLEN.out
      by_cases h1 : (r : Int) = row ∧ fr ≤ (m : Int) ∧ (m : Int) < to
      · have HXF : Hid (filledF C f row fr to y j = y) := by show _ = _; rw [HV.out, filledV, if_pos h1]
        obtain ⟨g1, g2, g3⟩ := h1
        have g4 : ((r : Int) == row) = true := by simpa using g1
        have G1 := Lib.hid g1
        clear g1
        obtain ⟨a0, a1, a2, a3⟩ := fourB' (HOW0.out.old HY.out (by omega))
        go_wp2_with (first
          | ((with_reducible refine at_store 38 ?_); refine wpList_store_at rfl rfl 38 (.tmp 13) (.tmp 53) rfl wr.heap.size 0 rfl (cellV y) rfl _ _ HXB.out (Nat.le_refl 4) (one_cellV _) sizeC ?_; intro w5 hb5 hg5; rw [splice_all _ _ (by rfl)] at hb5; have HOW := Lib.hid (HM0.out.below (HRS.out.grown hg5 HRS.out.size (fun x hx => by cases hx; exact Nat.le_refl _))); obtain ⟨b0, b1, b2, b3⟩ := fourB' hb5; have d2 : w5.cell? ⟨w.heap.size + 1 + 1 + 1, 2, none⟩ = some vv := HOW.out.box.cell 2; have hown := HOW.out.own; rw [hlenE.out] at hown; have HOWN := Lib.hid hown; have hzW := HOW.out.box.lt; clear hown hb5 hg5 c0 c1 c2 a0 a1 a2 a3)
          | (at_builtin; refine wpList_app1 length_cellV one_cellV (by decide) rfl (.tmp 55) (.tmp 57) 29 rfl (w.heap.size + 1 + 1 + 1 + 1) 38 i0 _ 32 Try.underlying29 hi hz0 hz1 hz2 rfl vv len l rfl (ownK_below HOWN.out (alloc_below' _ _)) y _ 38 rfl (Blk.new _ _ _) (by unfold maxLen; omega) (by omega) (by simp; omega) ?_; intro A1 c1 w6 ho6 hg6 _; obtain ⟨s2, f2⟩ := (HOW.out.below (alloc_below' w5 _)).spot hg6; rw [← hlenE.out] at ho6; have HO6 := Lib.hid ((HOW.out.below (alloc_below' w5 _)).push ho6 hg6); rw [hlenE.out] at HO6; clear ho6 hg6))
        go_roundw
        case rel =>
          refine ⟨j + 1, .slice A1 (len + 1) c1, by omega, by go_num, ?_⟩
          show Out _ _ _ _ _ _ _
          rw [tab_succ, HXF.out, hl.out]
          exact HO6.out
        case measure => simp [intOf]; omega
      · have HXF : Hid (filledF C f row fr to y j = X) := by show _ = _; rw [HV.out, filledV, if_neg h1, HX.out]
        have HALL : Hid (∀ P : Prop, (((r : Int) == row) = false → P) → (((r : Int) == row) = true → decide (fr ≤ (m : Int)) = false → P) → (((r : Int) == row) = true → fr ≤ (m : Int) → decide ((m : Int) < to) = false → P) → P) := by
          intro P a b c
          by_cases h : (r : Int) = row
          · by_cases h2 : fr ≤ (m : Int)
            · exact c (by simpa using h) h2 (by rw [decide_eq_false_iff_not]; exact fun h3 => h1 ⟨h, h2, h3⟩)
            · exact b (by simpa using h) (by simpa using h2)
          · exact a (by simpa using h)
        have HOW := HOW0
        obtain ⟨b0, b1, b2, b3⟩ := fourB' HXB.out
        have d2 : W.cell? ⟨w.heap.size + 1 + 1 + 1, 2, none⟩ = some vv := HOW.out.box.cell 2
        have hown := HOW.out.own
        rw [hlenE.out] at hown
        have HOWN := Lib.hid hown
        have hzW := HOW.out.box.lt
        clear hown h1 HOW0
        refine HALL.out _ (fun h1 => ?_) (fun h1 h2 => ?_) (fun h1 h2 h3 => ?_)
        all_goals
          go_wp2_with (at_builtin; refine wpList_app1 length_cellV one_cellV (by decide) rfl (.tmp 55) (.tmp 57) 29 rfl (w.heap.size + 1 + 1 + 1 + 1) 38 i0 _ 32 Try.underlying29 hi hz0 hz1 hz2 rfl vv len l rfl (ownK_below HOWN.out (alloc_below' _ _)) X _ 38 rfl (Blk.new _ _ _) (by unfold maxLen; omega) (by omega) (by simp; omega) ?_; intro A1 c1 w6 ho6 hg6 _; obtain ⟨s2, f2⟩ := (HOW.out.below (alloc_below' W _)).spot hg6; rw [← hlenE.out] at ho6; have HO6 := Lib.hid ((HOW.out.below (alloc_below' W _)).push ho6 hg6); rw [hlenE.out] at HO6; clear ho6 hg6)
          go_roundw
          case rel =>
            refine ⟨j + 1, .slice A1 (len + 1) c1, by omega, by go_num, ?_⟩
            show Out _ _ _ _ _ _ _
            rw [tab_succ, HXF.out, hl.out]
            exact HO6.out
          case measure => simp [intOf]; omega
    · obtain rfl : j = n := by omega
      have HFin := hM
      clear hM
      obtain ⟨A1, k1, rfl, hrd, hA1⟩ := HFin.out.form
      have HRD := Lib.hid hrd
      have HA1 := Lib.hid hA1
      clear hrd hA1
      have hbx : Blk wr (w.heap.size + 1 + 1 + 1) 31 (gridV R C A1 j k1) := HFin.out.box
      have hbr := HFin.out.old HRs.out (by omega)
      go_upto_region 9 with (fail)
      refine wp_region_lit ?_
      refine wpList_load_at rfl 31 (.tmp 11) rfl ⟨w.heap.size + 1 + 1 + 1, 0, none⟩ rfl _ _ hbx.all Try.underlying31 rfl sizeG ?_
      refine wpList_store_at rfl rfl 31 (.tmp 10) (.tmp 60) rfl (w.heap.size + 1 + 1) 0 rfl _ rfl _ _ hbr (Nat.le_refl 3) (one_gridV _ _ _ _ _) sizeG ?_
      intro w4 hb5 hg5
      rw [splice_all _ _ (by rfl)] at hb5
      have HB5 := Lib.hid hb5
      have HG5 := Lib.hid hg5
      clear hb5 hg5 hbx hbr
      go_wp2
      refine bodyPost_ret (v := .agg (gridV R C A1 j k1).toArray) ?_ rfl ?_
      · exact results_cell_row rfl _ _ (w.heap.size + 1 + 1) _ _ _ _ rfl HB5.out Try.underlying31 rfl (by kernel_rfl)
      · exact ⟨A1, k1, rfl, HFin.out.fin HRD.out HA1.out HBel.out (by omega) (by omega) HG5.out⟩
end Go.Proofs.Ytgmfmhlboehdoaa
