/- The statements of layer 10 begin with the chapter's example: awake answers true. Conditions: none. -/
import Derived.Test.YtgmfmhlboehdoaaGrid9
import Derived.Test.YtgmfmhlboehdoaaGridR1
namespace Go.Proofs.Ytgmfmhlboehdoaa
open Go.ChangeShapes Go.WideShapes Go.RowKit
theorem put_t (b g R C : Nat) (f : Nat → CellV) (r c : Int) (y : CellV) (w : World) (h : BAt w b g R C f) (ht : (hasB R C r c && okC y) = true) :
    Calls Try.prog 24 #[.pointer (some ⟨b, 0, none⟩), .int .i64 r, .int .i64 c, .agg (cellV y).toArray] w fun en w' => en = .returned (.int .i64 0) ∧ BAt w' b g R C (putF C r.toNat c.toNat y f) ∧ Chg (fun i => i = g) w w' := by
  refine (put_c b g R C f r c y w h).mono ?_
  rintro en w' ⟨e, h1, h2⟩
  rw [if_pos ht] at h1 e
  exact ⟨e, h1, h2⟩
theorem up_t (b g R C : Nat) (f : Nat → CellV) (r c n : Int) (y : CellV) (w : World) (h : BAt w b g R C f) (ht : (spansB R r c && movesB n y) = true) :
    Calls Try.prog 25 #[.pointer (some ⟨b, 0, none⟩), .int .i64 r, .int .i64 c, .int .i64 n, .agg (cellV y).toArray] w (MPost w b g R C (upF C r.toNat c.toNat (min n.toNat (c.toNat + 1 - r.toNat)) y f)) := by
  refine (up_c b g R C f r c n y w h).mono ?_
  rintro en w' ⟨e, h1, h2⟩
  rw [if_pos ht] at h1
  exact ⟨e, h1, h2⟩
def awakeF : Nat → CellV := upF 1 0 1 1 blankV (putF 1 2 0 (99, 0, 0, 0) (putF 1 1 0 (98, 0, 0, 0) (putF 1 0 0 (97, 0, 0, 0) fun _ => blankV)))
set_option maxRecDepth 100000 in
set_option maxHeartbeats 3200000 in
theorem awake10_c (w : World) : Calls Try.prog 6 #[] w fun en w' => en = .returned (.bool true) ∧ Below w.heap.size w w' := by
  go_enter Try.func6, Try.ntmps6
  go_wp2_with fail
  refine (new_c 3 1 w).mono ?_
  rintro en w1 (⟨hs, _⟩ | ⟨R, C, b, g, hR, hC, rfl, hn1⟩)
  · exact absurd hs (by decide)
  obtain rfl : R = 3 := by omega
  obtain rfl : C = 1 := by omega
  have H1 := Lib.hid hn1.at_
  have hg := hn1.ng
  have hb := hn1.nb
  have HB1 := Lib.hid hn1.bel
  clear hn1 hR hC
  go_wp2_with fail
  refine (put_t b g 3 1 _ 0 0 (97, 0, 0, 0) w1 H1.out (by decide)).mono ?_
  rintro en w2 ⟨rfl, h2, k2⟩
  have H2 := Lib.hid h2
  have HB2 := Lib.hid (k2.below HB1.out HB1.out.size (fun i hi => by omega))
  clear h2 k2 H1 HB1
  go_wp2_with fail
  refine (put_t b g 3 1 _ 1 0 (98, 0, 0, 0) w2 H2.out (by decide)).mono ?_
  rintro en w3 ⟨rfl, h3, k3⟩
  have H3 := Lib.hid h3
  have HB3 := Lib.hid (k3.below HB2.out HB2.out.size (fun i hi => by omega))
  clear h3 k3 H2 HB2
  go_wp2_with fail
  refine (put_t b g 3 1 _ 2 0 (99, 0, 0, 0) w3 H3.out (by decide)).mono ?_
  rintro en w4 ⟨rfl, h4, k4⟩
  have H4 := Lib.hid h4
  have HB4 := Lib.hid (k4.below HB3.out HB3.out.size (fun i hi => by omega))
  clear h4 k4 H3 HB3
  go_wp2_with fail
  refine (refBlank_c w4).mono ?_
  rintro en w5 ⟨rfl, hb5⟩
  have H5 := Lib.hid (H4.out.below hb5)
  have HB5 := Lib.hid (HB4.out.trans (hb5.mono HB4.out.size))
  clear hb5 H4 HB4
  go_wp2_with fail
  refine (up_t b g 3 1 _ 0 1 1 blankV w5 H5.out (by decide)).mono ?_
  rintro en w6 ⟨⟨v, rfl⟩, h6, k6⟩
  have H6 : Hid (BAt w6 b g 3 1 awakeF) := h6
  have HB6 := Lib.hid (k6.below HB5.out HB5.out.size (fun i hi => by omega))
  clear h6 k6 H5 HB5
  go_wp2_with fail
  refine (grid_c b g 3 1 awakeF w6 H6.out).mono ?_
  rintro en w7 ⟨g2, cap, rfl, hn7⟩
  have HN7 := Lib.hid hn7
  have HB7 := Lib.hid (HB6.out.trans (hn7.bel.mono HB6.out.size))
  clear hn7
  go_wp2_with ((with_reducible refine at_store 31 ?_); refine wpList_store_at rfl rfl 31 (.tmp 3) (.tmp 27) rfl w7.heap.size 0 rfl _ rfl _ _ (Blk.new w7 31 (gridV 0 0 none 0 0)) (Nat.le_refl 3) (one_gridV _ _ _ _ _) sizeG ?_; intro w8 hb8 hg8; rw [splice_all _ _ (by rfl)] at hb8; obtain ⟨c0, c1, c2⟩ := boxG hb8; have hrow := (HN7.out.row.below (alloc_below' w7 _)).chg (Chg.of_only (F := fun i => i = w7.heap.size) hg8 (fun i hi => (Option.some.inj hi).symm)) (Nat.ne_of_lt HN7.out.row.lt); obtain ⟨x0, _, _, _⟩ := hrow.four 0 (by decide); obtain ⟨x1, _, _, _⟩ := hrow.four 1 (by decide); obtain ⟨x2, _, _, _⟩ := hrow.four 2 (by decide); have HB8 := Lib.hid ((HB7.out.alloc HB7.out.size _).grown hg8 (by have := HB7.out.size; simp; omega) (fun x hx => by cases hx; exact HB7.out.size)); rw [show awakeF 0 = (98, 0, 0, 0) by decide] at x0; rw [show awakeF 1 = (32, 0, 0, 0) by decide] at x1; rw [show awakeF 2 = (99, 0, 0, 0) by decide] at x2; clear hb8 hg8 hrow)
  go_ret
  exact ⟨rfl, HB8.out⟩
end Go.Proofs.Ytgmfmhlboehdoaa
