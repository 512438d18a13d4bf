/- What a board's Row and At of package grid do, as walks through the translated text. Conditions: the board lies in memory of its own. -/
import Derived.Test.YtgmfmhlboehdoaaGrid6
namespace Go.Proofs.Ytgmfmhlboehdoaa
open Go.ChangeShapes Go.WideShapes Go.RowKit
theorem has_parts {R C : Nat} {r c : Int} (h : hasB R C r c = true) : ∃ q p : Nat, r = q ∧ c = p ∧ q < R ∧ p < C := by
  have h1 := of_decide_eq_true h
  exact ⟨r.toNat, c.toNat, by omega, by omega, by omega, by omega⟩
theorem place_lt {R C q p : Nat} (h1 : q < R) (h2 : p < C) : q * C + p < R * C := by
  have h3 : (q + 1) * C ≤ R * C := Nat.mul_le_mul_right _ (by omega)
  rw [Nat.add_mul, Nat.one_mul] at h3
  omega
theorem row_le {R C q : Nat} (h1 : q < R) : q * C + C ≤ R * C := by
  have h3 : (q + 1) * C ≤ R * C := Nat.mul_le_mul_right _ (by omega)
  rw [Nat.add_mul, Nat.one_mul] at h3
  omega
def GRowPost (w : World) (R C : Nat) (f : Nat → CellV) (r : Int) (en : Ending) (w' : World) : Prop :=
  (hasB R C r 0 = false ∧ en = .returned (.slice none 0 0) ∧ w = w') ∨ (∃ q : Nat, r = q ∧ q < R ∧ ClonePost w C (fun i => f (q * C + i)) en w')
set_option maxHeartbeats 1600000 in
theorem row_c (b g R C : Nat) (f : Nat → CellV) (r : Int) (w : World) (h : BAt w b g R C f) : Calls Try.prog 19 #[.pointer (some ⟨b, 0, none⟩), .int .i64 r] w (GRowPost w R C f r) := by
  have HH := Lib.hid (has_c b g R C f r 0 w h)
  obtain ⟨hc1, hc2⟩ := h.cols
  have H := Lib.hid h
  clear h
  cases hB : hasB R C r 0 with
  | false =>
    rw [hB] at HH
    have HB := Lib.hid hB
    clear hB
    go_enter Try.func19, Try.ntmps19
    go_wp2_with fail
    refine HH.out.mono ?_
    rintro en w1 ⟨rfl, rfl⟩
    go_wp2
    go_ret
    exact .inl ⟨HB.out, rfl, rfl⟩
  | true =>
    rw [hB] at HH
    obtain ⟨q, p, hr, hp, hq, hp2⟩ := has_parts hB
    subst hr
    clear hB hp hp2 p
    go_enter Try.func19, Try.ntmps19
    go_wp2_with fail
    refine HH.out.mono ?_
    rintro en w1 ⟨rfl, rfl⟩
    go_wp2_with fail
    refine (line_c b g R C f q w H.out hq).mono ?_
    rintro en w1 ⟨cc, rfl, h1, h2, k, rfl⟩
    have hr := (H.out.row.of_heap (w' := w.drewN k) rfl).reads (q * C) C cc (row_le hq) h1 h2 (A := some ⟨g, q * C * 4, none⟩) (fun _ => rfl)
    have HR := Lib.hid hr
    clear hr
    go_wp2_with fail
    refine (clone_c _ C cc _ _ HR.out hc1 (by omega)).mono ?_
    rintro en w2 ⟨g2, cap2, rfl, hn2⟩
    have HN2 := Lib.hid hn2
    clear hn2
    go_wp2
    go_ret
    have hn := HN2.out
    exact .inr ⟨q, rfl, hq, g2, cap2, rfl, hn.new, hn.room, hn.cap, hn.row, (belowDrewN (Below.refl _ _) _).trans (hn.bel.mono (Nat.le_refl _))⟩
set_option maxHeartbeats 1600000 in
theorem at_c (b g R C : Nat) (f : Nat → CellV) (r c : Int) (w : World) (h : BAt w b g R C f) : Calls Try.prog 20 #[.pointer (some ⟨b, 0, none⟩), .int .i64 r, .int .i64 c] w fun en w' => en = .returned (.agg (cellV (if hasB R C r c then f (r.toNat * C + c.toNat) else (0, 0, 0, 0))).toArray) ∧ Below w.heap.size w w' := by
  have H := Lib.hid h
  have hblt := h.blt
  clear h
  cases hB : hasB R C r c with
  | false =>
    rw [if_neg (by decide)]
    have HB := Lib.hid hB
    clear hB
    go_enter Try.func20, Try.ntmps20
    go_upto_region 1 with (fail)
    refine name_wp (fun w1 => Blk w1 w.heap.size 38 (cellV (0, 0, 0, 0)) ∧ Below w.heap.size w w1) ⟨Blk.new _ _ _, alloc_below' _ _⟩ ?_
    rintro w1 ⟨hb1, hbel1⟩
    have HBel := Lib.hid hbel1
    have HB1 := Lib.hid hb1
    have H1 := Lib.hid (has_c b g R C f r c w1 (H.out.below hbel1))
    rw [HB.out] at H1
    clear hb1 hbel1
    go_wp2_with fail
    refine H1.out.mono ?_
    rintro en w2 ⟨rfl, rfl⟩
    go_wp2_with ((with_reducible refine at_store 38 ?_); refine wpList_store_at rfl rfl 38 (.tmp 6) (.tmp 12) rfl w.heap.size 0 rfl (cellV (0, 0, 0, 0)) rfl _ _ HB1.out (Nat.le_refl 4) (one_cellV _) sizeC ?_; intro w4 hb5 hg5; rw [splice_all _ _ (by rfl)] at hb5; have HB5 := Lib.hid hb5; have HG5 := Lib.hid hg5; clear hb5 hg5)
    refine bodyPost_ret (v := .agg (cellV (0, 0, 0, 0)).toArray) ?_ rfl ⟨rfl, HBel.out.grown HG5.out HBel.out.size (fun x hx => by cases hx; exact Nat.le_refl _)⟩
    exact results_cell_row rfl _ _ w.heap.size _ _ _ _ rfl HB5.out Try.underlying38 rfl (by kernel_rfl)
  | true =>
    rw [if_pos rfl]
    obtain ⟨q, p, rfl, rfl, hq, hp⟩ := has_parts hB
    have HB := Lib.hid hB
    clear hB
    obtain ⟨x, HX⟩ : ∃ x, Hid (f (q * C + p) = x) := ⟨_, rfl⟩
    rw [show (q : Int).toNat = q from rfl, show (p : Int).toNat = p from rfl, HX.out]
    have hp2 : (p : Int) < (C : Int) := by omega
    have hp0 : (0 : Int) ≤ (p : Int) := by omega
    go_enter Try.func20, Try.ntmps20
    go_upto_region 1 with (fail)
    refine name_wp (fun w1 => Blk w1 w.heap.size 38 (cellV (0, 0, 0, 0)) ∧ Below w.heap.size w w1) ⟨Blk.new _ _ _, alloc_below' _ _⟩ ?_
    rintro w1 ⟨hb1, hbel1⟩
    have HBel := Lib.hid hbel1
    have HB1 := Lib.hid hb1
    have HB1' := Lib.hid (H.out.below hbel1)
    have H1 := Lib.hid (has_c b g R C f q p w1 (H.out.below hbel1))
    rw [HB.out] at H1
    clear hb1 hbel1
    go_wp2_with fail
    refine H1.out.mono ?_
    rintro en w2 ⟨rfl, rfl⟩
    go_wp2_with fail
    refine (line_c b g R C f q w1 HB1'.out hq).mono ?_
    rintro en w2 ⟨cc, rfl, h1, h2, k, rfl⟩
    obtain ⟨a0, a1, a2, a3⟩ := HB1'.out.row.four (q * C + p) (place_lt hq hp)
    have HBk := Lib.hid (HB1.out.drewN k)
    rw [HX.out] at a0 a1 a2 a3
    have eo : (q * C + p) * 4 = q * C * 4 + p * 4 := by rw [Nat.add_mul]
    rw [eo] at a0 a1 a2 a3
    clear eo
    replace a0 : (w1.drewN k).cell? _ = _ := a0
    replace a1 : (w1.drewN k).cell? _ = _ := a1
    replace a2 : (w1.drewN k).cell? _ = _ := a2
    replace a3 : (w1.drewN k).cell? _ = _ := a3
    go_wp2_with ((with_reducible refine at_store 38 ?_); refine wpList_store_at rfl rfl 38 (.tmp 6) (.tmp 18) rfl w.heap.size 0 rfl (cellV x) rfl _ _ HBk.out (Nat.le_refl 4) (one_cellV _) sizeC ?_; intro w4 hb5 hg5; rw [splice_all _ _ (by rfl)] at hb5; have HB5 := Lib.hid hb5; have HG5 := Lib.hid hg5; clear hb5 hg5)
    refine bodyPost_ret (v := .agg (cellV x).toArray) ?_ rfl ?_
    · exact results_cell_row rfl _ _ w.heap.size _ _ _ _ rfl HB5.out Try.underlying38 rfl (by kernel_rfl)
    · exact ⟨rfl, (belowDrewN HBel.out k).grown HG5.out HBel.out.size (fun x hx => by cases hx; exact Nat.le_refl _)⟩
end Go.Proofs.Ytgmfmhlboehdoaa
