/- What a board's Insert and Delete of package grid do, as walks through the translated text. Conditions: the board lies in memory of its own. -/
import Derived.Test.YtgmfmhlboehdoaaGrid7
namespace Go.Proofs.Ytgmfmhlboehdoaa
open Go.ChangeShapes Go.WideShapes Go.RowKit
def insF (C q p m : Nat) (x : CellV) (f : Nat → CellV) : Nat → CellV := fun i => if q * C + p ≤ i ∧ i < q * C + C then (if q * C + p + m ≤ i then f (i - m) else x) else f i
def delF (C q p m : Nat) (x : CellV) (f : Nat → CellV) : Nat → CellV := fun i => if q * C + p ≤ i ∧ i < q * C + C then (if i + m < q * C + C then f (i + m) else x) else f i
/-- It has no result that counts; the board holds f, and nothing but its cells has turned. -/
def MPost (w : World) (b g R C : Nat) (f : Nat → CellV) (en : Ending) (w' : World) : Prop := (∃ v, en = .returned v) ∧ BAt w' b g R C f ∧ Chg (fun i => i = g) w w'
theorem movesB_parts {n : Int} {x : CellV} (h : movesB n x = true) : 1 ≤ n ∧ okC x = true := by
  simpa [movesB] using h
theorem insF_ok {N C q p m : Nat} {x : CellV} {f : Nat → CellV} (hx : okC x = true) (h : ∀ i, i < N → okC (f i) = true) : ∀ i, i < N → okC (insF C q p m x f i) = true := by
  intro i hi
  unfold insF
  split
  · split
    · exact h _ (by omega)
    · exact hx
  · exact h _ hi
theorem delF_ok {R C q p m : Nat} {x : CellV} {f : Nat → CellV} (hq : q < R) (hx : okC x = true) (h : ∀ i, i < R * C → okC (f i) = true) : ∀ i, i < R * C → okC (delF C q p m x f i) = true := by
  intro i hi
  have := row_le (C := C) hq
  unfold delF
  split
  · split
    · exact h _ (by omega)
    · exact hx
  · exact h _ hi
set_option maxHeartbeats 1600000 in
theorem insert_c (b g R C : Nat) (f : Nat → CellV) (r c n : Int) (x : CellV) (w : World) (h : BAt w b g R C f) :
    Calls Try.prog 34 #[.pointer (some ⟨b, 0, none⟩), .int .i64 r, .int .i64 c, .int .i64 n, .agg (cellV x).toArray] w (MPost w b g R C (if hasB R C r c && movesB n x then insF C r.toNat c.toNat (min n.toNat (C - c.toNat)) x f else f)) := by
  have H := Lib.hid h
  have hz : b < w.heap.size := h.blt
  have hz2 : g < w.heap.size := h.glt
  clear h
  cases hB : hasB R C r c with
  | false =>
    have HB := Lib.hid hB
    rw [if_neg (by simp)]
    clear hB
    simp only [cellV]
    go_enter Try.func34, Try.ntmps34
    go_upto_region 1 with (fail)
    refine name_wp (fun w1 => Blk w1 w.heap.size 38 (cellV x) ∧ Below w.heap.size w w1) ⟨Blk.new _ _ _, alloc_below' _ _⟩ ?_
    rintro w1 ⟨hb1, hbel1⟩
    have HBel := Lib.hid hbel1
    have H1 := Lib.hid (has_c b g R C f r c w1 (H.out.below hbel1))
    rw [HB.out] at H1
    clear hb1 hbel1
    go_wp2_with fail
    refine H1.out.mono ?_
    rintro en w2 ⟨rfl, rfl⟩
    go_wp2
    go_end0
    exact ⟨⟨_, rfl⟩, H.out.below HBel.out, Chg.of_below HBel.out⟩
  | true =>
    obtain ⟨q, p, rfl, rfl, hq, hp⟩ := has_parts hB
    have HB := Lib.hid hB
    clear hB
    rw [Bool.true_and]
    cases hM : movesB n x with
    | false =>
      have HM := Lib.hid hM
      rw [if_neg (by simp)]
      clear hM
      simp only [cellV]
      go_enter Try.func34, Try.ntmps34
      go_upto_region 1 with (fail)
      refine name_wp (fun w1 => Blk w1 w.heap.size 38 (cellV x) ∧ Below w.heap.size w w1) ⟨Blk.new _ _ _, alloc_below' _ _⟩ ?_
      rintro w1 ⟨hb1, hbel1⟩
      have HBel := Lib.hid hbel1
      obtain ⟨a0, a1, a2, a3⟩ := fourB' hb1
      have H1 := Lib.hid (has_c b g R C f q p w1 (H.out.below hbel1))
      rw [HB.out] at H1
      clear hb1 hbel1
      go_wp2_with fail
      refine H1.out.mono ?_
      rintro en w2 ⟨rfl, rfl⟩
      go_wp2_with fail
      refine (moves_c n x _).mono ?_
      rw [HM.out]
      rintro en w2 ⟨rfl, hb2⟩
      have HB2 := Lib.hid (HBel.out.trans (hb2.mono HBel.out.size))
      clear hb2 a0 a1 a2 a3
      go_wp2
      go_end0
      exact ⟨⟨_, rfl⟩, H.out.below HB2.out, Chg.of_below HB2.out⟩
    | true =>
      rw [if_pos rfl, show (q : Int).toNat = q from rfl, show (p : Int).toNat = p from rfl]
      obtain ⟨hn1, hx⟩ := movesB_parts hM
      have HM := Lib.hid hM
      have HX := Lib.hid hx
      clear hM hx
      obtain ⟨m, hm⟩ : ∃ m, Hid (min n.toNat (C - p) = m) := ⟨_, Lib.hid rfl⟩
      rw [hm.out]
      obtain ⟨hc1, hc2⟩ := H.out.cols
      have hm1 : 1 ≤ m := by have := hm.out; omega
      have hm2 : m ≤ C - p := by have := hm.out; omega
      have e1 : min n ((C : Int) - (p : Int)) = (m : Int) := by have := hm.out; omega
      have e2 : min n ((C - p : Nat) : Int) = (m : Int) := by have := hm.out; omega
      have hp0 : (0 : Int) ≤ (p : Int) := by omega
      have hpC : (p : Int) ≤ (C : Int) := by omega
      simp only [cellV]
      go_enter Try.func34, Try.ntmps34
      go_upto_region 1 with (fail)
      refine name_wp (fun w1 => Blk w1 w.heap.size 38 (cellV x) ∧ Below w.heap.size w w1) ⟨Blk.new _ _ _, alloc_below' _ _⟩ ?_
      rintro w1 ⟨hb1, hbel1⟩
      have HBel := Lib.hid hbel1
      have HB1 := Lib.hid hb1
      obtain ⟨a0, a1, a2, a3⟩ := fourB' hb1
      have H1 := Lib.hid (has_c b g R C f q p w1 (H.out.below hbel1))
      rw [HB.out] at H1
      clear hb1 hbel1
      go_wp2_with fail
      refine H1.out.mono ?_
      rintro en w2 ⟨rfl, rfl⟩
      go_wp2_with fail
      refine (moves_c n x _).mono ?_
      rw [HM.out]
      rintro en w2 ⟨rfl, hb2⟩
      have HB2 := Lib.hid (HBel.out.trans (hb2.mono HBel.out.size))
      obtain ⟨d0, d1, d2, d3⟩ := fourB' (HB1.out.below hb2 HB1.out.lt)
      clear hb2 a0 a1 a2 a3
      have H2 := Lib.hid (H.out.below HB2.out)
      go_wp2_with fail
      refine (line_c b g R C f q w2 H2.out hq).mono ?_
      rintro en w3 ⟨cc, rfl, h1, h2, k, rfl⟩
      have hcp : ¬ cc = p := by omega
      have hpc : (p : Int) ≤ (cc : Int) := by omega
      replace d0 : (w2.drewN k).cell? _ = _ := d0
      replace d1 : (w2.drewN k).cell? _ = _ := d1
      replace d2 : (w2.drewN k).cell? _ = _ := d2
      replace d3 : (w2.drewN k).cell? _ = _ := d3
      have hR3 := Lib.hid (H2.out.row.of_heap (w' := w2.drewN k) rfl)
      unfold maxLen at h2
      go_wp2_with fail
      refine (behind_c g (q * C + p) (C - p) m (cc - p) (R * C) _ f x (w2.drewN k) hR3.out (by have := row_le (C := C) hq; omega) (by rw [Nat.add_mul]) hm1 hm2 (by omega) (by omega) (by unfold maxLen; omega)).mono ?_
      rintro en w4 ⟨⟨v, rfl⟩, hR4, hC4⟩
      have HR4 := Lib.hid hR4
      have HC4 := Lib.hid hC4
      clear hR4 hC4 d0 d1 d2 d3
      go_wp2
      go_end0
      have hch : Chg (fun i => i = g) w w4 := (Chg.of_below (belowDrewN HB2.out k)).trans' HC4.out
      refine ⟨⟨_, rfl⟩, H.out.turn hch (HR4.out.congr (fun i _ => ?_)) (insF_ok HX.out H.out.ok), hch⟩
      have eo : q * C + p + (C - p) = q * C + C := by omega
      simp only [insF, eo]
set_option maxHeartbeats 1600000 in
theorem delete_c (b g R C : Nat) (f : Nat → CellV) (r c n : Int) (x : CellV) (w : World) (h : BAt w b g R C f) :
    Calls Try.prog 35 #[.pointer (some ⟨b, 0, none⟩), .int .i64 r, .int .i64 c, .int .i64 n, .agg (cellV x).toArray] w (MPost w b g R C (if hasB R C r c && movesB n x then delF C r.toNat c.toNat (min n.toNat (C - c.toNat)) x f else f)) := by
  have H := Lib.hid h
  have hz : b < w.heap.size := h.blt
  have hz2 : g < w.heap.size := h.glt
  clear h
  cases hB : hasB R C r c with
  | false =>
    have HB := Lib.hid hB
    rw [if_neg (by simp)]
    clear hB
    simp only [cellV]
    go_enter Try.func35, Try.ntmps35
    go_upto_region 1 with (fail)
    refine name_wp (fun w1 => Blk w1 w.heap.size 38 (cellV x) ∧ Below w.heap.size w w1) ⟨Blk.new _ _ _, alloc_below' _ _⟩ ?_
    rintro w1 ⟨hb1, hbel1⟩
    have HBel := Lib.hid hbel1
    have H1 := Lib.hid (has_c b g R C f r c w1 (H.out.below hbel1))
    rw [HB.out] at H1
    clear hb1 hbel1
    go_wp2_with fail
    refine H1.out.mono ?_
    rintro en w2 ⟨rfl, rfl⟩
    go_wp2
    go_end0
    exact ⟨⟨_, rfl⟩, H.out.below HBel.out, Chg.of_below HBel.out⟩
  | true =>
    obtain ⟨q, p, rfl, rfl, hq, hp⟩ := has_parts hB
    have HB := Lib.hid hB
    clear hB
    rw [Bool.true_and]
    cases hM : movesB n x with
    | false =>
      have HM := Lib.hid hM
      rw [if_neg (by simp)]
      clear hM
      simp only [cellV]
      go_enter Try.func35, Try.ntmps35
      go_upto_region 1 with (fail)
      refine name_wp (fun w1 => Blk w1 w.heap.size 38 (cellV x) ∧ Below w.heap.size w w1) ⟨Blk.new _ _ _, alloc_below' _ _⟩ ?_
      rintro w1 ⟨hb1, hbel1⟩
      have HBel := Lib.hid hbel1
      obtain ⟨a0, a1, a2, a3⟩ := fourB' hb1
      have H1 := Lib.hid (has_c b g R C f q p w1 (H.out.below hbel1))
      rw [HB.out] at H1
      clear hb1 hbel1
      go_wp2_with fail
      refine H1.out.mono ?_
      rintro en w2 ⟨rfl, rfl⟩
      go_wp2_with fail
      refine (moves_c n x _).mono ?_
      rw [HM.out]
      rintro en w2 ⟨rfl, hb2⟩
      have HB2 := Lib.hid (HBel.out.trans (hb2.mono HBel.out.size))
      clear hb2 a0 a1 a2 a3
      go_wp2
      go_end0
      exact ⟨⟨_, rfl⟩, H.out.below HB2.out, Chg.of_below HB2.out⟩
    | true =>
      rw [if_pos rfl, show (q : Int).toNat = q from rfl, show (p : Int).toNat = p from rfl]
      obtain ⟨hn1, hx⟩ := movesB_parts hM
      have HM := Lib.hid hM
      have HX := Lib.hid hx
      clear hM hx
      obtain ⟨m, hm⟩ : ∃ m, Hid (min n.toNat (C - p) = m) := ⟨_, Lib.hid rfl⟩
      rw [hm.out]
      obtain ⟨hc1, hc2⟩ := H.out.cols
      have hm1 : 1 ≤ m := by have := hm.out; omega
      have hm2 : m ≤ C - p := by have := hm.out; omega
      have e1 : min n ((C : Int) - (p : Int)) = (m : Int) := by have := hm.out; omega
      have e2 : min n ((C - p : Nat) : Int) = (m : Int) := by have := hm.out; omega
      have hp0 : (0 : Int) ≤ (p : Int) := by omega
      have hpC : (p : Int) ≤ (C : Int) := by omega
      simp only [cellV]
      go_enter Try.func35, Try.ntmps35
      go_upto_region 1 with (fail)
      refine name_wp (fun w1 => Blk w1 w.heap.size 38 (cellV x) ∧ Below w.heap.size w w1) ⟨Blk.new _ _ _, alloc_below' _ _⟩ ?_
      rintro w1 ⟨hb1, hbel1⟩
      have HBel := Lib.hid hbel1
      have HB1 := Lib.hid hb1
      obtain ⟨a0, a1, a2, a3⟩ := fourB' hb1
      have H1 := Lib.hid (has_c b g R C f q p w1 (H.out.below hbel1))
      rw [HB.out] at H1
      clear hb1 hbel1
      go_wp2_with fail
      refine H1.out.mono ?_
      rintro en w2 ⟨rfl, rfl⟩
      go_wp2_with fail
      refine (moves_c n x _).mono ?_
      rw [HM.out]
      rintro en w2 ⟨rfl, hb2⟩
      have HB2 := Lib.hid (HBel.out.trans (hb2.mono HBel.out.size))
      obtain ⟨d0, d1, d2, d3⟩ := fourB' (HB1.out.below hb2 HB1.out.lt)
      clear hb2 a0 a1 a2 a3
      have H2 := Lib.hid (H.out.below HB2.out)
      go_wp2_with fail
      refine (line_c b g R C f q w2 H2.out hq).mono ?_
      rintro en w3 ⟨cc, rfl, h1, h2, k, rfl⟩
      have hcp : ¬ cc = p := by omega
      have hpc : (p : Int) ≤ (cc : Int) := by omega
      replace d0 : (w2.drewN k).cell? _ = _ := d0
      replace d1 : (w2.drewN k).cell? _ = _ := d1
      replace d2 : (w2.drewN k).cell? _ = _ := d2
      replace d3 : (w2.drewN k).cell? _ = _ := d3
      have hR3 := Lib.hid (H2.out.row.of_heap (w' := w2.drewN k) rfl)
      unfold maxLen at h2
      go_wp2_with fail
      refine (ahead_c g (q * C + p) (C - p) m (cc - p) (R * C) _ f x (w2.drewN k) hR3.out (by have := row_le (C := C) hq; omega) (by rw [Nat.add_mul]) hm1 hm2 (by omega) (by omega) (by unfold maxLen; omega)).mono ?_
      rintro en w4 ⟨⟨v, rfl⟩, hR4, hC4⟩
      have HR4 := Lib.hid hR4
      have HC4 := Lib.hid hC4
      clear hR4 hC4 d0 d1 d2 d3
      go_wp2
      go_end0
      have hch : Chg (fun i => i = g) w w4 := (Chg.of_below (belowDrewN HB2.out k)).trans' HC4.out
      refine ⟨⟨_, rfl⟩, H.out.turn hch (HR4.out.congr (fun i _ => ?_)) (delF_ok hq HX.out H.out.ok), hch⟩
      have eo : q * C + p + (C - p) = q * C + C := by omega
      simp only [delF, eo]
end Go.Proofs.Ytgmfmhlboehdoaa
