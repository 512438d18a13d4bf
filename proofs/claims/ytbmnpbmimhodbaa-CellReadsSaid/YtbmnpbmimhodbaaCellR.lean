/- What Read of package cell reads, as walks through the translated text. Conditions: the Reader lies in memory of its own. -/
import Derived.Test.YtbmnpbmimhodbaaCell3
import Derived.Test.YtbmnpbmimhodbaaCellM
import Derived.Test.YtbmnpbmimhodbaaCodec4
namespace Go.Proofs.Ytbmnpbmimhodbaa
open Go.ChangeShapes Go.WideShapes Go.RowKit
/-- The next run, and what is left behind it. -/
def readRunR (s : List Nat × Int) : RunV × (List Nat × Int) :=
  (((numberR s).1, min ((numberR (numberR s).2).1 : Int) 1114112, (numberR (numberR (numberR s).2).2).1, (numberR (numberR (numberR (numberR s).2).2).2).1, (numberR (numberR (numberR (numberR (numberR s).2).2).2).2).1),
    (numberR (numberR (numberR (numberR (numberR s).2).2).2).2).2)
def zeroRun : List Value := [.int .i64 0, .int .i32 0, .int .i64 0, .int .i64 0, .int .i64 0]
/-- A run that is being read: the result's block, the run's block, the Reader. -/
structure RunSt (w W : World) (g : Nat) (D : Option Nat) (s : List Nat × Int) (cs : List Value) : Prop where
  top : Blk W w.heap.size 34 zeroRun
  cur : Blk W (w.heap.size + 1) 34 cs
  rd : RAt W g D s
  chg : w.grownBy W (some g)
  low : g < w.heap.size ∧ ∀ h, D = some h → h < w.heap.size
theorem only_new {w W : World} {g p : Nat} (h : w.grownBy W (some g)) (hp : w.heap.size ≤ p) (o : Nat) (v : Value) : w.grownBy (W.setCell ⟨p, o, none⟩ v) (some g) where
  os := h.os
  tape := h.tape
  output := h.output
  size := by rw [World.size_setCell]; exact h.size
  block i hi hne := (heap_setCell_other W ⟨p, o, none⟩ i v (by show i ≠ p; omega)).trans (h.block i hi hne)
theorem RunSt.step {w W W' : World} {g : Nat} {D : Option Nat} {s s' : List Nat × Int} {cs : List Value} (h : RunSt w W g D s cs) (hr : RAt W' g D s') (hg : W.grownBy W' (some g)) (k : Nat) (v : Value) :
    RunSt w (W'.setCell ⟨w.heap.size + 1, k, none⟩ v) g D s' (cs.set k v) := by
  have hlt := h.low.1
  have hc : Blk W' (w.heap.size + 1) 34 cs := h.cur.grown hg (by simp; omega)
  have ht : Blk W' w.heap.size 34 zeroRun := h.top.grown hg (by simp; omega)
  refine ⟨ht.far (p := ⟨w.heap.size + 1, k, none⟩) (by show w.heap.size ≠ w.heap.size + 1; omega) _, hc.set_ k v, ?_, only_new (only_trans h.chg hg) (by omega) _ _, h.low⟩
  refine hr.only (i := w.heap.size + 1) (only_setCell (World.grownBy.refl _ _) rfl _) (by omega) ?_
  intro e
  have := h.low.2 _ e
  omega
theorem RunSt.cell {w W W' : World} {g : Nat} {D : Option Nat} {s : List Nat × Int} {cs : List Value} (h : RunSt w W g D s cs) (hg : W.grownBy W' (some g)) (k : Nat) : W'.cell? ⟨w.heap.size + 1, k, none⟩ = cs[k]? ∧ W'.frozen? ⟨w.heap.size + 1, k, none⟩ = false := by
  have hlt := h.low.1
  have hc : Blk W' (w.heap.size + 1) 34 cs := h.cur.grown hg (by simp; omega)
  exact ⟨hc.cell k, hc.frozen k⟩
set_option maxHeartbeats 1600000 in
theorem readRun_c (g : Nat) (D : Option Nat) (s : List Nat × Int) (w : World) (h : RAt w g D s) :
    Calls Try.prog 30 #[.pointer (some ⟨g, 0, none⟩)] w (RPost w g D (readRunR s).2 (.agg (runV (readRunR s).1).toArray)) := by
  unfold readRunR
  simp only
  have HB := Lib.hid h.byte
  obtain ⟨n1, s1, e1⟩ : ∃ n t, Hid (numberR s = (n, t)) := ⟨_, _, rfl⟩
  obtain ⟨n2, s2, e2⟩ : ∃ n t, Hid (numberR s1 = (n, t)) := ⟨_, _, rfl⟩
  obtain ⟨n3, s3, e3⟩ : ∃ n t, Hid (numberR s2 = (n, t)) := ⟨_, _, rfl⟩
  obtain ⟨n4, s4, e4⟩ : ∃ n t, Hid (numberR s3 = (n, t)) := ⟨_, _, rfl⟩
  obtain ⟨n5, s5, e5⟩ : ∃ n t, Hid (numberR s4 = (n, t)) := ⟨_, _, rfl⟩
  simp only [e1.out, e2.out, e3.out, e4.out, e5.out]
  have hlow : g < w.heap.size ∧ ∀ h, D = some h → h < w.heap.size := ⟨h.lt, h.low⟩
  have H := Lib.hid h
  clear h
  by_cases hm : (n2 : Int) ≤ 1114112
  · have hmm : Hid (min (n2 : Int) 1114112 = (n2 : Int)) := Int.min_eq_left hm
    rw [hmm.out]
    go_enter Try.func30, Try.ntmps30
    go_upto_region 2 with (fail)
    refine name_wp (fun W => RunSt w W g D s zeroRun) ⟨(Blk.new _ _ _).alloc _, ?_, (H.out.below (alloc_below' _ _)).below (alloc_below' _ _), only_of_below ((alloc_below' _ _).alloc (by simp) _) _, hlow⟩ ?_
    · have := Blk.new (w.alloc (.cells zeroRun.toArray 34)) 34 zeroRun
      rwa [World.size_alloc] at this
    intro W1 h1
    have H1 := Lib.hid h1
    clear h1 H
    go_wp2_with fail
    refine (rnumber_c g D s W1 H1.out.rd).mono ?_
    rw [e1.out]
    rintro en w2 ⟨rfl, r2, k2⟩
    obtain ⟨c2, f2⟩ := H1.out.cell k2 0
    replace c2 : w2.cell? _ = some (.int .i64 0) := c2
    have H11 : Hid (RunSt w _ g D s1 [.int .i64 (n1 : Int), .int .i32 0, .int .i64 0, .int .i64 0, .int .i64 0]) := H1.out.step r2 k2 0 (.int .i64 (n1 : Int))
    go_wp2_with fail
    refine name_Calls (fun W => RunSt w W g D s1 [.int .i64 (n1 : Int), .int .i32 0, .int .i64 0, .int .i64 0, .int .i64 0]) H11.out ?_
    intro W2 h2
    have H2 := Lib.hid h2
    clear h2 c2 f2 r2 k2 H11
    refine (rnumber_c g D s1 W2 H2.out.rd).mono ?_
    rw [e2.out]
    rintro en w3 ⟨rfl, r3, k3⟩
    obtain ⟨c3, f3⟩ := H2.out.cell k3 1
    replace c3 : w3.cell? _ = some (.int .i32 0) := c3
    have H12 : Hid (RunSt w _ g D s2 [.int .i64 (n1 : Int), .int .i32 (n2 : Int), .int .i64 0, .int .i64 0, .int .i64 0]) := H2.out.step r3 k3 1 (.int .i32 (n2 : Int))
    go_wp2_with fail
    refine name_Calls (fun W => RunSt w W g D s2 [.int .i64 (n1 : Int), .int .i32 (n2 : Int), .int .i64 0, .int .i64 0, .int .i64 0]) H12.out ?_
    intro W3 h3
    have H3 := Lib.hid h3
    clear h3 c3 f3 r3 k3 H12
    refine (rnumber_c g D s2 W3 H3.out.rd).mono ?_
    rw [e3.out]
    rintro en w4 ⟨rfl, r4, k4⟩
    obtain ⟨c4, f4⟩ := H3.out.cell k4 2
    replace c4 : w4.cell? _ = some (.int .i64 0) := c4
    have H13 : Hid (RunSt w _ g D s3 [.int .i64 (n1 : Int), .int .i32 (n2 : Int), .int .i64 (n3 : Int), .int .i64 0, .int .i64 0]) := H3.out.step r4 k4 2 (.int .i64 (n3 : Int))
    go_wp2_with fail
    refine name_Calls (fun W => RunSt w W g D s3 [.int .i64 (n1 : Int), .int .i32 (n2 : Int), .int .i64 (n3 : Int), .int .i64 0, .int .i64 0]) H13.out ?_
    intro W4 h4
    have H4 := Lib.hid h4
    clear h4 c4 f4 r4 k4 H13
    refine (rnumber_c g D s3 W4 H4.out.rd).mono ?_
    rw [e4.out]
    rintro en w5 ⟨rfl, r5, k5⟩
    obtain ⟨c5, f5⟩ := H4.out.cell k5 3
    replace c5 : w5.cell? _ = some (.int .i64 0) := c5
    have H14 : Hid (RunSt w _ g D s4 [.int .i64 (n1 : Int), .int .i32 (n2 : Int), .int .i64 (n3 : Int), .int .i64 (n4 : Int), .int .i64 0]) := H4.out.step r5 k5 3 (.int .i64 (n4 : Int))
    go_wp2_with fail
    refine name_Calls (fun W => RunSt w W g D s4 [.int .i64 (n1 : Int), .int .i32 (n2 : Int), .int .i64 (n3 : Int), .int .i64 (n4 : Int), .int .i64 0]) H14.out ?_
    intro W5 h5
    have H5 := Lib.hid h5
    clear h5 c5 f5 r5 k5 H14
    refine (rnumber_c g D s4 W5 H5.out.rd).mono ?_
    rw [e5.out]
    rintro en w6 ⟨rfl, r6, k6⟩
    obtain ⟨c6, f6⟩ := H5.out.cell k6 4
    replace c6 : w6.cell? _ = some (.int .i64 0) := c6
    have H15 : Hid (RunSt w _ g D s5 [.int .i64 (n1 : Int), .int .i32 (n2 : Int), .int .i64 (n3 : Int), .int .i64 (n4 : Int), .int .i64 (n5 : Int)]) := H5.out.step r6 k6 4 (.int .i64 (n5 : Int))
    go_upto_region 7 with (fail)
    refine name_wp (fun W => RunSt w W g D s5 (runV ((n1 : Int), (n2 : Int), (n3 : Int), (n4 : Int), (n5 : Int)))) H15.out ?_
    intro W6 h6
    clear H15 c6 f6 r6 k6
    obtain ⟨y0, y1, y2, y3, y4⟩ := fiveB h6.cur
    have H6 := Lib.hid h6
    clear h6
    go_wp2_with ((with_reducible refine at_store 34 ?_); refine wpList_store_at rfl rfl 34 (.tmp 2) (.tmp 28) rfl w.heap.size 0 rfl (runV ((n1 : Int), (n2 : Int), (n3 : Int), (n4 : Int), (n5 : Int))) rfl zeroRun 34 H6.out.top (Nat.le_refl 5) (one_runV _) (by kernel_rfl) ?_; intro w9 hb9 hg9)
    rw [splice_all zeroRun (runV _) rfl] at hb9
    have hlt := H6.out.low.1
    refine bodyPost_ret (v := .agg (runV ((n1 : Int), (n2 : Int), (n3 : Int), (n4 : Int), (n5 : Int))).toArray) ?_ rfl ⟨rfl, H6.out.rd.only hg9 (by omega) (fun e => by have := H6.out.low.2 _ e; omega), ?_⟩
    · exact results_cell_row rfl _ _ w.heap.size _ _ _ _ rfl hb9 Try.underlying34 rfl (by kernel_rfl)
    · exact ⟨hg9.os.trans H6.out.chg.os, hg9.tape.trans H6.out.chg.tape, hg9.output.trans H6.out.chg.output, Nat.le_trans H6.out.chg.size hg9.size, fun i hi hne => (hg9.block i (Nat.lt_of_lt_of_le hi H6.out.chg.size) (by simp; omega)).trans (H6.out.chg.block i hi hne)⟩
  · have hm2 : (1114112 : Int) < (n2 : Int) := by omega
    have hmm : Hid (min (n2 : Int) 1114112 = 1114112) := Int.min_eq_right (by omega)
    rw [hmm.out]
    clear hm
    go_enter Try.func30, Try.ntmps30
    go_upto_region 2 with (fail)
    refine name_wp (fun W => RunSt w W g D s zeroRun) ⟨(Blk.new _ _ _).alloc _, ?_, (H.out.below (alloc_below' _ _)).below (alloc_below' _ _), only_of_below ((alloc_below' _ _).alloc (by simp) _) _, hlow⟩ ?_
    · have := Blk.new (w.alloc (.cells zeroRun.toArray 34)) 34 zeroRun
      rwa [World.size_alloc] at this
    intro W1 h1
    have H1 := Lib.hid h1
    clear h1 H
    go_wp2_with fail
    refine (rnumber_c g D s W1 H1.out.rd).mono ?_
    rw [e1.out]
    rintro en w2 ⟨rfl, r2, k2⟩
    obtain ⟨c2, f2⟩ := H1.out.cell k2 0
    replace c2 : w2.cell? _ = some (.int .i64 0) := c2
    have H11 : Hid (RunSt w _ g D s1 [.int .i64 (n1 : Int), .int .i32 0, .int .i64 0, .int .i64 0, .int .i64 0]) := H1.out.step r2 k2 0 (.int .i64 (n1 : Int))
    go_wp2_with fail
    refine name_Calls (fun W => RunSt w W g D s1 [.int .i64 (n1 : Int), .int .i32 0, .int .i64 0, .int .i64 0, .int .i64 0]) H11.out ?_
    intro W2 h2
    have H2 := Lib.hid h2
    clear h2 c2 f2 r2 k2 H11
    refine (rnumber_c g D s1 W2 H2.out.rd).mono ?_
    rw [e2.out]
    rintro en w3 ⟨rfl, r3, k3⟩
    obtain ⟨c3, f3⟩ := H2.out.cell k3 1
    replace c3 : w3.cell? _ = some (.int .i32 0) := c3
    have H12 : Hid (RunSt w _ g D s2 [.int .i64 (n1 : Int), .int .i32 1114112, .int .i64 0, .int .i64 0, .int .i64 0]) := H2.out.step r3 k3 1 (.int .i32 1114112)
    go_wp2_with fail
    refine name_Calls (fun W => RunSt w W g D s2 [.int .i64 (n1 : Int), .int .i32 1114112, .int .i64 0, .int .i64 0, .int .i64 0]) H12.out ?_
    intro W3 h3
    have H3 := Lib.hid h3
    clear h3 c3 f3 r3 k3 H12
    refine (rnumber_c g D s2 W3 H3.out.rd).mono ?_
    rw [e3.out]
    rintro en w4 ⟨rfl, r4, k4⟩
    obtain ⟨c4, f4⟩ := H3.out.cell k4 2
    replace c4 : w4.cell? _ = some (.int .i64 0) := c4
    have H13 : Hid (RunSt w _ g D s3 [.int .i64 (n1 : Int), .int .i32 1114112, .int .i64 (n3 : Int), .int .i64 0, .int .i64 0]) := H3.out.step r4 k4 2 (.int .i64 (n3 : Int))
    go_wp2_with fail
    refine name_Calls (fun W => RunSt w W g D s3 [.int .i64 (n1 : Int), .int .i32 1114112, .int .i64 (n3 : Int), .int .i64 0, .int .i64 0]) H13.out ?_
    intro W4 h4
    have H4 := Lib.hid h4
    clear h4 c4 f4 r4 k4 H13
    refine (rnumber_c g D s3 W4 H4.out.rd).mono ?_
    rw [e4.out]
    rintro en w5 ⟨rfl, r5, k5⟩
    obtain ⟨c5, f5⟩ := H4.out.cell k5 3
    replace c5 : w5.cell? _ = some (.int .i64 0) := c5
    have H14 : Hid (RunSt w _ g D s4 [.int .i64 (n1 : Int), .int .i32 1114112, .int .i64 (n3 : Int), .int .i64 (n4 : Int), .int .i64 0]) := H4.out.step r5 k5 3 (.int .i64 (n4 : Int))
    go_wp2_with fail
    refine name_Calls (fun W => RunSt w W g D s4 [.int .i64 (n1 : Int), .int .i32 1114112, .int .i64 (n3 : Int), .int .i64 (n4 : Int), .int .i64 0]) H14.out ?_
    intro W5 h5
    have H5 := Lib.hid h5
    clear h5 c5 f5 r5 k5 H14
    refine (rnumber_c g D s4 W5 H5.out.rd).mono ?_
    rw [e5.out]
    rintro en w6 ⟨rfl, r6, k6⟩
    obtain ⟨c6, f6⟩ := H5.out.cell k6 4
    replace c6 : w6.cell? _ = some (.int .i64 0) := c6
    have H15 : Hid (RunSt w _ g D s5 [.int .i64 (n1 : Int), .int .i32 1114112, .int .i64 (n3 : Int), .int .i64 (n4 : Int), .int .i64 (n5 : Int)]) := H5.out.step r6 k6 4 (.int .i64 (n5 : Int))
    go_upto_region 7 with (fail)
    refine name_wp (fun W => RunSt w W g D s5 (runV ((n1 : Int), 1114112, (n3 : Int), (n4 : Int), (n5 : Int)))) H15.out ?_
    intro W6 h6
    clear H15 c6 f6 r6 k6
    obtain ⟨y0, y1, y2, y3, y4⟩ := fiveB h6.cur
    have H6 := Lib.hid h6
    clear h6
    go_wp2_with ((with_reducible refine at_store 34 ?_); refine wpList_store_at rfl rfl 34 (.tmp 2) (.tmp 28) rfl w.heap.size 0 rfl (runV ((n1 : Int), 1114112, (n3 : Int), (n4 : Int), (n5 : Int))) rfl zeroRun 34 H6.out.top (Nat.le_refl 5) (one_runV _) (by kernel_rfl) ?_; intro w9 hb9 hg9)
    rw [splice_all zeroRun (runV _) rfl] at hb9
    have hlt := H6.out.low.1
    refine bodyPost_ret (v := .agg (runV ((n1 : Int), 1114112, (n3 : Int), (n4 : Int), (n5 : Int))).toArray) ?_ rfl ⟨rfl, H6.out.rd.only hg9 (by omega) (fun e => by have := H6.out.low.2 _ e; omega), ?_⟩
    · exact results_cell_row rfl _ _ w.heap.size _ _ _ _ rfl hb9 Try.underlying34 rfl (by kernel_rfl)
    · exact ⟨hg9.os.trans H6.out.chg.os, hg9.tape.trans H6.out.chg.tape, hg9.output.trans H6.out.chg.output, Nat.le_trans H6.out.chg.size hg9.size, fun i hi hne => (hg9.block i (Nat.lt_of_lt_of_le hi H6.out.chg.size) (by simp; omega)).trans (H6.out.chg.block i hi hne)⟩
end Go.Proofs.Ytbmnpbmimhodbaa
