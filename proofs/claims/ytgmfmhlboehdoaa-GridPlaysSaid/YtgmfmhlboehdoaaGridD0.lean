/- Plain words for an operation done at a board and at the document's one (do of the statements of layer 10): what both have behind it is the same. Conditions: none of its own. -/
import Derived.Test.YtgmfmhlboehdoaaGridM
import Derived.Laws.ResultCell
namespace Go.Proofs.Ytgmfmhlboehdoaa
open Go.ChangeShapes Go.WideShapes Go.RowKit
theorem results_pair {P : Program} {fn : Func} {p u : Tmp} {ty : TypeId} (h : fn.results = #[.cell p ty, .tmp u]) (tmps : Array Value) (w : World) (g : Nat) (t : TypeId) (cs : List Value) (d : TypeDesc) (v : Value)
    (hp : tmps.getD p undef = .pointer (some ⟨g, 0, none⟩)) (hv : tmps.getD u undef = v) (hg : Blk w g t cs)
    (hu : P.underlying ty = some d) (hd : (match d with | .struct _ | .array _ _ => true | _ => false) = true) (hi : (P.info? ty).map (·.size) = some cs.length) :
    (results fn tmps).run P w = .ok (.tuple #[.agg cs.toArray, v]) w := by
  rw [results_cell_tmp h, hp, hv]
  simp only [asAddr, Sem.run_pure, Result.andThen_ok]
  rw [run_loadVar_row w g t ty cs.toArray _ d hg hu hd (by simpa using hi)]
  rfl
theorem BAt.congr {w : World} {b g R C : Nat} {f f' : Nat → CellV} (h : BAt w b g R C f) (e : ∀ i, i < R * C → f i = f' i) : BAt w b g R C f' :=
  ⟨h.box, h.row.congr e, h.ne, h.rows, h.cols, fun i hi => by rw [← e i hi]; exact h.ok i hi⟩
/-- Where do stands: the boxes of its arguments, its result, the document's board; nothing old but the board has turned. -/
structure DoSt (w W : World) (b g R C : Nat) (A : Option Addr) (n k : Nat) (f : Nat → CellV) (o : OpV) : Prop where
  g0 : Blk W w.heap.size 31 (gridV R C A n k)
  o0 : Blk W (w.heap.size + 1) 40 (opV o)
  z0 : Blk W (w.heap.size + 1 + 1) 31 (gridV 0 0 none 0 0)
  rd : ReadsS cellV 4 W A n k (tab n f)
  chg : Chg (fun i => i = b ∨ i = g) w W
  ap : ∀ ad, A = some ad → ad.block ≠ b ∧ ad.block ≠ g
  lt : b < w.heap.size ∧ g < w.heap.size
section
variable {w W W' : World} {b g R C : Nat} {A : Option Addr} {n k : Nat} {f : Nat → CellV} {o : OpV}
theorem DoSt.below (h : DoSt w W b g R C A n k f o) (hb : Below W.heap.size W W') : DoSt w W' b g R C A n k f o :=
  ⟨h.g0.below hb h.g0.lt, h.o0.below hb h.o0.lt, h.z0.below hb h.z0.lt, h.rd.keep hb, h.chg.trans' (Chg.of_below hb), h.ap, h.lt⟩
theorem DoSt.mut (h : DoSt w W b g R C A n k f o) (hc : Chg (fun i => i = b ∨ i = g) W W') : DoSt w W' b g R C A n k f o := by
  obtain ⟨h1, h2⟩ := h.lt
  exact ⟨h.g0.chg hc (by omega), h.o0.chg hc (by omega), h.z0.chg hc (by omega), h.rd.chg hc (fun _ ad e => by have := h.ap ad e; omega), h.chg.trans' hc, h.ap, h.lt⟩
def DoPost (w : World) (b g : Nat) (A : Option Addr) (en : Ending) (w' : World) : Prop :=
  ∃ (g' R' C' n' k' : Nat) (A' : Option Addr) (f' : Nat → CellV), en = .returned (.tuple #[.agg (gridV R' C' A' n' k').toArray, .bool true]) ∧ BAt w' b g' R' C' f' ∧ n' = R' * C' ∧ ReadsS cellV 4 w' A' n' k' (tab n' f') ∧
    (∀ ad, A' = some ad → ad.block ≠ b ∧ ad.block ≠ g') ∧ (w.heap.size ≤ g' ∨ g' = g) ∧ Chg (fun i => i = b ∨ i = g) w w' ∧ (A' = A ∨ ∀ ad, A' = some ad → w.heap.size ≤ ad.block)
theorem DoSt.fin {g' R' C' n' k' : Nat} {A' : Option Addr} {f' : Nat → CellV} (h : DoSt w W b g R C A n k f o) (hB : BAt W b g' R' C' f') (hn : n' = R' * C') (hr : ReadsS cellV 4 W A' n' k' (tab n' f')) (hA : ∀ ad, A' = some ad → ad.block ≠ b ∧ ad.block ≠ g' ∧ ad.block ≠ w.heap.size + 1 + 1)
    (hg : w.heap.size + 1 + 1 < g' ∨ g' = g) (hAA : A' = A ∨ ∀ ad, A' = some ad → w.heap.size ≤ ad.block) (hw : W.grownBy W' (some (w.heap.size + 1 + 1))) : DoPost w b g A (.returned (.tuple #[.agg (gridV R' C' A' n' k').toArray, .bool true])) W' := by
  obtain ⟨h1, h2⟩ := h.lt
  have hc : Chg (fun i => i = w.heap.size + 1 + 1) W W' := Chg.of_only hw (fun i hi => (Option.some.inj hi).symm)
  refine ⟨g', R', C', n', k', A', f', rfl, hB.chg hc (by omega) (by omega), hn, hr.only hw (fun _ ad e => (hA ad e).2.2), fun ad e => ⟨(hA ad e).1, (hA ad e).2.1⟩, by omega, ?_, hAA⟩
  exact ⟨hc.os.trans h.chg.os, hc.tape.trans h.chg.tape, hc.output.trans h.chg.output, Nat.le_trans h.chg.size hc.size, fun i hi hne => (hc.block i (Nat.lt_of_lt_of_le hi h.chg.size) (by omega)).trans (h.chg.block i hi hne)⟩
/-- The document's own grid stays apart from the result's block. -/
theorem DoSt.apart (h : DoSt w W b g R C A n k f o) (hr : ReadsS cellV 4 w A n k (tab n f)) (hn : 0 < n) : ∀ ad, A = some ad → ad.block ≠ b ∧ ad.block ≠ g ∧ ad.block ≠ w.heap.size + 1 + 1 := by
  intro ad e
  obtain ⟨ad', e', hlt⟩ := hr.pos hn
  rw [e] at e'; cases e'
  exact ⟨(h.ap ad e).1, (h.ap ad e).2, by omega⟩
end
section
variable {R C : Nat} {f : Nat → CellV} {a b m : Int} {y : CellV}
theorem moved2 : movedF R C f 2 a b m y = if (spansB R a b && decide (1 ≤ m)) = true then rollF R C f a b (min m 200) y else f := by
  generalize hB : (spansB R a b && decide (1 ≤ m)) = B
  cases B <;> simp [movedF, hB]
theorem moved3 : movedF R C f 3 a b m y = if (spansB R a b && decide (1 ≤ m)) = true then rollF R C f a b (0 - min m 200) y else f := by
  generalize hB : (spansB R a b && decide (1 ≤ m)) = B
  cases B <;> simp [movedF, hB]
theorem moved4 : movedF R C f 4 a b m y = if (hasB R C a b && decide (1 ≤ m)) = true then slideF R C f a b (0 - min m 200) y else f := by
  generalize hB : (hasB R C a b && decide (1 ≤ m)) = B
  cases B <;> simp [movedF, hB]
theorem moved5 : movedF R C f 5 a b m y = if (hasB R C a b && decide (1 ≤ m)) = true then slideF R C f a b (min m 200) y else f := by
  generalize hB : (hasB R C a b && decide (1 ≤ m)) = B
  cases B <;> simp [movedF, hB]
theorem mut1 (hC : 0 < C) (hy : okC y = true) : ∀ i, i < R * C → (if hasB R C a 0 && okC y then fillF C a.toNat (max b 0).toNat (min m C).toNat y f else f) i = movedF R C f 1 a b m y i := by
  intro i hi
  rw [hy, Bool.and_true, movedF, if_pos (show (1 : Int) = 1 from rfl)]
  exact fill_eq hC hi
theorem mut2 (hC : 0 < C) (hR : R ≤ 60) (hy : okC y = true) : ∀ i, i < R * C → (if spansB R a b && movesB m y then upF C a.toNat b.toNat (min m.toNat (b.toNat + 1 - a.toNat)) y f else f) i = movedF R C f 2 a b m y i := by
  intro i hi
  rw [movesB, hy, Bool.and_true, moved2]
  by_cases h : (spansB R a b && decide (1 ≤ m)) = true
  · rw [if_pos h, if_pos h]
    simp only [Bool.and_eq_true, decide_eq_true_eq] at h
    obtain ⟨t, d, rfl, rfl, h1, h2⟩ := spans_parts h.1
    exact up_eq hC hi hR h1 h2 h.2
  · rw [if_neg h, if_neg h]
theorem mut3 (hC : 0 < C) (hR : R ≤ 60) (hy : okC y = true) : ∀ i, i < R * C → (if spansB R a b && movesB m y then downF C a.toNat b.toNat (min m.toNat (b.toNat + 1 - a.toNat)) y f else f) i = movedF R C f 3 a b m y i := by
  intro i hi
  rw [movesB, hy, Bool.and_true, moved3]
  by_cases h : (spansB R a b && decide (1 ≤ m)) = true
  · rw [if_pos h, if_pos h]
    simp only [Bool.and_eq_true, decide_eq_true_eq] at h
    obtain ⟨t, d, rfl, rfl, h1, h2⟩ := spans_parts h.1
    exact down_eq hC hi hR h1 h2 h.2
  · rw [if_neg h, if_neg h]
theorem mut4 (hCb : C ≤ 132) (hy : okC y = true) : ∀ i, i < R * C → (if hasB R C a b && movesB m y then insF C a.toNat b.toNat (min m.toNat (C - b.toNat)) y f else f) i = movedF R C f 4 a b m y i := by
  intro i hi
  rw [movesB, hy, Bool.and_true, moved4]
  by_cases h : (hasB R C a b && decide (1 ≤ m)) = true
  · rw [if_pos h, if_pos h]
    simp only [Bool.and_eq_true, decide_eq_true_eq] at h
    obtain ⟨q, p, rfl, rfl, h1, h2⟩ := has_parts h.1
    exact ins_eq hi hCb h2 h.2
  · rw [if_neg h, if_neg h]
theorem mut5 (hCb : C ≤ 132) (hy : okC y = true) : ∀ i, i < R * C → (if hasB R C a b && movesB m y then delF C a.toNat b.toNat (min m.toNat (C - b.toNat)) y f else f) i = movedF R C f 5 a b m y i := by
  intro i hi
  rw [movesB, hy, Bool.and_true, moved5]
  by_cases h : (hasB R C a b && decide (1 ≤ m)) = true
  · rw [if_pos h, if_pos h]
    simp only [Bool.and_eq_true, decide_eq_true_eq] at h
    obtain ⟨q, p, rfl, rfl, h1, h2⟩ := has_parts h.1
    exact del_eq hi hCb h2 h.2
  · rw [if_neg h, if_neg h]
end
end Go.Proofs.Ytgmfmhlboehdoaa
