/- How arguments of a statement are opened that are cells (a rune and a pen of three integers), slices of cells and slices of runs (an integer and a cell). Conditions: the types are as said. -/
import Derived.Test.YtdldffgdipedpaaDoorCell0
import Derived.Test.YtdldffgdipedpaaDoorOpen
import Derived.Test.YtdldffgdipedpaaDoorChecked
import Derived.Deep.Slices
import Derived.Deep.Fields
namespace Go.Proofs.YtdldffgdipedpaaDoor
open Go.ChangeShapes Go.WideShapes Go.ChangeAt Go.RowKit
def fit64 (z : Int) : Prop := -9223372036854775808 ≤ z ∧ z ≤ 9223372036854775807
theorem fit_i64 {z : Int} (h : (Lit.int .i64 z).wf = true) : fit64 z := range_i64 z h
theorem fit_i32 {z : Int} (h : (Lit.int .i32 z).wf = true) : -2147483648 ≤ z ∧ z ≤ 2147483647 := by
  simp [Lit.wf, IntKind.min, IntKind.max, IntKind.signed, IntKind.bits] at h; omega
section
variable {H : Type} {enc : TypeId × Value → H} {P : Program} {W : World} {base : Nat}
theorem pen_of {tp ti : TypeId} {f0 f1 f2 : Field} {fuel : Nat} {cs : List Value} {x : DataW H × List MemPlace} (hp : P.underlying tp = some (.struct #[f0, f1, f2]))
    (e0 : f0.type = ti ∧ f0.offset = 0) (e1 : f1.type = ti ∧ f1.offset = 1) (e2 : f2.type = ti ∧ f2.offset = 2) (hti : P.underlying ti = some (.int .i64)) (ci : P.cellsOf ti = 1) (cp : P.cellsOf tp = 3)
    (hf : DataW.trod enc P W 0 (fun _ => true) true fuel tp cs = some x) : ∃ a b c : Int, cs = [.int .i64 a, .int .i64 b, .int .i64 c] ∧ fit64 a ∧ fit64 b ∧ fit64 c := by
  obtain ⟨ys, n', _, _, hlen, hyl, hfl⟩ := DataW.trod_struct hp hf
  have g0 := hfl 0 f0 rfl
  have g1 := hfl 1 f1 rfl
  have g2 := hfl 2 f2 rfl
  have hys : ys.length = 3 := by simpa using hyl
  rw [e0.1, e0.2, ci, List.getElem?_eq_getElem (by omega)] at g0
  rw [e1.1, e1.2, ci, List.getElem?_eq_getElem (by omega)] at g1
  rw [e2.1, e2.2, ci, List.getElem?_eq_getElem (by omega)] at g2
  obtain ⟨z0, q0, _, w0⟩ := DataW.trod_int hti g0
  obtain ⟨z1, q1, _, w1⟩ := DataW.trod_int hti g1
  obtain ⟨z2, q2, _, w2⟩ := DataW.trod_int hti g2
  refine ⟨z0, z1, z2, ?_, fit_i64 w0, fit_i64 w1, fit_i64 w2⟩
  rw [cp] at hlen
  match cs, hlen with
  | [u0, u1, u2], _ =>
    simp only [List.drop_zero, List.take_succ_cons, List.take_zero, List.drop_succ_cons, List.cons.injEq, and_true] at q0 q1 q2
    rw [q0, q1, q2]
theorem cell_of {tc tr tp ti : TypeId} {g0 g1 f0 f1 f2 : Field} {fuel : Nat} {cs : List Value} {x : DataW H × List MemPlace} (hc : P.underlying tc = some (.struct #[g0, g1])) (d0 : g0.type = tr ∧ g0.offset = 0) (d1 : g1.type = tp ∧ g1.offset = 1)
    (hp : P.underlying tp = some (.struct #[f0, f1, f2])) (e0 : f0.type = ti ∧ f0.offset = 0) (e1 : f1.type = ti ∧ f1.offset = 1) (e2 : f2.type = ti ∧ f2.offset = 2)
    (htr : P.underlying tr = some (.int .i32)) (hti : P.underlying ti = some (.int .i64)) (cr : P.cellsOf tr = 1) (ci : P.cellsOf ti = 1) (cp : P.cellsOf tp = 3) (cc : P.cellsOf tc = 4)
    (hf : DataW.trod enc P W 0 (fun _ => true) true fuel tc cs = some x) : ∃ c : CellV, cs = cellV c ∧ fitC c := by
  obtain ⟨ys, n', _, _, hlen, hyl, hfl⟩ := DataW.trod_struct hc hf
  have k0 := hfl 0 g0 rfl
  have k1 := hfl 1 g1 rfl
  have hys : ys.length = 2 := by simpa using hyl
  rw [d0.1, d0.2, cr, List.getElem?_eq_getElem (by omega)] at k0
  rw [d1.1, d1.2, cp, List.getElem?_eq_getElem (by omega)] at k1
  obtain ⟨z0, q0, _, w0⟩ := DataW.trod_int htr k0
  obtain ⟨a, b, c, q1, wa, wb, wc⟩ := pen_of hp e0 e1 e2 hti ci cp k1
  refine ⟨(z0, a, b, c), ?_, fit_i32 w0, wa, wb, wc⟩
  rw [cc] at hlen
  match cs, hlen with
  | [u0, u1, u2, u3], _ =>
    simp only [List.drop_zero, List.take_succ_cons, List.take_zero, List.drop_succ_cons, List.cons.injEq, and_true] at q0 q1
    rw [q0, q1.1, q1.2.1, q1.2.2]
    rfl
theorem run_of {tx tc tr tp ti : TypeId} {h0 h1 g0 g1 f0 f1 f2 : Field} {fuel : Nat} {cs : List Value} {x : DataW H × List MemPlace} (hx : P.underlying tx = some (.struct #[h0, h1])) (b0 : h0.type = ti ∧ h0.offset = 0) (b1 : h1.type = tc ∧ h1.offset = 1)
    (hc : P.underlying tc = some (.struct #[g0, g1])) (d0 : g0.type = tr ∧ g0.offset = 0) (d1 : g1.type = tp ∧ g1.offset = 1)
    (hp : P.underlying tp = some (.struct #[f0, f1, f2])) (e0 : f0.type = ti ∧ f0.offset = 0) (e1 : f1.type = ti ∧ f1.offset = 1) (e2 : f2.type = ti ∧ f2.offset = 2)
    (htr : P.underlying tr = some (.int .i32)) (hti : P.underlying ti = some (.int .i64)) (cr : P.cellsOf tr = 1) (ci : P.cellsOf ti = 1) (cp : P.cellsOf tp = 3) (cc : P.cellsOf tc = 4) (cx : P.cellsOf tx = 5)
    (hf : DataW.trod enc P W 0 (fun _ => true) true fuel tx cs = some x) : ∃ y : RunV, cs = runV y ∧ fit64 y.1 ∧ fitC y.2 := by
  obtain ⟨ys, n', _, _, hlen, hyl, hfl⟩ := DataW.trod_struct hx hf
  have k0 := hfl 0 h0 rfl
  have k1 := hfl 1 h1 rfl
  have hys : ys.length = 2 := by simpa using hyl
  rw [b0.1, b0.2, ci, List.getElem?_eq_getElem (by omega)] at k0
  rw [b1.1, b1.2, cc, List.getElem?_eq_getElem (by omega)] at k1
  obtain ⟨z0, q0, _, w0⟩ := DataW.trod_int hti k0
  obtain ⟨c, q1, wc⟩ := cell_of hc d0 d1 hp e0 e1 e2 htr hti cr ci cp cc k1
  refine ⟨(z0, c), ?_, fit_i64 w0, wc⟩
  rw [cx] at hlen
  match cs, hlen with
  | [u0, u1, u2, u3, u4], _ =>
    simp only [cellV, List.drop_zero, List.take_succ_cons, List.take_zero, List.drop_succ_cons, List.cons.injEq, and_true] at q0 q1
    rw [q0, q1.1, q1.2.1, q1.2.2.1, q1.2.2.2]
    rfl
/-- A slice whose items are opened one by one. -/
theorem open_slice_of {α : Type} {f : α → List Value} {K : Nat} {Ok : α → Prop} {t e : TypeId} {v : Value} {d : DataW H} {p : List MemPlace} (hf : ∀ x, (f x).length = K) (hK : 0 < K) (ht : P.underlying t = some (.slice e)) (ce : P.cellsOf e = K)
    (hof : ∀ fuel cs x, DataW.trod enc P W 0 (fun _ => true) true fuel e cs = some x → ∃ y : α, cs = f y ∧ Ok y)
    (hv : Value.okWide P W .any base t v) (h : DataW.Trod enc P W 0 (fun _ => true) true t v d p) : ∃ a len cap l, v = .slice a len cap ∧ ReadsS f K W a len cap l ∧ ∀ x ∈ l, Ok x := by
  obtain ⟨a, len, cap, rfl⟩ := okWide_slice ht hv
  obtain ⟨fuel, hf'⟩ := h
  rcases Go.Deep.open_slice ht hf' with ⟨hcs, _⟩ | ⟨x, l, c, m, n, D, Pl, hcs, _, hl, hm, hmm, _, hi⟩
  · simp [Value.cells] at hcs
    obtain ⟨rfl, rfl, rfl⟩ := hcs
    exact ⟨_, _, _, [], rfl, .nil (by simp [maxLen]), by simp⟩
  · simp [Value.cells] at hcs
    obtain ⟨rfl, rfl, rfl⟩ := hcs
    simp only [if_true] at hmm
    have each : ∀ i, i < len → ∃ y : α, (∀ j v, (f y)[j]? = some v → W.cell? ((x.add (i * K)).add j) = some v) ∧ Ok y := by
      intro i hil
      obtain ⟨cs', hc, ht'⟩ := hi i (by omega)
      rw [ce] at hc
      obtain ⟨_, hcl, hat⟩ := World.cells?_some hc
      obtain ⟨y, hy, ho⟩ := hof _ _ _ ht'
      subst hy
      refine ⟨y, fun j v hv => ?_, ho⟩
      have hj : j < K := by
        rcases Nat.lt_or_ge j K with h | h
        · exact h
        · rw [List.getElem?_eq_none (by rw [hf]; exact h)] at hv; cases hv
      rw [hat j hj, hv]
    obtain ⟨ys, hyl, hy⟩ : ∃ ys : List α, ys.length = len ∧ ∀ i, (h : i < ys.length) → (∀ j v, (f ys[i])[j]? = some v → W.cell? ((x.add (i * K)).add j) = some v) ∧ Ok ys[i] := by
      have : ∀ k, k ≤ len → ∃ ys : List α, ys.length = k ∧ ∀ i, (h : i < ys.length) → (∀ j v, (f ys[i])[j]? = some v → W.cell? ((x.add (i * K)).add j) = some v) ∧ Ok ys[i] := by
        intro k
        induction k with
        | zero => intro _; exact ⟨[], rfl, by simp⟩
        | succ k ih =>
          intro hk
          obtain ⟨ys, h1, h2⟩ := ih (by omega)
          obtain ⟨y, h3⟩ := each k (by omega)
          refine ⟨ys ++ [y], by simp [h1], fun i hi => ?_⟩
          rcases Nat.lt_or_ge i ys.length with h | h
          · rw [List.getElem_append_left h]; exact h2 i h
          · have hik : i = ys.length := by simp at hi; omega
            subst hik
            rw [List.getElem_append_right (Nat.le_refl _)]
            simp only [Nat.sub_self, List.getElem_cons_zero]
            rw [h1]
            exact h3
      exact this len (Nat.le_refl _)
    have hlt : 0 < len → x.block < W.heap.size := by
      intro h0
      have h1 := (hy 0 (by omega)).1 0 _ (List.getElem?_eq_getElem (by rw [hf]; exact hK))
      have := block_lt_of_cell h1
      rwa [block_add, block_add] at this
    refine ⟨_, _, _, ys, rfl, ⟨hyl, hl, hm, fun i hi => ⟨x, rfl, hlt (by omega), (hy i hi).1⟩⟩, fun y hmem => ?_⟩
    obtain ⟨i, hi, rfl⟩ := List.mem_iff_getElem.1 hmem
    exact (hy i hi).2
end
/-! ### At this program -/
section
variable {H : Type} {enc : TypeId × Value → H} {W : World} {base : Nat}
theorem cellOf {fuel : Nat} {cs : List Value} {x : DataW H × List MemPlace} (hf : DataW.trod enc Tryd.prog W 0 (fun _ => true) true fuel 43 cs = some x) : ∃ c : CellV, cs = cellV c ∧ fitC c :=
  cell_of Tryd.underlying43 ⟨rfl, rfl⟩ ⟨rfl, rfl⟩ Tryd.underlying41 ⟨rfl, rfl⟩ ⟨rfl, rfl⟩ ⟨rfl, rfl⟩ Tryd.underlying21 Tryd.underlying3 (by kernel_rfl) (by kernel_rfl) (by kernel_rfl) (by kernel_rfl) hf
theorem open_cell {v : Value} {d : DataW H} {p : List MemPlace} (hv : Value.okWide Tryd.prog W .any base 43 v) (h : DataW.Trod enc Tryd.prog W 0 (fun _ => true) true 43 v d p) : ∃ c : CellV, v = .agg (cellV c).toArray ∧ fitC c := by
  obtain ⟨cs, rfl, _⟩ := okWide_struct Tryd.underlying43 hv
  obtain ⟨fuel, hf⟩ := h
  obtain ⟨c, e, hc⟩ := cellOf hf
  refine ⟨c, ?_, hc⟩
  obtain ⟨l⟩ := cs
  simp only [Value.cells] at e
  rw [e]
theorem open_cells {v : Value} {d : DataW H} {p : List MemPlace} (hv : Value.okWide Tryd.prog W .any base 31 v) (h : DataW.Trod enc Tryd.prog W 0 (fun _ => true) true 31 v d p) :
    ∃ a len cap l, v = .slice a len cap ∧ ReadsS cellV 4 W a len cap l ∧ ∀ x ∈ l, fitC x :=
  open_slice_of length_cellV (by decide) Tryd.underlying31 (by kernel_rfl) (fun _ _ _ => cellOf) hv h
end
end Go.Proofs.YtdldffgdipedpaaDoor
