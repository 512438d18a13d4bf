/- How arguments of a statement of layer 10 are opened: grids (two integers and a slice of cells) and slices of operations (four integers and a cell). Conditions: the types are as said. -/
import Derived.Test.YtgmfmhlboehdoaaOpen5
import Derived.Test.YtgmfmhlboehdoaaGrid5
namespace Go.Proofs.Ytgmfmhlboehdoaa
open Go.ChangeShapes Go.WideShapes Go.ChangeAt Go.RowKit
/-- An operation: its kind, three numbers and a cell. -/
abbrev OpV : Type := Int × Int × Int × Int × CellV
def opV (o : OpV) : List Value := .int .i64 o.1 :: .int .i64 o.2.1 :: .int .i64 o.2.2.1 :: .int .i64 o.2.2.2.1 :: cellV o.2.2.2.2
theorem length_opV (o : OpV) : (opV o).length = 8 := rfl
def fitO (o : OpV) : Prop := fit64 o.1 ∧ fit64 o.2.1 ∧ fit64 o.2.2.1 ∧ fit64 o.2.2.2.1 ∧ fitC o.2.2.2.2
section
variable {H : Type} {enc : TypeId × Value → H} {P : Program} {W : World} {base : Nat}
/-- The slice in a struct's field, its items opened one by one. -/
theorem rowS_of {α : Type} {f : α → List Value} {K : Nat} {Ok : α → Prop} {t e : TypeId} {fuel : Nat} {cs : List Value} {x0 : DataW H × List MemPlace} (hf : ∀ x, (f x).length = K) (hK : 0 < K) (ht : P.underlying t = some (.slice e)) (ce : P.cellsOf e = K)
    (hof : ∀ fuel cs x, DataW.trod enc P W 0 (fun _ => true) true fuel e cs = some x → ∃ y : α, cs = f y ∧ Ok y)
    (hf0 : DataW.trod enc P W 0 (fun _ => true) true fuel t cs = some x0) : ∃ a len cap l, cs = [.slice a len cap] ∧ ReadsS f K W a len cap l ∧ ∀ x ∈ l, Ok x := by
  rcases Go.Deep.open_slice ht hf0 with ⟨hcs, _⟩ | ⟨x, len, cap, m, n, D, Pl, hcs, _, hl, hm, hmm, _, hi⟩
  · exact ⟨_, _, _, [], hcs, .nil (by simp [maxLen]), by simp⟩
  · subst hcs
    simp only [if_true] at hmm
    have each : ∀ i, i < len → ∃ y : α, (∀ j v, (f y)[j]? = some v → W.cell? ((x.add (i * K)).add j) = some v) ∧ Ok y := by
      intro i hil
      obtain ⟨cs', hc, ht'⟩ := hi i (by omega)
      rw [ce] at hc
      obtain ⟨_, hcl, hat⟩ := World.cells?_some hc
      obtain ⟨y, hy, ho⟩ := hof _ _ _ ht'
      subst hy
      refine ⟨y, fun j v hv => ?_, ho⟩
      have hj : j < K := by
        rcases Nat.lt_or_ge j K with h | h
        · exact h
        · rw [List.getElem?_eq_none (by rw [hf]; exact h)] at hv; cases hv
      rw [hat j hj, hv]
    obtain ⟨ys, hyl, hy⟩ : ∃ ys : List α, ys.length = len ∧ ∀ i, (h : i < ys.length) → (∀ j v, (f ys[i])[j]? = some v → W.cell? ((x.add (i * K)).add j) = some v) ∧ Ok ys[i] := by
      have : ∀ k, k ≤ len → ∃ ys : List α, ys.length = k ∧ ∀ i, (h : i < ys.length) → (∀ j v, (f ys[i])[j]? = some v → W.cell? ((x.add (i * K)).add j) = some v) ∧ Ok ys[i] := by
        intro k
        induction k with
        | zero => intro _; exact ⟨[], rfl, by simp⟩
        | succ k ih =>
          intro hk
          obtain ⟨ys, h1, h2⟩ := ih (by omega)
          obtain ⟨y, h3⟩ := each k (by omega)
          refine ⟨ys ++ [y], by simp [h1], fun i hi => ?_⟩
          rcases Nat.lt_or_ge i ys.length with h | h
          · rw [List.getElem_append_left h]; exact h2 i h
          · have hik : i = ys.length := by simp at hi; omega
            subst hik
            rw [List.getElem_append_right (Nat.le_refl _)]
            simp only [Nat.sub_self, List.getElem_cons_zero]
            rw [h1]
            exact h3
      exact this len (Nat.le_refl _)
    have hlt : 0 < len → x.block < W.heap.size := by
      intro h0
      have h1 := (hy 0 (by omega)).1 0 _ (List.getElem?_eq_getElem (by rw [hf]; exact hK))
      have := block_lt_of_cell h1
      rwa [block_add, block_add] at this
    refine ⟨_, _, _, ys, rfl, ⟨hyl, hl, hm, fun i hi => ⟨x, rfl, hlt (by omega), (hy i hi).1⟩⟩, fun y hmem => ?_⟩
    obtain ⟨i, hi, rfl⟩ := List.mem_iff_getElem.1 hmem
    exact (hy i hi).2
end
section
variable {H : Type} {enc : TypeId × Value → H} {W : World} {base : Nat}
theorem open_grid {v : Value} {d : DataW H} {p : List MemPlace} (hv : Value.okWide Try.prog W .any base 31 v) (h : DataW.Trod enc Try.prog W 0 (fun _ => true) true 31 v d p) :
    ∃ (r c : Int) (A : Option Addr) (n k : Nat) (l : List CellV), v = .agg (gridV r c A n k).toArray ∧ ReadsS cellV 4 W A n k l ∧ (∀ x ∈ l, fitC x) ∧ fit64 r ∧ fit64 c := by
  obtain ⟨cs, rfl, _⟩ := okWide_struct Try.underlying31 hv
  obtain ⟨fuel, hf⟩ := h
  obtain ⟨cs⟩ := cs
  obtain ⟨ys, n', _, _, hlen, hyl, hfl⟩ := DataW.trod_struct Try.underlying31 hf
  have k0 := hfl 0 _ rfl
  have k1 := hfl 1 _ rfl
  have k2 := hfl 2 _ rfl
  have hys : ys.length = 3 := by simpa using hyl
  have ci : Try.prog.cellsOf 3 = 1 := by kernel_rfl
  have cl : Try.prog.cellsOf 29 = 1 := by kernel_rfl
  have cg : Try.prog.cellsOf 31 = 3 := by kernel_rfl
  simp only [Value.cells, cg] at hlen
  simp only [List.getElem_toArray, List.getElem_cons_zero, List.getElem_cons_succ, Value.cells, ci, cl] at k0 k1 k2
  rw [List.getElem?_eq_getElem (by omega)] at k0 k1 k2
  obtain ⟨z0, q0, _, w0⟩ := DataW.trod_int Try.underlying3 k0
  obtain ⟨z1, q1, _, w1⟩ := DataW.trod_int Try.underlying3 k1
  obtain ⟨a, n, k, l, q2, hr, hfit⟩ := rowS_of length_cellV (by decide) Try.underlying29 (by kernel_rfl) (fun _ _ _ => cellOf) k2
  refine ⟨z0, z1, a, n, k, l, ?_, hr, hfit, fit_i64 w0, fit_i64 w1⟩
  match cs, hlen with
  | [u0, u1, u2], _ =>
    simp only [List.drop_zero, List.take_succ_cons, List.take_zero, List.drop_succ_cons, List.cons.injEq, and_true] at q0 q1 q2
    rw [q0, q1, q2]
    rfl
end
end Go.Proofs.Ytgmfmhlboehdoaa
