/- How an argument of a statement is opened that is a slice of slices of cells: it reads as a list of rows. Conditions: the types are as said. -/
import Derived.Test.YtdldffgdipedpaaDoorOpen5
import Derived.Test.YtdldffgdipedpaaDoorBack0
namespace Go.Proofs.YtdldffgdipedpaaDoor
open Go.ChangeShapes Go.WideShapes Go.ChangeAt Go.RowKit
section
variable {H : Type} {enc : TypeId × Value → H} {P : Program} {W : World} {base : Nat}
/-- A slice within a row of memory whose items are opened one by one. -/
theorem slice_of {α : Type} {f : α → List Value} {K : Nat} {Ok : α → Prop} {t e : TypeId} {fuel0 : Nat} {cs0 : List Value} {x0 : DataW H × List MemPlace} (hf : ∀ x, (f x).length = K) (hK : 0 < K) (ht : P.underlying t = some (.slice e)) (ce : P.cellsOf e = K)
    (hof : ∀ fuel cs x, DataW.trod enc P W 0 (fun _ => true) true fuel e cs = some x → ∃ y : α, cs = f y ∧ Ok y)
    (hf' : DataW.trod enc P W 0 (fun _ => true) true fuel0 t cs0 = some x0) : ∃ a len cap l, cs0 = [.slice a len cap] ∧ ReadsS f K W a len cap l ∧ ∀ x ∈ l, Ok x := by
  rcases Go.Deep.open_slice ht hf' with ⟨hcs, _⟩ | ⟨x, l, c, m, n, D, Pl, hcs, _, hl, hm, hmm, _, hi⟩
  · exact ⟨_, _, _, [], hcs, .nil (by simp [maxLen]), by simp⟩
  · simp only [if_true] at hmm
    have each : ∀ i, i < l → ∃ y : α, (∀ j v, (f y)[j]? = some v → W.cell? ((x.add (i * K)).add j) = some v) ∧ Ok y := by
      intro i hil
      obtain ⟨cs', hc, ht'⟩ := hi i (by omega)
      rw [ce] at hc
      obtain ⟨_, hcl, hat⟩ := World.cells?_some hc
      obtain ⟨y, hy, ho⟩ := hof _ _ _ ht'
      subst hy
      refine ⟨y, fun j v hv => ?_, ho⟩
      have hj : j < K := by
        rcases Nat.lt_or_ge j K with h | h
        · exact h
        · rw [List.getElem?_eq_none (by rw [hf]; exact h)] at hv; cases hv
      rw [hat j hj, hv]
    obtain ⟨ys, hyl, hy⟩ : ∃ ys : List α, ys.length = l ∧ ∀ i, (h : i < ys.length) → (∀ j v, (f ys[i])[j]? = some v → W.cell? ((x.add (i * K)).add j) = some v) ∧ Ok ys[i] := by
      have : ∀ k, k ≤ l → ∃ ys : List α, ys.length = k ∧ ∀ i, (h : i < ys.length) → (∀ j v, (f ys[i])[j]? = some v → W.cell? ((x.add (i * K)).add j) = some v) ∧ Ok ys[i] := by
        intro k
        induction k with
        | zero => intro _; exact ⟨[], rfl, by simp⟩
        | succ k ih =>
          intro hk
          obtain ⟨ys, h1, h2⟩ := ih (by omega)
          obtain ⟨y, h3⟩ := each k (by omega)
          refine ⟨ys ++ [y], by simp [h1], fun i hi => ?_⟩
          rcases Nat.lt_or_ge i ys.length with h | h
          · rw [List.getElem_append_left h]; exact h2 i h
          · have hik : i = ys.length := by simp at hi; omega
            subst hik
            rw [List.getElem_append_right (Nat.le_refl _)]
            simp only [Nat.sub_self, List.getElem_cons_zero]
            rw [h1]
            exact h3
      exact this l (Nat.le_refl _)
    have hlt : 0 < l → x.block < W.heap.size := by
      intro h0
      have h1 := (hy 0 (by omega)).1 0 _ (List.getElem?_eq_getElem (by rw [hf]; exact hK))
      have := block_lt_of_cell h1
      rwa [block_add, block_add] at this
    refine ⟨_, _, _, ys, hcs, ⟨hyl, hl, hm, fun i hi => ⟨x, rfl, hlt (by omega), (hy i hi).1⟩⟩, fun y hmem => ?_⟩
    obtain ⟨i, hi, rfl⟩ := List.mem_iff_getElem.1 hmem
    exact (hy i hi).2
end
section
variable {H : Type} {enc : TypeId × Value → H} {W : World} {base : Nat}
theorem open_rowsC {v : Value} {d : DataW H} {p : List MemPlace} (hv : Value.okWide Tryd.prog W .any base 22 v) (h : DataW.Trod enc Tryd.prog W 0 (fun _ => true) true 22 v d p) :
    ∃ a len cap ls, v = .slice a len cap ∧ ReadsR (fun _ => False) W a len cap ls ∧ ∀ l ∈ ls, ∀ x ∈ l, fitC x := by
  obtain ⟨a, len, cap, l, rfl, hr, ho⟩ := open_slice_of (f := fun y : Value × List CellV => [y.1]) (K := 1) (Ok := fun y => RowS (fun _ => False) W y.1 y.2 ∧ ∀ x ∈ y.2, fitC x) (fun _ => rfl) (by decide) Tryd.underlying22 (by kernel_rfl)
    (fun fuel cs x hf => by
      obtain ⟨a, len, cap, l, hcs, hr, ho⟩ := slice_of length_cellV (by decide) Tryd.underlying31 (by kernel_rfl) (fun _ _ _ => cellOf) hf
      exact ⟨(.slice a len cap, l), hcs, ⟨a, len, cap, rfl, hr, fun _ _ _ h => h⟩, ho⟩) hv h
  refine ⟨a, len, cap, l.map (·.2), rfl, ⟨by rw [List.length_map, hr.len], hr.room, hr.cap, fun i hi => ?_⟩, fun y hy => ?_⟩
  · have hi' : i < l.length := by simpa using hi
    obtain ⟨ad, e, hlt, hc⟩ := hr.cell i hi'
    have h1 := hc 0 _ rfl
    rw [Nat.mul_one, add_add, Nat.add_zero] at h1
    exact ⟨ad, _, e, hlt, fun h => h, h1, by rw [List.getElem_map]; exact (ho _ (List.getElem_mem hi')).1⟩
  · obtain ⟨z, hz, rfl⟩ := List.mem_map.1 hy
    exact (ho z hz).2
end
end Go.Proofs.YtdldffgdipedpaaDoor
