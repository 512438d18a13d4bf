/- How further arguments of a statement are opened: a slice of signed integers. Conditions: the types are as said. -/
import Derived.Test.YtdldffgdipedpaaDoorOpen
namespace Go.Proofs.YtdldffgdipedpaaDoor
open Go.ChangeShapes Go.WideShapes Go.ChangeAt Go.RowKit
/-- The slice value '.slice A n c' reads as the integers l in the world w. -/
structure ReadsI (k : IntKind) (w : World) (A : Option Addr) (n c : Nat) (l : List Int) : Prop where
  len : l.length = n
  room : n ≤ c
  cap : c ≤ maxLen
  wf : ∀ x ∈ l, (Lit.int k x).wf = true
  cell : ∀ i, (h : i < l.length) → ∃ ad, A = some ad ∧ ad.block < w.heap.size ∧ w.cell? (ad.add i) = some (.int k l[i])
theorem ReadsI.keep {k : IntKind} {w w' : World} {A : Option Addr} {n c : Nat} {l : List Int} (h : ReadsI k w A n c l) (hb : Below w.heap.size w w') : ReadsI k w' A n c l :=
  ⟨h.len, h.room, h.cap, h.wf, fun i hi => by
    obtain ⟨ad, e, hlt, hc⟩ := h.cell i hi
    exact ⟨ad, e, Nat.lt_of_lt_of_le hlt hb.size, (hb.cell (by rw [block_add]; exact hlt)).trans hc⟩⟩
section
variable {H : Type} {enc : TypeId × Value → H} {P : Program} {W : World} {base : Nat}
theorem open_rowI {t e : TypeId} {k : IntKind} {v : Value} {d : DataW H} {p : List MemPlace} (ht : P.underlying t = some (.slice e)) (he : P.underlying e = some (.int k)) (ce : P.cellsOf e = 1)
    (hv : Value.okWide P W .any base t v) (h : DataW.Trod enc P W 0 (fun _ => true) true t v d p) : ∃ a len cap l, v = .slice a len cap ∧ ReadsI k W a len cap l := by
  obtain ⟨a, len, cap, rfl⟩ := okWide_slice ht hv
  obtain ⟨fuel, hf⟩ := h
  rcases open_ints ht he ce hf with ⟨hcs, _⟩ | ⟨x, l, c, zs, hcs, _, hl, hm, hz, _, hcell, hwz⟩
  · simp [Value.cells] at hcs
    obtain ⟨rfl, rfl, rfl⟩ := hcs
    exact ⟨_, _, _, [], rfl, rfl, Nat.le_refl _, by simp [maxLen], by simp, by simp⟩
  · simp [Value.cells] at hcs
    obtain ⟨rfl, rfl, rfl⟩ := hcs
    refine ⟨_, _, _, zs.take len, rfl, by simp [hz, hl], hl, hm, fun z hz' => hwz z (List.mem_of_mem_take hz'), fun i hi => ?_⟩
    have hi' : i < zs.length := by simp at hi; omega
    have h1 := hcell i hi'
    refine ⟨x, rfl, by have := block_lt_of_cell h1; rwa [block_add] at this, ?_⟩
    rw [h1]
    simp [List.getD_eq_getElem?_getD, List.getElem?_eq_getElem hi']
end
end Go.Proofs.YtdldffgdipedpaaDoor
