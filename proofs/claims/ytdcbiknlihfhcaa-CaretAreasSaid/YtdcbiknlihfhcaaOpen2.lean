/- How further arguments of a statement are opened: an array of two slices of slices of integers, an array of two arrays of two integers. Conditions: the types are as said. -/
import Derived.Test.YtdcbiknlihfhcaaOpen
namespace Go.Proofs.Ytdcbiknlihfhcaa
open Go.ChangeShapes Go.WideShapes Go.ChangeAt Go.RowKit
section
variable {H : Type} {enc : TypeId × Value → H} {P : Program} {W : World} {base : Nat}
theorem rows_of {t e q : TypeId} {k : IntKind} {fuel : Nat} {cs : List Value} {x : DataW H × List MemPlace} (ht : P.underlying t = some (.slice e)) (he : P.underlying e = some (.slice q)) (hq : P.underlying q = some (.int k)) (ce : P.cellsOf e = 1) (cq : P.cellsOf q = 1) (hpos : ∀ z, (Lit.int k z).wf = true → 0 ≤ z)
    (hf : DataW.trod enc P W 0 (fun _ => true) true fuel t cs = some x) : ∃ a len cap ls, cs = [.slice a len cap] ∧ ReadsAll k W a len cap ls := by
  rcases Go.Deep.open_int_rows ht he hq ce cq hf with ⟨hcs, _⟩ | ⟨x, l, c, A, L, C, Z, hcs, _, hl, hm, _, hrow⟩
  · exact ⟨_, _, _, [], hcs, rfl, Nat.zero_le _, by simp [maxLen], by simp⟩
  · refine ⟨_, _, _, (List.range l).map (fun r => ((Z r).take (L r)).map Int.toNat), hcs, by simp, hl, hm, fun i hi => ?_⟩
    have hi' : i < l := by simpa using hi
    obtain ⟨h1, h2, h3, h4, h5, h6, h7⟩ := hrow i (by omega)
    refine ⟨x, A i, L i, C i, rfl, by have := block_lt_of_cell h1; rwa [block_add] at this, h1, ?_⟩
    simp only [List.getElem_map, List.getElem_range]
    refine Reads.of_row h2 h3 h4 (fun j hj => ?_) h5 hpos
    cases hA : A i with
    | none => have := h6 hA; omega
    | some a' => exact ⟨a', rfl, (h7 a' hA).2 j (by omega)⟩
theorem open_rows2 {t b e q : TypeId} {k : IntKind} {v : Value} {d : DataW H} {p : List MemPlace} (ht : P.underlying t = some (.array 2 b)) (hb : P.underlying b = some (.slice e)) (he : P.underlying e = some (.slice q)) (hq : P.underlying q = some (.int k))
    (ct : P.cellsOf t = 2) (cb : P.cellsOf b = 1) (ce : P.cellsOf e = 1) (cq : P.cellsOf q = 1) (hpos : ∀ z, (Lit.int k z).wf = true → 0 ≤ z)
    (hv : Value.okWide P W .any base t v) (h : DataW.Trod enc P W 0 (fun _ => true) true t v d p) :
    ∃ A n c ls B m d' ms, v = .agg #[.slice A n c, .slice B m d'] ∧ ReadsAll k W A n c ls ∧ ReadsAll k W B m d' ms := by
  obtain ⟨cs, rfl, _, _⟩ : ∃ cs, v = .agg cs ∧ cs.size = P.cellsOf t ∧ Row.okWide P W .any base t cs := by simpa [Value.okWide, ht] using hv
  obtain ⟨fuel, hf⟩ := h
  obtain ⟨xs, m, _, _, hlen, hxl, hel⟩ := DataW.trod_array ht hf
  obtain ⟨cs⟩ := cs
  simp only [Value.cells] at hlen hel
  rw [ct] at hlen
  rw [cb] at hel
  obtain ⟨u, v, rfl⟩ : ∃ u v, cs = [u, v] := by
    rcases cs with _ | ⟨u, _ | ⟨v, _ | ⟨_, _⟩⟩⟩ <;> simp at hlen
    exact ⟨u, v, rfl⟩
  have h0 := hel 0 (by omega)
  have h1 := hel 1 (by omega)
  rw [List.getElem?_eq_getElem (by omega)] at h0 h1
  obtain ⟨A, n, c, ls, e0, r0⟩ := rows_of hb he hq ce cq hpos h0
  obtain ⟨B, m', d', ms, e1, r1⟩ := rows_of hb he hq ce cq hpos h1
  have e0' : u = .slice A n c := by simpa using e0
  have e1' : v = .slice B m' d' := by simpa using e1
  subst e0' e1'
  exact ⟨A, n, c, ls, B, m', d', ms, rfl, r0, r1⟩
theorem open_ints4 {t b e : TypeId} {k : IntKind} {v : Value} {d : DataW H} {p : List MemPlace} (ht : P.underlying t = some (.array 2 b)) (hb : P.underlying b = some (.array 2 e)) (he : P.underlying e = some (.int k))
    (ct : P.cellsOf t = 4) (cb : P.cellsOf b = 2) (ce : P.cellsOf e = 1)
    (hv : Value.okWide P W .any base t v) (h : DataW.Trod enc P W 0 (fun _ => true) true t v d p) :
    ∃ x0 x1 x2 x3 : Int, v = .agg #[.int k x0, .int k x1, .int k x2, .int k x3] ∧ (Lit.int k x0).wf = true ∧ (Lit.int k x1).wf = true ∧ (Lit.int k x2).wf = true ∧ (Lit.int k x3).wf = true := by
  obtain ⟨cs, rfl, _, _⟩ : ∃ cs, v = .agg cs ∧ cs.size = P.cellsOf t ∧ Row.okWide P W .any base t cs := by simpa [Value.okWide, ht] using hv
  obtain ⟨fuel, hf⟩ := h
  obtain ⟨xs, m, _, _, hlen, hxl, hel⟩ := DataW.trod_array ht hf
  obtain ⟨cs⟩ := cs
  simp only [Value.cells] at hlen hel
  rw [ct] at hlen
  rw [cb] at hel
  obtain ⟨u0, u1, u2, u3, rfl⟩ : ∃ u0 u1 u2 u3, cs = [u0, u1, u2, u3] := by
    rcases cs with _ | ⟨u0, _ | ⟨u1, _ | ⟨u2, _ | ⟨u3, _ | ⟨_, _⟩⟩⟩⟩⟩ <;> simp at hlen
    exact ⟨u0, u1, u2, u3, rfl⟩
  have two : ∀ {fuel : Nat} {p q : Value} {x : DataW H × List MemPlace}, DataW.trod enc P W 0 (fun _ => true) true fuel b [p, q] = some x → ∃ y z : Int, p = .int k y ∧ q = .int k z ∧ (Lit.int k y).wf = true ∧ (Lit.int k z).wf = true := by
    intro fuel p q x hx
    obtain ⟨ys, m, _, _, hl, hyl, hy⟩ := DataW.trod_array hb hx
    rw [ce] at hy
    have g0 := hy 0 (by omega)
    have g1 := hy 1 (by omega)
    rw [List.getElem?_eq_getElem (by omega)] at g0 g1
    obtain ⟨y, e0, _, w0⟩ := DataW.trod_int he g0
    obtain ⟨z, e1, _, w1⟩ := DataW.trod_int he g1
    exact ⟨y, z, by simpa using e0, by simpa using e1, w0, w1⟩
  have h0 := hel 0 (by omega)
  have h1 := hel 1 (by omega)
  rw [List.getElem?_eq_getElem (by omega)] at h0 h1
  obtain ⟨y0, y1, rfl, rfl, a0, a1⟩ := two (by simpa using h0)
  obtain ⟨y2, y3, rfl, rfl, a2, a3⟩ := two (by simpa using h1)
  exact ⟨y0, y1, y2, y3, rfl, a0, a1, a2, a3⟩
theorem open_ints2 {t e : TypeId} {k : IntKind} {v : Value} {d : DataW H} {p : List MemPlace} (ht : P.underlying t = some (.array 2 e)) (he : P.underlying e = some (.int k)) (ct : P.cellsOf t = 2) (ce : P.cellsOf e = 1)
    (hv : Value.okWide P W .any base t v) (h : DataW.Trod enc P W 0 (fun _ => true) true t v d p) :
    ∃ x0 x1 : Int, v = .agg #[.int k x0, .int k x1] ∧ (Lit.int k x0).wf = true ∧ (Lit.int k x1).wf = true := by
  obtain ⟨cs, rfl, _, _⟩ : ∃ cs, v = .agg cs ∧ cs.size = P.cellsOf t ∧ Row.okWide P W .any base t cs := by simpa [Value.okWide, ht] using hv
  obtain ⟨fuel, hf⟩ := h
  obtain ⟨xs, m, _, _, hlen, hxl, hel⟩ := DataW.trod_array ht hf
  obtain ⟨cs⟩ := cs
  simp only [Value.cells] at hlen hel
  rw [ct] at hlen
  rw [ce] at hel
  obtain ⟨u, v, rfl⟩ : ∃ u v, cs = [u, v] := by
    rcases cs with _ | ⟨u, _ | ⟨v, _ | ⟨_, _⟩⟩⟩ <;> simp at hlen
    exact ⟨u, v, rfl⟩
  have g0 := hel 0 (by omega)
  have g1 := hel 1 (by omega)
  rw [List.getElem?_eq_getElem (by omega)] at g0 g1
  obtain ⟨y, e0, _, w0⟩ := DataW.trod_int he g0
  obtain ⟨z, e1, _, w1⟩ := DataW.trod_int he g1
  have e0' : u = .int k y := by simpa using e0
  have e1' : v = .int k z := by simpa using e1
  subst e0' e1'
  exact ⟨y, z, rfl, w0, w1⟩
end
end Go.Proofs.Ytdcbiknlihfhcaa
