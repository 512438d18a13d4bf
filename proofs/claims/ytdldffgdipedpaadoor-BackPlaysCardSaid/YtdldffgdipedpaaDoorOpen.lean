/- How the arguments of a statement are opened: a slice of integers reads as a list, an array of integers is a list, a slice of slices of integers reads as a list of lists. Conditions: the types are as said. -/
import Derived.Test.YtdldffgdipedpaaDoorShaMath
import Derived.ProofKit
import Derived.OpenShut
import Derived.Deep.Matrix
namespace Go.Proofs.YtdldffgdipedpaaDoor
open Go.ChangeShapes Go.WideShapes Go.ChangeAt Go.RowKit
def natOf : Option Value → Nat
  | some (Value.int _ z) => z.toNat
  | _ => 0
section
variable {H : Type} {enc : TypeId × Value → H} {P : Program} {W : World} {base : Nat}
theorem open_row {t e : TypeId} {k : IntKind} {v : Value} {d : DataW H} {p : List MemPlace} (ht : P.underlying t = some (.slice e)) (he : P.underlying e = some (.int k)) (ce : P.cellsOf e = 1) (hpos : ∀ z, (Lit.int k z).wf = true → 0 ≤ z)
    (hv : Value.okWide P W .any base t v) (h : DataW.Trod enc P W 0 (fun _ => true) true t v d p) : ∃ a len cap l, v = .slice a len cap ∧ Reads k W a len cap l := by
  obtain ⟨a, len, cap, rfl⟩ := okWide_slice ht hv
  obtain ⟨fuel, hf⟩ := h
  rcases open_ints ht he ce hf with ⟨hcs, _⟩ | ⟨x, l, c, zs, hcs, _, hl, hm, hz, _, hcell, hwz⟩
  · simp [Value.cells] at hcs
    obtain ⟨rfl, rfl, rfl⟩ := hcs
    exact ⟨_, _, _, [], rfl, Reads.nil.2 (by simp [maxLen])⟩
  · simp [Value.cells] at hcs
    obtain ⟨rfl, rfl, rfl⟩ := hcs
    exact ⟨_, _, _, _, rfl, Reads.of_row hl hm hz (fun i hi => ⟨x, rfl, hcell i hi⟩) hwz hpos⟩
theorem open_arr {t e : TypeId} {k : IntKind} {n : Nat} {v : Value} {d : DataW H} {p : List MemPlace} (ht : P.underlying t = some (.array n e)) (he : P.underlying e = some (.int k)) (ce : P.cellsOf e = 1) (ct : P.cellsOf t = n) (hpos : ∀ z, (Lit.int k z).wf = true → 0 ≤ z)
    (hv : Value.okWide P W .any base t v) (h : DataW.Trod enc P W 0 (fun _ => true) true t v d p) : ∃ l : List Nat, v = .agg (ints k l).toArray ∧ l.length = n ∧ ∀ x ∈ l, (Lit.int k (x : Int)).wf = true := by
  obtain ⟨cs, rfl, _, _⟩ : ∃ cs, v = .agg cs ∧ cs.size = P.cellsOf t ∧ Row.okWide P W .any base t cs := by simpa [Value.okWide, ht] using hv
  obtain ⟨fuel, hf⟩ := h
  obtain ⟨xs, m, _, _, hlen, hxl, hel⟩ := DataW.trod_array ht hf
  obtain ⟨cs⟩ := cs
  simp only [Value.cells] at hlen hel
  rw [ct] at hlen
  rw [ce] at hel
  have each : ∀ i, i < n → ∃ x : Nat, cs[i]? = some (.int k (x : Int)) ∧ (Lit.int k (x : Int)).wf = true := by
    intro i hi
    have h1 := hel i hi
    rw [List.getElem?_eq_getElem (by omega)] at h1
    obtain ⟨z, e1, _, hw⟩ := DataW.trod_int he h1
    obtain ⟨x, rfl⟩ := Int.eq_ofNat_of_zero_le (hpos z hw)
    refine ⟨x, ?_, hw⟩
    have h2 := congrArg (fun l : List Value => l[0]?) e1
    simpa using h2
  refine ⟨(List.range n).map fun i => natOf cs[i]?, ?_, by simp, ?_⟩
  · congr 2
    apply List.ext_getElem?
    intro i
    rcases Nat.lt_or_ge i n with hi | hi
    · obtain ⟨x, hx, _⟩ := each i hi
      rw [hx]
      simp [ints, hi, hx, natOf]
    · rw [List.getElem?_eq_none (by simpa using (by omega : cs.length ≤ i)), List.getElem?_eq_none (by simpa [ints] using hi)]
  · intro x hx
    obtain ⟨i, hi, rfl⟩ := List.mem_map.1 hx
    obtain ⟨y, hy, hw⟩ := each i (List.mem_range.1 hi)
    rw [hy]
    simpa [natOf] using hw
/-- A slice of slices of integers: row r reads as l r. -/
structure ReadsAll (k : IntKind) (w : World) (A : Option Addr) (n c : Nat) (ls : List (List Nat)) : Prop where
  len : ls.length = n
  room : n ≤ c
  cap : c ≤ maxLen
  row : ∀ i, (h : i < ls.length) → ∃ ad R m cr, A = some ad ∧ ad.block < w.heap.size ∧ w.cell? (ad.add i) = some (.slice R m cr) ∧ Reads k w R m cr ls[i]
theorem open_rows {t e q : TypeId} {k : IntKind} {v : Value} {d : DataW H} {p : List MemPlace} (ht : P.underlying t = some (.slice e)) (he : P.underlying e = some (.slice q)) (hq : P.underlying q = some (.int k)) (ce : P.cellsOf e = 1) (cq : P.cellsOf q = 1) (hpos : ∀ z, (Lit.int k z).wf = true → 0 ≤ z)
    (hv : Value.okWide P W .any base t v) (h : DataW.Trod enc P W 0 (fun _ => true) true t v d p) : ∃ a len cap ls, v = .slice a len cap ∧ ReadsAll k W a len cap ls := by
  obtain ⟨a, len, cap, rfl⟩ := okWide_slice ht hv
  obtain ⟨fuel, hf⟩ := h
  rcases Go.Deep.open_int_rows ht he hq ce cq hf with ⟨hcs, _⟩ | ⟨x, l, c, A, L, C, Z, hcs, _, hl, hm, _, hrow⟩
  · simp [Value.cells] at hcs
    obtain ⟨rfl, rfl, rfl⟩ := hcs
    exact ⟨_, _, _, [], rfl, rfl, Nat.zero_le _, by simp [maxLen], by simp⟩
  · simp [Value.cells] at hcs
    obtain ⟨rfl, rfl, rfl⟩ := hcs
    refine ⟨_, _, _, (List.range len).map (fun r => ((Z r).take (L r)).map Int.toNat), rfl, by simp, hl, hm, fun i hi => ?_⟩
    have hi' : i < len := by simpa using hi
    obtain ⟨h1, h2, h3, h4, h5, h6, h7⟩ := hrow i (by omega)
    refine ⟨x, A i, L i, C i, rfl, by have := block_lt_of_cell h1; rwa [block_add] at this, h1, ?_⟩
    simp only [List.getElem_map, List.getElem_range]
    refine Reads.of_row h2 h3 h4 (fun j hj => ?_) h5 hpos
    cases hA : A i with
    | none => have := h6 hA; omega
    | some a' => exact ⟨a', rfl, (h7 a' hA).2 j (by omega)⟩
end
end Go.Proofs.YtdldffgdipedpaaDoor
