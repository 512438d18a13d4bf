/- How a slice of layer 11's operations is opened (two integers each). Conditions: the types are as said. -/
import Derived.Test.YtdjpeopjfhoglaaOpen5
namespace Go.Proofs.Ytdjpeopjfhoglaa
open Go.ChangeShapes Go.WideShapes Go.ChangeAt Go.RowKit
/-- An operation: its kind and its number. -/
abbrev TopV : Type := Int × Int
def topV (o : TopV) : List Value := [.int .i64 o.1, .int .i64 o.2]
theorem length_topV (o : TopV) : (topV o).length = 2 := rfl
def fitT (o : TopV) : Prop := fit64 o.1 ∧ fit64 o.2
section
variable {H : Type} {enc : TypeId × Value → H} {W : World} {base : Nat}
theorem topOf {fuel : Nat} {cs : List Value} {x : DataW H × List MemPlace} (hf : DataW.trod enc Try.prog W 0 (fun _ => true) true fuel 33 cs = some x) : ∃ o : TopV, cs = topV o ∧ fitT o := by
  obtain ⟨ys, n', _, _, hlen, hyl, hfl⟩ := DataW.trod_struct Try.underlying33 hf
  have k0 := hfl 0 _ rfl
  have k1 := hfl 1 _ rfl
  have hys : ys.length = 2 := by simpa using hyl
  have ci : Try.prog.cellsOf 3 = 1 := by kernel_rfl
  have cg : Try.prog.cellsOf 33 = 2 := by kernel_rfl
  rw [cg] at hlen
  simp only [List.getElem_toArray, List.getElem_cons_zero, List.getElem_cons_succ, ci] at k0 k1
  rw [List.getElem?_eq_getElem (by omega)] at k0 k1
  obtain ⟨z0, q0, _, w0⟩ := DataW.trod_int Try.underlying3 k0
  obtain ⟨z1, q1, _, w1⟩ := DataW.trod_int Try.underlying3 k1
  refine ⟨(z0, z1), ?_, fit_i64 w0, fit_i64 w1⟩
  match cs, hlen with
  | [u0, u1], _ =>
    simp only [List.drop_zero, List.take_succ_cons, List.take_zero, List.drop_succ_cons, List.cons.injEq, and_true] at q0 q1
    rw [q0, q1]
    rfl
theorem open_tops {v : Value} {d : DataW H} {p : List MemPlace} (hv : Value.okWide Try.prog W .any base 22 v) (h : DataW.Trod enc Try.prog W 0 (fun _ => true) true 22 v d p) :
    ∃ a len cap l, v = .slice a len cap ∧ ReadsS topV 2 W a len cap l ∧ ∀ x ∈ l, fitT x :=
  open_slice_of length_topV (by decide) Try.underlying22 (by kernel_rfl) (fun _ _ _ => topOf) hv h
end
end Go.Proofs.Ytdjpeopjfhoglaa
