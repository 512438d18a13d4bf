/- How a slice of layer 10's operations is opened (four integers and a cell each). Conditions: the types are as said. -/
import Derived.Test.YtgmfmhlboehdoaaOpen6
namespace Go.Proofs.Ytgmfmhlboehdoaa
open Go.ChangeShapes Go.WideShapes Go.ChangeAt Go.RowKit
section
variable {H : Type} {enc : TypeId × Value → H} {W : World} {base : Nat}
theorem opOf {fuel : Nat} {cs : List Value} {x : DataW H × List MemPlace} (hf : DataW.trod enc Try.prog W 0 (fun _ => true) true fuel 40 cs = some x) : ∃ o : OpV, cs = opV o ∧ fitO o := by
  obtain ⟨ys, n', _, _, hlen, hyl, hfl⟩ := DataW.trod_struct Try.underlying40 hf
  have k0 := hfl 0 _ rfl
  have k1 := hfl 1 _ rfl
  have k2 := hfl 2 _ rfl
  have k3 := hfl 3 _ rfl
  have k4 := hfl 4 _ rfl
  have hys : ys.length = 5 := by simpa using hyl
  have ci : Try.prog.cellsOf 3 = 1 := by kernel_rfl
  have cl : Try.prog.cellsOf 38 = 4 := by kernel_rfl
  have cg : Try.prog.cellsOf 40 = 8 := by kernel_rfl
  rw [cg] at hlen
  simp only [List.getElem_toArray, List.getElem_cons_zero, List.getElem_cons_succ, ci, cl] at k0 k1 k2 k3 k4
  rw [List.getElem?_eq_getElem (by omega)] at k0 k1 k2 k3 k4
  obtain ⟨z0, q0, _, w0⟩ := DataW.trod_int Try.underlying3 k0
  obtain ⟨z1, q1, _, w1⟩ := DataW.trod_int Try.underlying3 k1
  obtain ⟨z2, q2, _, w2⟩ := DataW.trod_int Try.underlying3 k2
  obtain ⟨z3, q3, _, w3⟩ := DataW.trod_int Try.underlying3 k3
  obtain ⟨c, q4, wc⟩ := cellOf k4
  refine ⟨(z0, z1, z2, z3, c), ?_, fit_i64 w0, fit_i64 w1, fit_i64 w2, fit_i64 w3, wc⟩
  match cs, hlen with
  | [u0, u1, u2, u3, u4, u5, u6, u7], _ =>
    simp only [cellV, List.drop_zero, List.take_succ_cons, List.take_zero, List.drop_succ_cons, List.cons.injEq, and_true] at q0 q1 q2 q3 q4
    rw [q0, q1, q2, q3, q4.1, q4.2.1, q4.2.2.1, q4.2.2.2]
    rfl
theorem open_ops {v : Value} {d : DataW H} {p : List MemPlace} (hv : Value.okWide Try.prog W .any base 22 v) (h : DataW.Trod enc Try.prog W 0 (fun _ => true) true 22 v d p) :
    ∃ a len cap l, v = .slice a len cap ∧ ReadsS opV 8 W a len cap l ∧ ∀ x ∈ l, fitO x :=
  open_slice_of length_opV (by decide) Try.underlying22 (by kernel_rfl) (fun _ _ _ => opOf) hv h
end
end Go.Proofs.Ytgmfmhlboehdoaa
