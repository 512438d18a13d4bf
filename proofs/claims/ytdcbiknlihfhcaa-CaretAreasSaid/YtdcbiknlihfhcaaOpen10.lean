/- How arguments of a statement are opened that are areas (four integers and a truth value) and carets (two integers and a truth value) by value. Conditions: the types are as said. -/
import Derived.Test.YtdcbiknlihfhcaaOpen5
import Derived.ChangeArms
namespace Go.Proofs.Ytdcbiknlihfhcaa
open Go.ChangeShapes Go.WideShapes Go.ChangeAt Go.RowKit
/-- An area: rows, columns, top, bottom, origin. -/
abbrev AreaV : Type := Int × Int × Int × Int × Bool
/-- A caret: row, column, wait. -/
abbrev CaretV : Type := Int × Int × Bool
section
variable {H : Type} {enc : TypeId × Value → H} {P : Program} {W : World} {base : Nat}
theorem area_of {ta ti tb : TypeId} {f0 f1 f2 f3 f4 : Field} {fuel : Nat} {cs : List Value} {x : DataW H × List MemPlace} (hp : P.underlying ta = some (.struct #[f0, f1, f2, f3, f4]))
    (e0 : f0.type = ti ∧ f0.offset = 0) (e1 : f1.type = ti ∧ f1.offset = 1) (e2 : f2.type = ti ∧ f2.offset = 2) (e3 : f3.type = ti ∧ f3.offset = 3) (e4 : f4.type = tb ∧ f4.offset = 4)
    (hti : P.underlying ti = some (.int .i64)) (htb : P.underlying tb = some .bool) (ci : P.cellsOf ti = 1) (cb : P.cellsOf tb = 1) (cp : P.cellsOf ta = 5)
    (hf : DataW.trod enc P W 0 (fun _ => true) true fuel ta cs = some x) : ∃ c : AreaV, cs = [.int .i64 c.1, .int .i64 c.2.1, .int .i64 c.2.2.1, .int .i64 c.2.2.2.1, .bool c.2.2.2.2] ∧ fit64 c.1 ∧ fit64 c.2.1 ∧ fit64 c.2.2.1 ∧ fit64 c.2.2.2.1 := by
  obtain ⟨ys, n', _, _, hlen, hyl, hfl⟩ := DataW.trod_struct hp hf
  have g0 := hfl 0 f0 rfl
  have g1 := hfl 1 f1 rfl
  have g2 := hfl 2 f2 rfl
  have g3 := hfl 3 f3 rfl
  have g4 := hfl 4 f4 rfl
  have hys : ys.length = 5 := by simpa using hyl
  rw [e0.1, e0.2, ci, List.getElem?_eq_getElem (by omega)] at g0
  rw [e1.1, e1.2, ci, List.getElem?_eq_getElem (by omega)] at g1
  rw [e2.1, e2.2, ci, List.getElem?_eq_getElem (by omega)] at g2
  rw [e3.1, e3.2, ci, List.getElem?_eq_getElem (by omega)] at g3
  rw [e4.1, e4.2, cb, List.getElem?_eq_getElem (by omega)] at g4
  obtain ⟨z0, q0, _, w0⟩ := DataW.trod_int hti g0
  obtain ⟨z1, q1, _, w1⟩ := DataW.trod_int hti g1
  obtain ⟨z2, q2, _, w2⟩ := DataW.trod_int hti g2
  obtain ⟨z3, q3, _, w3⟩ := DataW.trod_int hti g3
  obtain ⟨z4, q4, _⟩ := DataW.trod_bool htb g4
  refine ⟨(z0, z1, z2, z3, z4), ?_, fit_i64 w0, fit_i64 w1, fit_i64 w2, fit_i64 w3⟩
  rw [cp] at hlen
  match cs, hlen with
  | [u0, u1, u2, u3, u4], _ =>
    simp only [List.drop_zero, List.take_succ_cons, List.take_zero, List.drop_succ_cons, List.cons.injEq, and_true] at q0 q1 q2 q3 q4
    rw [q0, q1, q2, q3, q4]
theorem caret_of {ta ti tb : TypeId} {f0 f1 f2 : Field} {fuel : Nat} {cs : List Value} {x : DataW H × List MemPlace} (hp : P.underlying ta = some (.struct #[f0, f1, f2]))
    (e0 : f0.type = ti ∧ f0.offset = 0) (e1 : f1.type = ti ∧ f1.offset = 1) (e2 : f2.type = tb ∧ f2.offset = 2)
    (hti : P.underlying ti = some (.int .i64)) (htb : P.underlying tb = some .bool) (ci : P.cellsOf ti = 1) (cb : P.cellsOf tb = 1) (cp : P.cellsOf ta = 3)
    (hf : DataW.trod enc P W 0 (fun _ => true) true fuel ta cs = some x) : ∃ c : CaretV, cs = [.int .i64 c.1, .int .i64 c.2.1, .bool c.2.2] ∧ fit64 c.1 ∧ fit64 c.2.1 := by
  obtain ⟨ys, n', _, _, hlen, hyl, hfl⟩ := DataW.trod_struct hp hf
  have g0 := hfl 0 f0 rfl
  have g1 := hfl 1 f1 rfl
  have g2 := hfl 2 f2 rfl
  have hys : ys.length = 3 := by simpa using hyl
  rw [e0.1, e0.2, ci, List.getElem?_eq_getElem (by omega)] at g0
  rw [e1.1, e1.2, ci, List.getElem?_eq_getElem (by omega)] at g1
  rw [e2.1, e2.2, cb, List.getElem?_eq_getElem (by omega)] at g2
  obtain ⟨z0, q0, _, w0⟩ := DataW.trod_int hti g0
  obtain ⟨z1, q1, _, w1⟩ := DataW.trod_int hti g1
  obtain ⟨z2, q2, _⟩ := DataW.trod_bool htb g2
  refine ⟨(z0, z1, z2), ?_, fit_i64 w0, fit_i64 w1⟩
  rw [cp] at hlen
  match cs, hlen with
  | [u0, u1, u2], _ =>
    simp only [List.drop_zero, List.take_succ_cons, List.take_zero, List.drop_succ_cons, List.cons.injEq, and_true] at q0 q1 q2
    rw [q0, q1, q2]
end
section
variable {H : Type} {enc : TypeId × Value → H} {W : World} {base : Nat}
theorem open_area {v : Value} {d : DataW H} {p : List MemPlace} (hv : Value.okWide Try.prog W .any base 23 v) (h : DataW.Trod enc Try.prog W 0 (fun _ => true) true 23 v d p) :
    ∃ c : AreaV, v = .agg #[.int .i64 c.1, .int .i64 c.2.1, .int .i64 c.2.2.1, .int .i64 c.2.2.2.1, .bool c.2.2.2.2] ∧ fit64 c.1 ∧ fit64 c.2.1 ∧ fit64 c.2.2.1 ∧ fit64 c.2.2.2.1 := by
  obtain ⟨cs, rfl, _⟩ := okWide_struct Try.underlying23 hv
  obtain ⟨fuel, hf⟩ := h
  obtain ⟨c, e, hc⟩ := area_of Try.underlying23 ⟨rfl, rfl⟩ ⟨rfl, rfl⟩ ⟨rfl, rfl⟩ ⟨rfl, rfl⟩ ⟨rfl, rfl⟩ Try.underlying3 Try.underlying4 (by kernel_rfl) (by kernel_rfl) (by kernel_rfl) hf
  refine ⟨c, ?_, hc⟩
  obtain ⟨l⟩ := cs
  simp only [Value.cells] at e
  rw [e]
theorem open_caret {v : Value} {d : DataW H} {p : List MemPlace} (hv : Value.okWide Try.prog W .any base 25 v) (h : DataW.Trod enc Try.prog W 0 (fun _ => true) true 25 v d p) :
    ∃ c : CaretV, v = .agg #[.int .i64 c.1, .int .i64 c.2.1, .bool c.2.2] ∧ fit64 c.1 ∧ fit64 c.2.1 := by
  obtain ⟨cs, rfl, _⟩ := okWide_struct Try.underlying25 hv
  obtain ⟨fuel, hf⟩ := h
  obtain ⟨c, e, hc⟩ := caret_of Try.underlying25 ⟨rfl, rfl⟩ ⟨rfl, rfl⟩ ⟨rfl, rfl⟩ Try.underlying3 Try.underlying4 (by kernel_rfl) (by kernel_rfl) (by kernel_rfl) hf
  refine ⟨c, ?_, hc⟩
  obtain ⟨l⟩ := cs
  simp only [Value.cells] at e
  rw [e]
end
end Go.Proofs.Ytdcbiknlihfhcaa
