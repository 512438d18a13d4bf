/- Laws for walks through slice expressions s[i:j] and s[i:]: the part of a slice that reads as a list reads as the part of that list, its address under a name. Conditions: none; it speaks of no program. -/
import Derived.Test.YtdldffgdipedpaaDoorRegs
namespace Go.Proofs.YtdldffgdipedpaaDoor
open Go.RowKit
theorem Reads.only' {w w' : World} {g : Nat} {k : IntKind} {A : Option Addr} {n c : Nat} {l : List Nat} (h : Reads k w A n c l) (ho : 0 < n → Off A g) (hb : w.grownBy w' (some g)) : Reads k w' A n c l := by
  rcases Nat.eq_zero_or_pos n with h0 | h0
  · subst h0
    have : l = [] := List.eq_nil_of_length_eq_zero h.len
    subst this
    exact Reads.nil.2 h.cap
  · exact h.only (ho h0) hb
theorem elem_of {P : Program} {t e : TypeId} (hu : P.underlying t = some (.slice e)) : P.elem t = e := by unfold Program.elem; rw [hu]
theorem run_size1 {P : Program} {e : TypeId} (hs : (P.info? e).map (·.size) = some 1) (w : World) : (sizeOf e).run P w = .ok 1 w := by
  cases hq : P.info? e with
  | none => simp [hq] at hs
  | some i =>
    have : i.size = 1 := by simpa [hq] using hs
    simp [sizeOf, typeInfo, hq, this]
section
variable {P : Program} {w : World} {t e : TypeId} {k : IntKind} {A : Option Addr} {N C : Nat} {L : List Nat}
theorem run_cut (hu : P.underlying t = some (.slice e)) (hs : (P.info? e).map (·.size) = some 1) (hr : Reads k w A N C L) (kl kh : IntKind) (i m : Nat) (hi hj : Int) (e1 : hi = (i : Int)) (e2 : hj = ((i + m : Nat) : Int)) (h : i + m ≤ N) :
    ∃ A', (Instr.sliceAt t (.slice A N C) (some (.int kl hi)) (some (.int kh hj)) none).run P w = .ok (.slice A' m (C - i)) w ∧ ∀ W, Reads k W A N C L → Reads k W A' m (C - i) ((L.drop i).take m) := by
  have ht : P.underlying t = some (.slice (P.elem t)) := by rw [elem_of hu]; exact hu
  have hroom := hr.room
  subst e1 e2
  refine ⟨if C = i then A else A.map fun x => x.add i, ?_, fun W hr => reads_pre (reads_suf hr i (by omega)) m (by omega)⟩
  rw [run_sliceAt_slice (P := P) w t _ _ _ _ ht, run_slice_lh (P := P) w t A N C ht kl kh (i : Int) ((i + m : Nat) : Int) (by omega) (by omega) (by omega), elem_of hu, run_size1 hs]
  simp [Result.andThen, sliced]
  omega
theorem run_cut_l (hu : P.underlying t = some (.slice e)) (hs : (P.info? e).map (·.size) = some 1) (kl : IntKind) (i : Nat) (hi : Int) (e1 : hi = (i : Int)) (h : i ≤ N) :
    ∃ A', (Instr.sliceAt t (.slice A N C) (some (.int kl hi)) none none).run P w = .ok (.slice A' (N - i) (C - i)) w ∧ ∀ W, Reads k W A N C L → Reads k W A' (N - i) (C - i) (L.drop i) := by
  have ht : P.underlying t = some (.slice (P.elem t)) := by rw [elem_of hu]; exact hu
  subst e1
  refine ⟨if C = i then A else A.map fun x => x.add i, ?_, fun W hr => reads_suf hr i h⟩
  rw [run_sliceAt_slice (P := P) w t _ _ _ _ ht, run_slice_l (P := P) w t A N C ht kl (i : Int) (by omega) (by omega), elem_of hu, run_size1 hs]
  simp [Result.andThen, sliced]
end
section
variable {P : Program} {ops : Array Oper} {Q : Exit → Act → World → Prop} {rest : List Oper} {a : Act} {w : World} {d : Option Tmp} {ty : TypeId} {pos : String} {after : Array Edge} {gd : Option (Tmp × Bool)}
theorem at_slice_h (t : TypeId) {x hi : Operand} (h : wpList P ops Q ({ dst := d, op := .slice t x none (some hi) none, type := ty, pos := pos, after := after, guard := gd } :: rest) a w) :
    wpList P ops Q ({ dst := d, op := .slice t x none (some hi) none, type := ty, pos := pos, after := after, guard := gd } :: rest) a w := h
theorem at_slice_l (t : TypeId) {x lo : Operand} (h : wpList P ops Q ({ dst := d, op := .slice t x (some lo) none none, type := ty, pos := pos, after := after, guard := gd } :: rest) a w) :
    wpList P ops Q ({ dst := d, op := .slice t x (some lo) none none, type := ty, pos := pos, after := after, guard := gd } :: rest) a w := h
theorem at_slice (t : TypeId) {x : Operand} {lo hi mx : Option Operand} (h : wpList P ops Q ({ dst := d, op := .slice t x lo hi mx, type := ty, pos := pos, after := after, guard := gd } :: rest) a w) :
    wpList P ops Q ({ dst := d, op := .slice t x lo hi mx, type := ty, pos := pos, after := after, guard := gd } :: rest) a w := h
end
section
variable {P : Program} {ops : Array Oper} {rest : List Oper} {o : Oper} {a : Act} {w : World} {Q : Exit → Act → World → Prop} {t e : TypeId} {k : IntKind} {A : Option Addr} {N C : Nat} {L : List Nat}
theorem wpList_cut (hgd : o.guard = none) (x lo hi : Operand) (ho : o.op = .slice t x (some lo) (some hi) none) (hu : P.underlying t = some (.slice e)) (hs : (P.info? e).map (·.size) = some 1)
    (hx : a.eval x = .slice A N C) (hr : Reads k w A N C L) (kl kh : IntKind) (i m : Nat) (vi vj : Int) (hlo : a.eval lo = .int kl vi) (hhi : a.eval hi = .int kh vj) (e1 : vi = (i : Int)) (e2 : vj = ((i + m : Nat) : Int)) (hm : i + m ≤ N)
    (h : ∀ A', (∀ W, Reads k W A N C L → Reads k W A' m (C - i) ((L.drop i).take m)) → wpList P ops Q rest (a.put o.dst (.slice A' m (C - i))) w) : wpList P ops Q (o :: rest) a w :=
  wpList_plain hgd fun K hK => by
    obtain ⟨A', hrun, hr'⟩ := run_cut (P := P) (t := t) hu hs hr kl kh i m vi vj e1 e2 hm
    unfold Oper.wp execOp
    simp only [ho, Option.map_some, Option.map_none, hx, hlo, hhi, hrun, Sem.run_bind, Sem.run_pure, Result.andThen_ok]
    exact hK _ _ (h A' hr')
theorem wpList_cut_l (hgd : o.guard = none) (x lo : Operand) (ho : o.op = .slice t x (some lo) none none) (hu : P.underlying t = some (.slice e)) (hs : (P.info? e).map (·.size) = some 1)
    (hx : a.eval x = .slice A N C) (kl : IntKind) (i : Nat) (vi : Int) (hlo : a.eval lo = .int kl vi) (e1 : vi = (i : Int)) (hm : i ≤ N)
    (h : ∀ A', (∀ W, Reads k W A N C L → Reads k W A' (N - i) (C - i) (L.drop i)) → wpList P ops Q rest (a.put o.dst (.slice A' (N - i) (C - i))) w) : wpList P ops Q (o :: rest) a w :=
  wpList_plain hgd fun K hK => by
    obtain ⟨A', hrun, hr'⟩ := run_cut_l (P := P) (w := w) (A := A) (N := N) (C := C) (L := L) (k := k) (t := t) hu hs kl i vi e1 hm
    unfold Oper.wp execOp
    simp only [ho, Option.map_some, Option.map_none, hx, hlo, hrun, Sem.run_bind, Sem.run_pure, Result.andThen_ok]
    exact hK _ _ (h A' hr')
end
section
variable {P : Program} {ops : Array Oper} {rest : List Oper} {o : Oper} {a : Act} {w : World} {Q : Exit → Act → World → Prop} {t e : TypeId} {k : IntKind} {A : Option Addr} {N C : Nat} {L : List Nat}
theorem map_add0 (A : Option Addr) : (A.map fun x => x.add 0) = A := by cases A <;> simp [Addr.add]
/-- s[:n]: the same address. -/
theorem wpList_cut_h (hgd : o.guard = none) (x hi : Operand) (ho : o.op = .slice t x none (some hi) none) (hu : P.underlying t = some (.slice e)) (hs : (P.info? e).map (·.size) = some 1)
    (hx : a.eval x = .slice A N C) (kh : IntKind) (m : Nat) (vj : Int) (hhi : a.eval hi = .int kh vj) (e2 : vj = (m : Int)) (hm : m ≤ C)
    (h : wpList P ops Q rest (a.put o.dst (.slice A m C)) w) : wpList P ops Q (o :: rest) a w :=
  wpList_plain hgd fun K hK => by
    have ht : P.underlying t = some (.slice (P.elem t)) := by rw [elem_of hu]; exact hu
    have hrun : (Instr.sliceAt t (.slice A N C) none (some (.int kh vj)) none).run P w = .ok (.slice A m C) w := by
      subst e2
      rw [run_sliceAt_slice (P := P) w t _ _ _ _ ht, run_slice_h (P := P) w t A N C ht kh (m : Int) (by omega) (by omega), elem_of hu, run_size1 hs]
      simp [Result.andThen, sliced, Addr.add]
    unfold Oper.wp execOp
    simp only [ho, Option.map_some, Option.map_none, hx, hhi, hrun, Sem.run_bind, Sem.run_pure, Result.andThen_ok]
    exact hK _ _ h
/-- s[i:], with the blocks that it does not lie in. -/
theorem wpList_cut_lO (hgd : o.guard = none) (x lo : Operand) (ho : o.op = .slice t x (some lo) none none) (hu : P.underlying t = some (.slice e)) (hs : (P.info? e).map (·.size) = some 1)
    (hx : a.eval x = .slice A N C) (kl : IntKind) (i : Nat) (vi : Int) (hlo : a.eval lo = .int kl vi) (e1 : vi = (i : Int)) (hm : i ≤ N)
    (h : ∀ A', (∀ W, Reads k W A N C L → Reads k W A' (N - i) (C - i) (L.drop i)) → (∀ ad', A' = some ad' → ∃ ad, A = some ad ∧ ad'.block = ad.block) → wpList P ops Q rest (a.put o.dst (.slice A' (N - i) (C - i))) w) : wpList P ops Q (o :: rest) a w :=
  wpList_plain hgd fun K hK => by
    have ht : P.underlying t = some (.slice (P.elem t)) := by rw [elem_of hu]; exact hu
    have hrun : (Instr.sliceAt t (.slice A N C) (some (.int kl vi)) none none).run P w = .ok (.slice (if C = i then A else A.map fun x => x.add i) (N - i) (C - i)) w := by
      subst e1
      rw [run_sliceAt_slice (P := P) w t _ _ _ _ ht, run_slice_l (P := P) w t A N C ht kl (i : Int) (by omega) (by omega), elem_of hu, run_size1 hs]
      simp [Result.andThen, sliced]
    unfold Oper.wp execOp
    simp only [ho, Option.map_some, Option.map_none, hx, hlo, hrun, Sem.run_bind, Sem.run_pure, Result.andThen_ok]
    refine hK _ _ (h _ (fun W hr => reads_suf hr i hm) ?_)
    intro ad' e
    split at e
    · exact ⟨ad', e, rfl⟩
    · obtain ⟨ad, hA, rfl⟩ := Option.map_eq_some_iff.1 e
      exact ⟨ad, hA, block_add _ _⟩
end
end Go.Proofs.YtdldffgdipedpaaDoor
