/- Plain words for the law of regions that draw (wpAny_relyG): conditions listed one an operation, loads of whole arrays, arrays compared. Conditions: none; it speaks of no program. -/
import Derived.Test.YtdldffgdipedpaaDoorRely
import Derived.Test.YtdldffgdipedpaaDoorShaEq
namespace Go.Proofs.YtdldffgdipedpaaDoor
open Go.RowKit
/-- A condition that new memory cannot break. -/
def Stable (p : Value → World → Prop) : Prop := ∀ v w w', p v w → Below w.heap.size w w' → p v w'
/-- The condition on operation i. -/
def condAt (l : List (Value → World → Prop)) (i : Nat) (v : Value) (w : World) : Prop := l.getD i (fun _ _ => True) v w
theorem stable_nil : ∀ p ∈ ([] : List (Value → World → Prop)), Stable p := fun _ h => by cases h
theorem stable_cons {p : Value → World → Prop} {l : List (Value → World → Prop)} (h : Stable p) (t : ∀ q ∈ l, Stable q) : ∀ q ∈ p :: l, Stable q := fun q hq => by
  rcases List.mem_cons.1 hq with rfl | hq
  · exact h
  · exact t q hq
theorem stable_eq (t : Value) : Stable (fun v _ => v = t) := fun _ _ _ h _ => h
theorem stable_true : Stable (fun _ _ => True) := fun _ _ _ _ _ => trivial
theorem stable_row {k : IntKind} {n : Nat} {l : List Nat} : Stable (fun v W => ∃ A c, v = .slice A n c ∧ Reads k W A n c l) := by
  rintro v w w' ⟨A, c, e, h⟩ hb
  exact ⟨A, c, e, h.keep hb⟩
theorem condAt_keep {l : List (Value → World → Prop)} (h : ∀ p ∈ l, Stable p) : ∀ i v w w', condAt l i v w → Below w.heap.size w w' → condAt l i v w' := by
  intro i v w w' hv hb
  unfold condAt at *
  by_cases hi : i < l.length
  · rw [List.getD_eq_getElem?_getD, List.getElem?_eq_getElem hi] at *
    exact h _ (List.getElem_mem hi) v w w' hv hb
  · rw [List.getD_eq_getElem?_getD, List.getElem?_eq_none (by omega)] at *
    trivial
/-- A whole array out of memory, as one step. -/
theorem wp_load_all {P : Program} {o : Oper} {a : Act} {w : World} {K : Act → World → Prop} {Q : Exit → Act → World → Prop} (ty : TypeId) (p : Operand) (ho : o.op = .load ty p) (g : Nat) (hp : a.eval p = .pointer (some ⟨g, 0, none⟩))
    (cs : List Value) (t : TypeId) (hb : Blk w g t cs) (d : TypeDesc) (hu : P.underlying ty = some d) (hd : (match d with | .struct _ | .array _ _ => true | _ => false) = true) (hi : (P.info? ty).map (·.size) = some cs.length)
    (h : K (a.put o.dst (.agg cs.toArray)) w) : Oper.wp P o a w K Q := by
  unfold Oper.wp execOp
  simp only [ho, hp, load_eq hb.all hu hd hi, Sem.run_bind, Sem.run_pure, Result.andThen_ok]
  exact h
/-- Two arrays of integers, compared. -/
theorem run_eq_dec {P : Program} (w : World) (d : Nat) {t e : TypeId} {n : Nat} {i : TypeInfo} {k : IntKind} (hu : P.underlying t = some (.array n e)) (hi : P.info? e = some i) (hc : P.cellsOf e = 1) (he : P.underlying e = some (.int k)) (a b : List Nat) (ha : a.length = n) (hb : b.length = n) :
    (Op.equalIn (d + 2) t (.agg (ints k a).toArray) (.agg (ints k b).toArray)).run P w = .ok (decide (a = b)) w := by
  rw [run_equalIn_array w (d + 1) _ _ hu hi, hc]
  have key : ∀ is : List Nat, (∀ j ∈ is, j < n) → (Op.eqItems (d + 1) e 1 (ints k a).toArray (ints k b).toArray is).run P w = .ok (decide (∀ j ∈ is, a[j]? = b[j]?)) w := by
    intro is
    induction is with
    | nil => intro _; simp [Op.eqItems]
    | cons j is ih =>
      intro h
      have hj : j < n := h j (by simp)
      have hja : j < a.length := by omega
      have hjb : j < b.length := by omega
      have hp : (part e (ints k a).toArray (j * 1)).run P w = .ok (.int k (a[j] : Int)) w := by
        simp [part, isAgg, run_underlying he, ints, hja]
      have hp2 : (part e (ints k b).toArray (j * 1)).run P w = .ok (.int k (b[j] : Int)) w := by
        simp [part, isAgg, run_underlying he, ints, hjb]
      have hq := run_equalIn_int (P := P) w d e k k (a[j] : Int) (b[j] : Int) he
      simp only [Op.eqItems, Sem.run_bind, hp, hp2, hq, Result.andThen_ok]
      have hrest := ih (fun x hx => h x (by simp [hx]))
      by_cases hab : a[j] = b[j]
      · rw [beq_iff_eq.2 (congrArg (fun n : Nat => (n : Int)) hab), if_neg (by simp), hrest]
        congr 1
        refine decide_eq_decide.2 ?_
        simp [hja, hjb, hab]
      · have hne : ¬ ((a[j] : Int) = (b[j] : Int)) := fun h => hab (by omega)
        rw [beq_eq_false_iff_ne.2 hne, if_pos (by simp), decide_eq_false (fun h => hab (by simpa [hja, hjb] using h j (by simp)))]
        simp
  rw [key _ (fun j hj => List.mem_range.1 hj)]
  congr 1
  refine decide_eq_decide.2 ⟨fun h => List.ext_getElem? (fun j => ?_), fun h => by subst h; simp⟩
  by_cases hj : j < n
  · exact h j (List.mem_range.2 hj)
  · rw [List.getElem?_eq_none (by omega), List.getElem?_eq_none (by omega)]
end Go.Proofs.YtdldffgdipedpaaDoor
