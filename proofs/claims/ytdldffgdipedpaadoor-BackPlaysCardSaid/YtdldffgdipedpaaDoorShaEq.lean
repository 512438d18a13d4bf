/- Two arrays of the same integers are equal, as the model compares them. Conditions: the element type is an integer type of one cell. -/
import Derived.Test.YtdldffgdipedpaaDoorShaMath
import Derived.ChangeKeysEq
namespace Go.Proofs.YtdldffgdipedpaaDoor
open Go.RowKit
theorem run_eq_ints {P : Program} (w : World) (d : Nat) {t e : TypeId} {n : Nat} {i : TypeInfo} {k : IntKind} (hu : P.underlying t = some (.array n e)) (hi : P.info? e = some i) (hc : P.cellsOf e = 1) (he : P.underlying e = some (.int k)) (l : List Nat) (hl : l.length = n) :
    (Op.equalIn (d + 2) t (.agg (ints k l).toArray) (.agg (ints k l).toArray)).run P w = .ok true w := by
  rw [run_equalIn_array w (d + 1) _ _ hu hi, hc]
  have key : ∀ is : List Nat, (∀ j ∈ is, j < l.length) → (Op.eqItems (d + 1) e 1 (ints k l).toArray (ints k l).toArray is).run P w = .ok true w := by
    intro is
    induction is with
    | nil => intro _; simp [Op.eqItems]
    | cons j is ih =>
      intro h
      have hj : j < l.length := h j (by simp)
      have hp : (part e (ints k l).toArray (j * 1)).run P w = .ok (.int k (l[j] : Int)) w := by
        simp [part, isAgg, run_underlying he, ints, hj]
      have hq := run_equalIn_int (P := P) w d e k k (l[j] : Int) (l[j] : Int) he
      simp only [Op.eqItems, Sem.run_bind, hp, hq, Result.andThen_ok]
      simpa using ih (fun x hx => h x (by simp [hx]))
  exact key _ (fun j hj => by rw [hl]; exact List.mem_range.1 hj)
end Go.Proofs.YtdldffgdipedpaaDoor
