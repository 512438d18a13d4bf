/- The statements of layer 12 begin with the chapter's example: awake answers true; and their own 'right' tells the pens that may be. Conditions: the two tables of the attributes hold what the program lays there. -/
import Derived.Test.YtajllkfoaigdlaaDoorPen2
import Derived.Test.YtajllkfoaigdlaaDoorCell1
namespace Go.Proofs.YtajllkfoaigdlaaDoor
open Go.ChangeShapes Go.WideShapes Go.RowKit
theorem penOk_ok {p : Int × Int × Int} (h : penOk p = true) : ∃ q : PenN, q.ok ∧ p = ((q.1 : Int), (q.2.1 : Int), (q.2.2 : Int)) := by
  obtain ⟨a, b, c⟩ := p
  simp only [penOk, decide_eq_true_eq] at h
  exact ⟨(a.toNat, b.toNat, c.toNat), ⟨by simp only; omega, by simp only; omega, by simp only; omega⟩, by simp only [Prod.mk.injEq]; omega⟩
theorem penOk_of {q : PenN} (h : q.ok) : penOk ((q.1 : Int), (q.2.1 : Int), (q.2.2 : Int)) = true := by
  obtain ⟨h1, h2, h3⟩ := h
  simp only [penOk, decide_eq_true_eq]
  omega
theorem threeI {w : World} {g : Nat} {t : TypeId} {a b c : Int} (h : Blk w g t [.int .i64 a, .int .i64 b, .int .i64 c]) : w.cell? ⟨g, 0, none⟩ = some (.int .i64 a) ∧ w.cell? ⟨g, 1, none⟩ = some (.int .i64 b) ∧ w.cell? ⟨g, 2, none⟩ = some (.int .i64 c) := ⟨h.cell 0, h.cell 1, h.cell 2⟩
theorem threeP {w : World} {g : Nat} {t : TypeId} {p : PenN} (h : Blk w g t (penW p)) : w.cell? ⟨g, 0, none⟩ = some (.int .i64 (p.1 : Int)) ∧ w.cell? ⟨g, 1, none⟩ = some (.int .i64 (p.2.1 : Int)) ∧ w.cell? ⟨g, 2, none⟩ = some (.int .i64 (p.2.2 : Int)) := ⟨h.cell 0, h.cell 1, h.cell 2⟩
set_option maxHeartbeats 1600000 in
theorem pRight_c (p : Int × Int × Int) (w : World) : Calls Tryd.prog 8 #[.agg #[.int .i64 p.1, .int .i64 p.2.1, .int .i64 p.2.2]] w (BoolPost w (penOk p)) := by
  have HRP : Hid (∀ W, Calls Tryd.prog 14 #[.agg (cellV (97, p)).toArray] W (BoolPost W (penOk p))) := fun W => by
    have h := refRight_c (97, p) W (by simp only; omega)
    rwa [show okC (97, p) = penOk p by simp [okC, runeOk]] at h
  obtain ⟨x, y, z⟩ := p
  simp only [cellV] at HRP ⊢
  obtain ⟨q, hq⟩ : ∃ q, Hid (penOk (x, y, z) = q) := ⟨_, rfl⟩
  rw [hq.out] at HRP ⊢
  go_enter Tryd.func8, Tryd.ntmps8
  go_wp2_with fail
  refine (HRP.out _).mono ?_
  rintro en w1 ⟨rfl, hb1⟩
  have HB := Lib.hid ((alloc_below' w _).trans (hb1.mono (by simp)))
  clear hb1
  go_wp2
  go_ret
  exact ⟨rfl, HB.out⟩
set_option maxHeartbeats 1600000 in
theorem awake12_c (w : World) (hk : PT w) : Calls Tryd.prog 7 #[] w (BoolPost w true) := by
  have HK := Lib.hid hk
  clear hk
  go_enter Tryd.func7, Tryd.ntmps7
  go_wp2_with fail
  refine (apply_c (0, 5, 0) _ _ _ [1, 31] _ ⟨by decide, by decide, by decide⟩ (readsI_new rfl rfl (by decide) (by intro y hy; simp at hy; rcases hy with rfl | rfl <;> decide)) (HK.out.keep (alloc_below' _ _))).mono ?_
  rintro en w1 ⟨rfl, hb1⟩
  rw [show applyA (0, 5, 0) [1, 31] = (2, 5, 1) by unfold applyA; rw [if_neg (by decide), applyL_one _ _ (by decide), applyL_one _ _ (by decide), applyL_nil]; decide]
  have HB := Lib.hid ((alloc_below' w _).trans (hb1.mono (by simp)))
  clear hb1
  simp only [penW]
  go_wp2
  go_ret
  exact ⟨rfl, HB.out⟩
end Go.Proofs.YtajllkfoaigdlaaDoor
