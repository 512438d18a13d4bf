/- The statements of layer 9 begin with the chapter's example: awake answers true. Conditions: none. -/
import Derived.Test.YtbmnpbmimhodbaaDoorCell2
import Derived.Test.YtbmnpbmimhodbaaDoorCell3
namespace Go.Proofs.YtbmnpbmimhodbaaDoor
open Go.ChangeShapes Go.WideShapes Go.RowKit
theorem runs_example : runsL [(97, 0, 0, 0), (97, 0, 0, 0), (98, 0, 0, 0)] = [(2, 97, 0, 0, 0), (1, 98, 0, 0, 0)] := by decide
/-- Items in a block that is known whole. -/
theorem ReadsS.of_blk {α : Type} {f : α → List Value} {K : Nat} {w : World} {g : Nat} {t : TypeId} {l : List α} {n : Nat} (hf : ∀ x, (f x).length = K) (h : Blk w g t (l.flatMap f)) (hl : l.length = n) (hm : n ≤ maxLen) : ReadsS f K w (some ⟨g, 0, none⟩) n n l := by
  refine ⟨hl, Nat.le_refl _, hm, fun i hi => ⟨_, rfl, h.lt, fun j u hu => ?_⟩⟩
  have hj : j < K := by
    rcases Nat.lt_or_ge j K with h | h
    · exact h
    · rw [List.getElem?_eq_none (by rw [hf]; exact h)] at hu; cases hu
  rw [add_add]
  exact h.all _ _ (by rw [flatF_at hf l i j hi hj]; exact hu)
theorem Blk.newAt {w : World} {g : Nat} (t : TypeId) (cs : List Value) (h : w.heap.size = g) : Blk (w.alloc (.cells cs.toArray t)) g t cs := by
  subst h
  exact Blk.new w t cs
set_option maxHeartbeats 1600000 in
theorem awake9_c (w : World) : Calls Tryd.prog 4 #[] w fun en w' => en = .returned (.bool true) ∧ Below w.heap.size w w' := by
  go_enter Tryd.func4, Tryd.ntmps4
  go_wp2_with fail
  refine name_Calls (fun w3 => Blk w3 w.heap.size 27 (cellV (97, 0, 0, 0)) ∧ Blk w3 (w.heap.size + 1) 27 (cellV (98, 0, 0, 0)) ∧ Blk w3 (w.heap.size + 1 + 1) 27 ([(97, 0, 0, 0), (97, 0, 0, 0), (98, 0, 0, 0)].flatMap cellV) ∧ Below w.heap.size w w3 ∧ w3.heap.size = w.heap.size + 3)
    ⟨((Blk.new _ _ _).alloc _).alloc _, (Blk.newAt _ _ (by simp)).alloc _, Blk.newAt _ _ (by simp), (((Below.refl _ _).alloc (Nat.le_refl _) _).alloc (by simp) _).alloc (by simp; omega) _, by simp⟩ ?_
  rintro w3 ⟨hA, hB, hC, hb3, hs3⟩
  refine (runs_c _ 3 3 _ w3 (ReadsS.of_blk length_cellV hC rfl (by decide)) (by decide)).mono ?_
  rw [runs_example]
  rintro en w4 ⟨v, rfl, hO4, hb4⟩
  obtain ⟨V, d, rfl, hR⟩ := ReadsS.of_own length_runV (by decide) hO4
  have hA4 := hA.below hb4 (by omega)
  have hB4 := hB.below hb4 (by omega)
  have hb : Below w.heap.size w w4 := hb3.trans (hb4.mono hb3.size)
  obtain ⟨a0, a1, a2, a3⟩ := fourB hA4
  obtain ⟨b0, b1, b2, b3⟩ := fourB hB4
  obtain ⟨ad, rfl, _⟩ := hR.pos (by decide)
  obtain ⟨x0, x1, x2, x3, x4⟩ := five (p := ad) (hR.at 0 (by decide))
  obtain ⟨y0, y1, y2, y3, y4⟩ := five (p := ⟨ad.block, ad.off + 5, none⟩) (hR.at 1 (by decide))
  simp only [List.getElem_cons_zero, List.getElem_cons_succ] at a0 a1 a2 a3 b0 b1 b2 b3 x0 x1 x2 x3 x4 y0 y1 y2 y3 y4
  clear hR hO4 hA hB hC hA4 hB4 hb3 hb4 hs3
  have HB := Lib.hid hb
  clear hb
  go_wp2_with fail
  go_quiet (fail)
  go_wp2
  go_ret
  exact ⟨rfl, belowDrewN HB.out _⟩
end Go.Proofs.YtbmnpbmimhodbaaDoor
