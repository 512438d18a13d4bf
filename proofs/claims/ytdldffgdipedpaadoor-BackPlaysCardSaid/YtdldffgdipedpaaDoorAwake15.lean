/- The statements of layer 15 begin with the chapter's example: awake answers true. Conditions: none. -/
import Derived.Test.YtdldffgdipedpaaDoorBack5
import Derived.Test.YtdldffgdipedpaaDoorRely2
namespace Go.Proofs.YtdldffgdipedpaaDoor
open Go.ChangeShapes Go.WideShapes Go.RowKit
theorem cut_a : cutC [(97, 0, 0, 0)] = [(97, 0, 0, 0)] := by decide
theorem cut_b : cutC [(98, 0, 0, 0), (32, 0, 0, 0)] = [(98, 0, 0, 0)] := by decide
theorem text_b : textZ (cutZ ((lineL 1 [[(97, 0, 0, 0)], [(98, 0, 0, 0)]] 0).map (·.1))) = [98] := by decide
theorem fit_ab : ∀ l ∈ [[((97, 0, 0, 0) : CellV)], [(98, 0, 0, 0)]], ∀ x ∈ l, fitC x := by
  intro l hl x hx
  simp only [List.mem_cons, List.not_mem_nil, or_false] at hl
  rcases hl with rfl | rfl <;> (obtain rfl := List.mem_singleton.1 hx; unfold fitC; decide)
theorem row_new {w : World} {g rg most : Nat} {all : List (List CellV)} (h : LAt w g rg most all) (t : TypeId) (l : List CellV) (n : Nat) (hl : l.length = n) (hm : n ≤ maxLen) {cs : Array Value} (hcs : cs.toList = l.flatMap cellV) : RowS (In g rg) (w.alloc (.cells cs t)) (.slice (some ⟨w.heap.size, 0, none⟩) n n) l := by
  have hb : Blk (w.alloc (.cells cs t)) w.heap.size t (l.flatMap cellV) := by
    have := Blk.new w t cs.toList
    rw [← hcs]
    exact this
  exact RowS.fresh (W := w) (readsS_blk length_cellV hb hl hm) (fun rd e => by cases e; exact Nat.le_refl _) h.lt
set_option maxHeartbeats 3200000 in
theorem awake15_c (w : World) : Calls Tryd.prog 5 #[] w fun en w' => en = .returned (.bool true) ∧ Below w.heap.size w w' := by
  go_enter Tryd.func5, Tryd.ntmps5
  go_wp2_with fail
  refine (newL_c 1 w (by decide)).mono ?_
  rintro en w1 ⟨g, rg, rfl, hL, hg, hrg, hb1⟩
  have HL := Lib.hid hL
  have HF : Hid (∀ i, In g rg i → w.heap.size ≤ i) := by rintro i (rfl | rfl); exact hg; exact hrg
  have HB := Lib.hid hb1
  clear hL hb1
  go_upto_region 4 with (fail)
  go_wp2_with fail
  refine (pushL_c g rg 1 [] _ 1 1 [(97, 0, 0, 0)] _ (HL.out.below (alloc_below' w1 _)) (row_new HL.out _ _ 1 rfl (by decide) rfl) (by decide) (by decide) (by decide)).mono ?_
  rw [cut_a]
  rintro en w2 ⟨⟨_, rfl⟩, hL2, hc2⟩
  have HB2 : Hid (Below w.heap.size w w2) := hc2.below (HB.out.alloc HB.out.size _) (by have := HB.out.size; simp; omega) HF.out
  have HL2 := Lib.hid hL2
  clear hL2 hc2
  go_wp2_with fail
  refine (pushL_c g rg 1 _ _ 2 2 [(98, 0, 0, 0), (32, 0, 0, 0)] _ (HL2.out.below (alloc_below' w2 _)) (row_new HL2.out _ _ 2 rfl (by decide) rfl) (by decide) (by decide) (by decide)).mono ?_
  rw [cut_b]
  rintro en w3 ⟨⟨_, rfl⟩, hL3, hc3⟩
  have HB3 : Hid (Below w.heap.size w w3) := hc3.below (HB2.out.alloc HB2.out.size _) (by have := HB2.out.size; simp; omega) HF.out
  have HL3 : Hid (LAt w3 g rg 1 [[(97, 0, 0, 0)], [(98, 0, 0, 0)]]) := hL3
  clear hL3 hc3
  go_wp2_with fail
  refine (text_c15 g rg 1 _ 0 w3 HL3.out (by decide) (by decide) fit_ab).mono ?_
  rintro en w4 ⟨t, rfl, ht, hb4⟩
  rw [text_b] at ht
  obtain rfl : t = ⟨#[98]⟩ := strL_inj (ht.trans (by decide))
  have HB4 : Hid (Below w.heap.size w w4) := HB3.out.trans (hb4.mono HB3.out.size)
  have HL4 := Lib.hid (HL3.out.below hb4)
  clear ht hb4
  go_wp2_with fail
  refine (lostL_c w4 g rg 1 _ HL4.out).mono ?_
  rintro en w5 ⟨rfl, rfl⟩
  go_wp2_with fail
  refine (lenL_c w4 g rg 1 _ HL4.out).mono ?_
  rintro en w5 ⟨rfl, rfl⟩
  go_wp2
  go_ret
  exact ⟨rfl, HB4.out⟩
end Go.Proofs.YtdldffgdipedpaaDoor
