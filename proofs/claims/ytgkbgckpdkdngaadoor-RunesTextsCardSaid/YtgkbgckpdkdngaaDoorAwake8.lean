/- The statements of layer 8 begin with the chapter's example: awake answers true. Conditions: the two tables of unicode/utf8 hold what their text lays. -/
import Derived.Test.YtgkbgckpdkdngaaDoorRune2
namespace Go.Proofs.YtgkbgckpdkdngaaDoor
open Go.ChangeShapes Go.WideShapes Go.RowKit Go.Lib
theorem all_example : allN [226, 130, 65] = [65533, 65] := by decide
set_option maxHeartbeats 1600000 in
theorem awake8_c (w : World) (hT : Tabs w) : Calls Tryd.prog 7 #[] w fun en w' => en = .returned (.bool true) ∧ Below w.heap.size w w' := by
  have hb0 := (Below.refl w.heap.size w).alloc (Nat.le_refl _) (.cells #[.int .u8 226, .int .u8 130, .int .u8 65] 5)
  have HC := Lib.hid (all_c (some ⟨w.heap.size, 0, none⟩) 3 3 [226, 130, 65] _ (reads_new (w := w) (t := 5) (cs := #[.int .u8 226, .int .u8 130, .int .u8 65]) (fr := (0, 0)) rfl rfl (by decide) (by decide)) (hT.keep hb0) (by decide))
  rw [all_example] at HC
  have HB0 := Lib.hid hb0
  clear hT hb0
  go_enter Tryd.func7, Tryd.ntmps7
  go_wp2_with fail
  refine HC.out.mono ?_
  rintro en w1 ⟨v, rfl, ho, hb⟩
  obtain ⟨A1, c1, rfl, hr1⟩ := Reads.of_own ho (fun x hx => wf_i32.2 (by simp at hx; omega))
  obtain ⟨ad, rfl, _, h0⟩ := hr1.cell 0 (by simp)
  obtain ⟨ad', e, _, h1⟩ := hr1.cell 1 (by simp)
  cases e
  simp only [List.getElem_cons_zero, List.getElem_cons_succ, show ad.add 0 = ad from by simp [Addr.add]] at h0 h1
  have h1' : w1.cell? ⟨ad.block, ad.off + 1, none⟩ = some (.int .i32 65) := h1
  have HB := Lib.hid (HB0.out.trans (hb.mono HB0.out.size))
  clear ho hb hr1 h1
  go_wp2
  go_ret
  exact ⟨rfl, HB.out⟩
end Go.Proofs.YtgkbgckpdkdngaaDoor
