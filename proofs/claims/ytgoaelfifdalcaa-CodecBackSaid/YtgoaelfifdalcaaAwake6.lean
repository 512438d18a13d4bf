/- The statements of layer 6 begin with the chapter's examples: awake answers true. Conditions: none. -/
import Derived.Test.YtgoaelfifdalcaaCodec2
import Derived.Test.YtgoaelfifdalcaaCodecR
namespace Go.Proofs.Ytgoaelfifdalcaa
open Go.ChangeShapes Go.WideShapes Go.RowKit
theorem enc300 : encN 300 = (0, [172, 2]) := by rw [encN, if_pos (by decide), show (300 : Int).toNat = 300 from rfl, numL_ge 300 (by decide), numL_lt (300 / 128) (by decide)]
theorem wrote300 : wrote (wrote ([], 0) (encN 300)) (encS (-1)) = ([172, 2, 1], 0) := by
  have h2 : encS (-1) = (0, [1]) := by rw [encS, if_pos (by decide), show sgnN (-1) = 1 from rfl, numL_lt 1 (by decide)]
  rw [enc300, h2]; rfl
theorem newer_mono {w w1 : World} (h : w.heap.size ≤ w1.heap.size) : ∀ i, orNew (newer w) w1 i → newer w i := fun _ hi => hi.elim id (fun h1 => Nat.le_trans h h1)
theorem newer_below {w w1 w2 : World} (hb : Below w.heap.size w w1) (h : Chg (newer w) w1 w2) : Below w.heap.size w w2 := h.below hb hb.size (fun _ hi => hi)
set_option maxHeartbeats 1600000 in
theorem awake6_c (w : World) : Calls Try.prog 6 #[] w fun en w' => en = .returned (.bool true) ∧ Below w.heap.size w w' := by
  go_enter Try.func6, Try.ntmps6
  go_wp2_with fail
  refine (newWriter_c w).mono ?_
  rintro en w1 ⟨rfl, h1, hb1⟩
  have H1 := Lib.hid h1
  clear h1
  go_wp2_with fail
  refine (wnumber_c _ _ _ 300 w1 H1.out (by decide)).mono ?_
  rintro en w2 ⟨⟨v, rfl⟩, h2, k2⟩
  have H2 := Lib.hid (h2.mono (newer_mono hb1.size))
  have hb2 := newer_below hb1 k2
  clear h2 k2 H1 hb1
  go_wp2_with fail
  refine (wsigned_c _ _ _ (-1) w2 H2.out (by rw [enc300]; decide)).mono ?_
  rw [wrote300]
  rintro en w3 ⟨⟨v, rfl⟩, h3, k3⟩
  have H3 := Lib.hid (h3.mono (newer_mono hb2.size))
  have hb3 := newer_below hb2 k3
  clear h3 k3 H2 hb2
  go_wp2_with fail
  refine (bytes_c _ _ _ w3 H3.out (by decide)).mono ?_
  rintro en w4 ⟨V, m, d, rfl, hr, _, hb⟩
  have hb4 := hb3.trans (hb.mono hb3.size)
  have HR := Lib.hid hr
  clear hr hb hb3 H3
  go_wp2_with fail
  refine (same_c V (some ⟨w4.heap.size, 0, none⟩) m d 3 3 [172, 2, 1] [172, 2, 1] _ (HR.out.keep (alloc_below _ _)) (reads_new rfl rfl (by decide) (by decide))).mono ?_
  rintro en w5 ⟨rfl, k, rfl⟩
  go_wp2
  go_ret
  exact ⟨ret_bool (by decide), belowDrewN (hb4.alloc hb4.size _) k⟩
end Go.Proofs.Ytgoaelfifdalcaa
