/- awake, the check of the page's example in the statements of layer 2, returns true in every world in which the table of the rounds' constants lies as the program lays it, and changes nothing that was there. Conditions: that table. -/
import Derived.Test.YtgjolpapcbmjaaaDoorSha5
namespace Go.Proofs.YtgjolpapcbmjaaaDoor
open Go.ChangeShapes Go.WideShapes Go.RowKit
theorem reads_abc (w : World) : Reads .u8 (w.alloc (.cells #[.int .u8 97, .int .u8 98, .int .u8 99] 5)) (some ⟨w.heap.size, 0, none⟩) 3 3 [97, 98, 99] := by
  refine ⟨rfl, Nat.le_refl _, by decide, by intro x hx; rw [wf_u8]; simp at hx; omega, fun i hi => ⟨_, rfl, by simp, ?_⟩⟩
  refine cells_new _ _ _ i _ ?_
  match i, hi with
  | 0, _ => rfl
  | 1, _ => rfl
  | 2, _ => rfl
def abcC : List Value := ints .u8 [0xba, 0x78, 0x16, 0xbf, 0x8f, 0x01, 0xcf, 0xea, 0x41, 0x41, 0x40, 0xde, 0x5d, 0xae, 0x22, 0x23, 0xb0, 0x03, 0x61, 0xa3, 0x96, 0x17, 0x7a, 0x9c, 0xb4, 0x10, 0xff, 0x61, 0xf2, 0x00, 0x15, 0xad]
set_option maxHeartbeats 800000 in
theorem awake2_c (w : World) (hk : KT w) : Calls Tryd.prog 7 #[] w fun e w' => e = .returned (.bool true) ∧ Below w.heap.size w w' := by
  go_enter Tryd.func7, Tryd.ntmps7
  go_wp2_with fail
  refine (sum_c _ 3 3 [97, 98, 99] _ (reads_abc w) (hk.below ((Below.refl _ _).alloc (Nat.le_refl _) _)) (by decide)).mono ?_
  rintro e w1 ⟨rfl, hbel1⟩
  rw [digest_abc, show (ints .u8 [0xba, 0x78, 0x16, 0xbf, 0x8f, 0x01, 0xcf, 0xea, 0x41, 0x41, 0x40, 0xde, 0x5d, 0xae, 0x22, 0x23, 0xb0, 0x03, 0x61, 0xa3, 0x96, 0x17, 0x7a, 0x9c, 0xb4, 0x10, 0xff, 0x61, 0xf2, 0x00, 0x15, 0xad]) = abcC from rfl]
  have hbel1' : Below w.heap.size w w1 := ((Below.refl _ _).alloc (Nat.le_refl _) _).trans (hbel1.mono (by simp))
  clear hbel1 hk
  go_upto_region 2 with ((with_reducible refine at_store 38 ?_); refine wpList_store_at rfl rfl 38 (.tmp 1) (.tmp 3) rfl w1.heap.size 0 rfl abcC rfl zero32 _ (Blk.new _ _ zero32) (by decide) (ints_oneCell _ _) (by kernel_rfl) ?_; intro w2 hb2 hg2)
  rw [splice_all _ _ (by decide)] at hb2
  have hbel2 := below_of_only (hbel1'.alloc hbel1'.size _) hg2 (by simp; have := hbel1'.size; omega) hbel1'.size
  have c0 : w2.cell? ⟨w1.heap.size, 0, none⟩ = some (.int .u8 186) := hb2.cell 0
  have c1 : w2.cell? ⟨w1.heap.size, 1, none⟩ = some (.int .u8 120) := hb2.cell 1
  have c31 : w2.cell? ⟨w1.heap.size, 31, none⟩ = some (.int .u8 173) := hb2.cell 31
  clear hb2 hg2
  go_wp2
  go_ret
  exact ⟨rfl, hbel2⟩
end Go.Proofs.YtgjolpapcbmjaaaDoor
