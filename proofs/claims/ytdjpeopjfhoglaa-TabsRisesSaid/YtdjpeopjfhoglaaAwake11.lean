/- The statements of layer 11 begin with the chapter's example: awake answers true. Conditions: none. -/
import Derived.Test.YtdjpeopjfhoglaaTabs3
import Derived.Test.YtdjpeopjfhoglaaTabs4
namespace Go.Proofs.Ytdjpeopjfhoglaa
open Go.ChangeShapes Go.WideShapes Go.RowKit
set_option maxRecDepth 100000 in
set_option maxHeartbeats 1600000 in
theorem awake11_c (w : World) : Calls Try.prog 6 #[] w fun en w' => en = .returned (.bool true) ∧ Below w.heap.size w w' := by
  go_enter Try.func6, Try.ntmps6
  go_wp2_with fail
  refine (newT_c 20 w).mono ?_
  rintro en w1 (⟨_, _, ⟨g, rfl, ht⟩, hb1⟩ | ⟨hn, _⟩)
  · have HT := Lib.hid ht
    have HB1 := Lib.hid hb1
    clear ht hb1
    go_wp2_with fail
    refine (list_c g _ _ _ w1 HT.out).mono ?_
    rintro en w2 ⟨v, rfl, hm⟩
    have hm2 : Mine w1 w2 3 v 2 [.int .i64 8, .int .i64 16] := hm
    obtain ⟨d, c, rfl, _, hlt⟩ := mine_pos hm2 (by decide)
    obtain ⟨a0, a1⟩ : w2.cell? ⟨d, 0, none⟩ = some (.int .i64 8) ∧ w2.cell? ⟨d, 1, none⟩ = some (.int .i64 16) := by
      rcases own_int hm2.1 with ⟨e, _⟩ | ⟨g', cap, cs, e, _, hblk, _, _⟩
      · cases e
      · cases e
        exact ⟨hblk.cell 0, hblk.cell 1⟩
    have HB2 := Lib.hid (HB1.out.trans (hm2.2.mono HB1.out.size))
    have HT2 := Lib.hid (HT.out.below hm2.2)
    have HN := Lib.hid (next_c g _ _ _ 16 1 w2 HT2.out)
    clear hm hm2 hlt
    go_wp2_with fail
    refine HN.out.mono ?_
    rintro en w3 ⟨rfl, q, rfl⟩
    have e19 : ((onP (20 : Int).toNat newP (cl (20 : Int).toNat 16) (1 : Int).toNat : Nat) : Int) = 19 := by decide
    rw [e19]
    go_wp2
    go_ret
    exact ⟨rfl, belowDrewN HB2.out q⟩
  · exact absurd ⟨by decide, by decide⟩ hn
end Go.Proofs.Ytdjpeopjfhoglaa
