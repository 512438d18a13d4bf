/- The walks of the statement ShaSums: the digest of any message is what the reference says. Conditions: the message reads as a list of bytes; the table of the rounds' constants lies as the program lays it. -/
import Derived.Test.YtgjolpapcbmjaaaDoorAwake2
import Derived.Test.YtgjolpapcbmjaaaDoorShaR3
namespace Go.Proofs.YtgjolpapcbmjaaaDoor.shaSums
open Go.ChangeShapes Go.WideShapes Go.RowKit
theorem digestN_lt (l : List Nat) : ∀ x ∈ digestN l, x < 256 := flat4_lt _
theorem reads_u8 {w : World} {g : Nat} {t : TypeId} {l : List Nat} {n : Nat} (h : Blk w g t (ints .u8 l)) (hl : l.length = n) (hm : n ≤ maxLen) (hx : ∀ x ∈ l, x < 256) : Reads .u8 w (some ⟨g, 0, none⟩) n n l := by
  refine ⟨hl, Nat.le_refl _, hm, fun x h => wf_u8.2 (hx x h), fun i hi => ⟨_, rfl, h.lt, ?_⟩⟩
  exact h.all i _ (by simp [ints, hi])
set_option maxHeartbeats 800000 in
theorem walk_big (A : Option Addr) (n c : Nat) (w : World) (hk : KT w) (hn : 400 < n) :
    Calls Tryd.prog 5 #[.slice A n c] w fun e w' => e = .returned (.bool true) ∧ Below w.heap.size w w' := by
  go_enter Tryd.func5, Tryd.ntmps5
  go_wp2_with fail
  refine (awake2_c _ hk).mono ?_
  rintro e w1 ⟨rfl, hb⟩
  go_wp2
  go_ret
  exact ⟨rfl, hb⟩
set_option maxHeartbeats 1600000 in
theorem walk_small (A : Option Addr) (n c : Nat) (l : List Nat) (w : World) (hk : KT w) (hn : n ≤ 400) (hr : Reads .u8 w A n c l) :
    Calls Tryd.prog 5 #[.slice A n c] w fun e w' => e = .returned (.bool true) ∧ Below w.heap.size w w' := by
  go_enter Tryd.func5, Tryd.ntmps5
  go_wp2_with fail
  refine (awake2_c _ hk).mono ?_
  rintro e w1 ⟨rfl, hb1⟩
  have hr1 := hr.keep hb1
  have hk1 := hk.below hb1
  clear hr hk
  go_wp2_with fail
  refine (sum_c _ _ _ l _ hr1 hk1 (by omega)).mono ?_
  rintro e w2 ⟨rfl, hb2⟩
  have hr2 := hr1.keep hb2
  have hbw2 := hb1.trans (hb2.mono hb1.size)
  clear hr1 hk1 hb1 hb2
  go_upto_region 6 with ((with_reducible refine at_store 38 ?_); refine wpList_store_at rfl rfl 38 (.tmp 3) (.tmp 10) rfl w2.heap.size 0 rfl (ints .u8 (digestN l)) rfl zero32 _ (Blk.new _ _ zero32) (by rw [length_ints, length_digestN, length_zero32]; decide) (ints_oneCell _ _) (by rw [length_ints, length_digestN]; kernel_rfl) ?_; intro w3 hb3 hg3)
  rw [splice_all _ _ (by rw [length_ints, length_digestN, length_zero32])] at hb3
  have hbw3 := below_of_only (hbw2.alloc hbw2.size _) hg3 (by simp; have := hbw2.size; omega) hbw2.size
  have hb23 := below_of_only ((Below.refl w2.heap.size w2).alloc (Nat.le_refl _) _) hg3 (by simp) (Nat.le_refl _)
  have hr3 := hr2.keep hb23
  have hk3 := reads_u8 hb3 (length_digestN l) (by decide) (digestN_lt l)
  generalize w2.heap.size = g2 at *
  clear hb3 hg3 hr2 hbw2 hb23
  have HR3 := Lib.hid hr3
  have HK3 := Lib.hid hk3
  clear hr3 hk3
  go_region_with (first
    | (go_at_call 16; refine (refSum_c _ _ _ l _ (by exact HR3.out.of_heap rfl) (by omega)).mono ?_; rintro e w5 ⟨v5, rfl, hm5⟩; obtain ⟨A5, c5, rfl, hr5⟩ := Reads.of_own hm5.1 (fun x hx => wf_u8.2 (digestN_lt l x hx)); have hk5 := (HK3.out.of_heap (w' := w3.drew) rfl).keep hm5.2; have hbw5 := hbw3.drew.trans (hm5.2.mono hbw3.size); have HR5 := Lib.hid hr5; have HK5 := Lib.hid hk5; clear hm5 hr5 hk5)
    | (go_at_call 12; refine (same_c _ _ _ _ _ _ (digestN l) (digestN l) _ HK5.out HR5.out).mono ?_; rintro e w6 ⟨rfl, k6, rfl⟩; rw [decide_eq_true (rfl : digestN l = digestN l)]))
  go_wp2
  go_ret
  exact ⟨rfl, belowDrewN hbw5 _⟩
theorem walk (a : Option Addr) (n c : Nat) (l : List Nat) (w : World) (hr : Reads .u8 w a n c l) (kt : KT w) :
    Calls Tryd.prog 5 #[.slice a n c] w fun e w' => e = .returned (.bool true) ∧ Below w.heap.size w w' := by
  by_cases hbig : 400 < n
  · exact walk_big a n c w kt hbig
  · exact walk_small a n c l w kt (by omega) hr
end Go.Proofs.YtgjolpapcbmjaaaDoor.shaSums
