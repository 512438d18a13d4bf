/- What Known of package keys returns, for every argument, as a walk through the translated text. Conditions: keys are 32 bytes; the table of the rounds' constants lies as the program lays it. -/
import Derived.Test.YtjacfihpjolddaaDoorKeys1
namespace Go.Proofs.YtjacfihpjolddaaDoor
open Go.ChangeShapes Go.WideShapes Go.RowKit
set_option maxRecDepth 100000 in
set_option maxHeartbeats 1600000 in
theorem known_c (sec : List Nat) (a : Int) (id : List Nat) (w : World) (hl : sec.length = 32) (hlt : ∀ x ∈ sec, x < 256) (ha : (Lit.int .i64 a).wf = true) (hil : id.length = 32) (hilt : ∀ x ∈ id, x < 256) (hk : KT w) :
    Calls Tryd.prog 11 #[.agg (ints .u8 sec).toArray, .int .i64 a, .agg (ints .u8 id).toArray] w fun en w' => en = .returned (.bool (decide (id = keyL sec ticketS [a]))) ∧ Below w.heap.size w w' := by
  have HL := Lib.hid hl
  have HLT := Lib.hid hlt
  have HIL := Lib.hid hil
  have HILT := Lib.hid hilt
  have HKT := Lib.hid hk
  have hld := length_keyL sec ticketS [a]
  have hlt2 := keyL_lt sec ticketS [a]
  obtain ⟨dg, hdg⟩ : ∃ dg, Hid (keyL sec ticketS [a] = dg) := ⟨_, rfl⟩
  rw [hdg.out] at hld hlt2 ⊢
  have HLD := Lib.hid hld
  have HLT2 := Lib.hid hlt2
  obtain ⟨cc, hcc⟩ : ∃ cc : Bool, Hid (decide (id = dg) = cc) := ⟨_, rfl⟩
  rw [hcc.out]
  clear hl hlt hk hld hlt2 hil hilt
  go_enter Tryd.func11, Tryd.ntmps11
  go_upto_region 1 with (fail)
  refine name_wp (fun w1 => Blk w1 w.heap.size 23 (ints .u8 sec) ∧ Blk w1 (w.heap.size + 1) 23 (ints .u8 id) ∧ Below w.heap.size w w1) ⟨(Blk.new _ _ (ints .u8 sec)).alloc _, ?_, ((Below.refl _ _).alloc (Nat.le_refl _) _).alloc (by simp) _⟩ ?_
  · have := Blk.new (w.alloc (.cells (ints .u8 sec).toArray 23)) 23 (ints .u8 id)
    rw [World.size_alloc] at this
    exact this
  rintro w1 ⟨hb3, hb5, hbel1⟩
  have HB3 := Lib.hid hb3
  have HB5 := Lib.hid hb5
  clear hb3 hb5
  refine wp_region_lit ?_
  refine wpList_load_at rfl 23 (.tmp 3) rfl ⟨w.heap.size, 0, none⟩ rfl _ _ HB3.out.all Tryd.underlying23 rfl (by rw [length_ints, HL.out]; kernel_rfl) ?_
  go_wp2_with fail
  refine (ticket_c sec a _ HL.out HLT.out ha (HKT.out.below hbel1)).mono ?_
  rintro en w2 ⟨rfl, hbel2⟩
  rw [hdg.out]
  have hbw2 := hbel1.trans (hbel2.mono hbel1.size)
  have HB6 := Lib.hid (HB5.out.below hbel2 HB5.out.lt)
  have hs2 : w.heap.size + 1 < w2.heap.size := HB6.out.lt
  clear HB3 HB5 hbel1 hbel2
  go_upto_region 2 with ((with_reducible refine at_store 23 ?_); refine wpList_store_at rfl rfl 23 (.tmp 7) (.tmp 10) rfl w2.heap.size 0 rfl (ints .u8 dg) rfl zero32 _ (Blk.new _ _ zero32) (by rw [length_ints, HLD.out, length_zero32]; decide) (ints_oneCell _ _) (by rw [length_ints, HLD.out]; kernel_rfl) ?_; intro w3 hb7 hg7)
  rw [splice_all _ _ (by rw [length_ints, HLD.out, length_zero32])] at hb7
  have hbw3 := below_of_only (hbw2.alloc hbw2.size _) hg7 (by simp; omega) (by omega)
  have HR5 := Lib.hid (reads_blk ((HB6.out.alloc _).grown hg7 (by simp; omega)) HIL.out (by decide) HILT.out)
  have HR7 := Lib.hid (reads_blk hb7 HLD.out (by decide) HLT2.out)
  generalize w2.heap.size = g7 at *
  clear hb7 hg7 HB6 hbw2
  have HS : Hid (∀ W : World, W.heap = w3.heap → Calls Tryd.prog 16 #[.slice (some ⟨w.heap.size + 1, 0, none⟩) 32 32, .slice (some ⟨g7, 0, none⟩) 32 32] W fun e w' => e = .returned (.bool cc) ∧ ∃ k, w' = W.drewN k) :=
    fun W e => hcc.out ▸ hsame_c _ _ 32 32 32 32 id dg W (HR5.out.of_heap e) (HR7.out.of_heap e)
  go_quiet ((go_at_call 16; exact Calls.quiet_of (HS.out _ rfl)))
  go_wp2
  go_ret
  exact ⟨rfl, belowDrewN hbw3 _⟩
end Go.Proofs.YtjacfihpjolddaaDoor
