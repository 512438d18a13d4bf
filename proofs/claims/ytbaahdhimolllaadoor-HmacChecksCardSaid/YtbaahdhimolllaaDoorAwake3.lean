/- awake, the check of the page's example in the statements of layer 3, returns true in every world in which the table of the rounds' constants lies as the program lays it, and changes nothing that was there. Conditions: that table. -/
import Derived.Test.YtbaahdhimolllaaDoorHmac2
import Derived.Test.YtbaahdhimolllaaDoorShaR1
import Derived.Lib.SlBytesConst
namespace Go.Proofs.YtbaahdhimolllaaDoor
open Go.ChangeShapes Go.WideShapes Go.RowKit
theorem reads_new {w : World} {t : TypeId} {l : List Nat} {n : Nat} {cs : Array Value} {fr : Nat × Nat} (hc : cs.toList = ints .u8 l) (hl : l.length = n) (hm : n ≤ maxLen) (hx : ∀ x ∈ l, x < 256) : Reads .u8 (w.alloc (.cells cs t fr)) (some ⟨w.heap.size, 0, none⟩) n n l := by
  refine ⟨hl, Nat.le_refl _, hm, fun x h => wf_u8.2 (hx x h), fun i hi => ⟨_, rfl, by simp, ?_⟩⟩
  rw [add_head, cell_of_row _ _ _ cs t fr (heap_alloc_new w _), ← Array.getElem?_toList, hc]
  simp [ints, hi]
theorem readsAll_new {w : World} {t : TypeId} {ls : List (List Nat)} {n : Nat} {cs : Array Value} (hl : ls.length = n) (hm : n ≤ maxLen) (h : ∀ i (h : i < ls.length), ∃ R m cr, cs.toList[i]? = some (.slice R m cr) ∧ Reads .u8 w R m cr ls[i]) :
    ReadsAll .u8 (w.alloc (.cells cs t)) (some ⟨w.heap.size, 0, none⟩) n n ls := by
  refine ⟨hl, Nat.le_refl _, hm, fun i hi => ?_⟩
  obtain ⟨R, m, cr, e, hr⟩ := h i hi
  exact ⟨_, R, m, cr, rfl, by simp, cells_new _ _ _ i _ e, hr.keep ((Below.refl _ _).alloc (Nat.le_refl _) _)⟩
def hiC : List Nat := [0xb0, 0x34, 0x4c, 0x61, 0xd8, 0xdb, 0x38, 0x53, 0x5c, 0xa8, 0xaf, 0xce, 0xaf, 0x0b, 0xf1, 0x2b, 0x88, 0x1d, 0xc2, 0x00, 0xc9, 0x83, 0x3d, 0xa7, 0x26, 0xe9, 0x37, 0x6c, 0x2e, 0x32, 0xcf, 0xf7]
theorem tag_hi : hmacN (List.replicate 20 11) [[72, 105, 32], [84, 104, 101, 114, 101]].flatten = hiC := by decide +kernel
theorem key_grow (j : Nat) : ints .u8 (List.replicate j 11) ++ [.int .u8 11] = ints .u8 (List.replicate (j + 1) 11) := by
  rw [List.replicate_succ']; simp [ints]
set_option maxRecDepth 100000 in
set_option maxHeartbeats 1600000 in
theorem awake3_c (w : World) (hk : KT w) : Calls Tryd.prog 6 #[] w fun e w' => e = .returned (.bool true) ∧ Below w.heap.size w w' := by
  obtain ⟨i0, hi, hz0, hz1, hz2⟩ := info_parts infoU8
  have HKT := Lib.hid hk
  clear hk
  go_enter Tryd.func6, Tryd.ntmps6
  go_wp2_with fail
  go_loopw [1, 2] (fun v i wr => ∃ j c : Nat, ∃ A, j ≤ 20 ∧ i = .int .i64 j ∧ v = .slice A j c ∧ Mine w wr 5 (.slice A j c) j (ints .u8 (List.replicate j 11))) (fun _ i _ => 20 - (intOf i).toNat)
  case atStart => exact ⟨0, 0, none, by omega, rfl, rfl, ⟨by simp [ints], .inl ⟨rfl, rfl⟩⟩, Below.refl _ _⟩
  case round =>
    obtain ⟨j, c, A, hj, rfl, rfl, hmine⟩ := hrel
    by_cases hlt : j < 20
    · have HM := Lib.hid hmine
      have hbs := hmine.2.size
      have hlt2 : (j : Int) < 20 := by omega
      clear hmine
      go_wp2_with (at_builtin; refine wpList_append_own_at _ rfl (.tmp 8) (.tmp 9) 22 rfl w.heap.size 5 i0 (.int .u8 0) 1 1 Tryd.underlying22 hi hz0 hz1 hz2 rfl (by decide) (.slice A j c) j _ rfl (HM.out.1.alloc _) ⟨wr.heap.size, 0, none⟩ 1 1 [.int .u8 11] rfl rfl (cells_new _ _ _) (by simp [Value.oneCell']) (by unfold maxLen; omega) (by omega) (by simp; omega) ?_; intro v2 w2 hown2 hgrow2 hiff2 hat2)
      obtain ⟨A2, c2, rfl⟩ := own_form hown2
      have hm2 := mine_grown HM.out _ hown2 hgrow2
      rw [key_grow] at hm2
      go_roundw
      case rel => exact ⟨j + 1, c2, A2, by omega, by go_num, rfl, hm2⟩
      case measure => simp [intOf]; omega
    · have hj20 : j = 20 := by omega
      subst hj20
      have hbel := hmine.2
      obtain ⟨A1, c1, e1, hr1⟩ := Reads.of_own hmine.1 (fun x hx => wf_u8.2 (by rw [(List.mem_replicate.1 hx).2]; decide))
      cases e1
      have HR1 := Lib.hid hr1
      clear hmine hr1
      have hcv := fun (W : World) (C : Array Value) (n c : Nat) => Lib.run_convert_bytes_const (P := Tryd.prog) W 22 5 C n c Tryd.underlying22 Tryd.underlying5
      have hcv2 := fun (o : Obj) (C : Array Value) (n c : Nat) => hcv (wr.alloc o) C n c
      simp only [World.size_alloc] at hcv2
      go_wp2_with fail
      clear hcv hcv2
      refine name_Calls (fun w1 => Reads .u8 w1 A 20 c (List.replicate 20 11) ∧ ReadsAll .u8 w1 (some ⟨wr.heap.size + 1 + 1, 0, none⟩) 2 2 [[72, 105, 32], [84, 104, 101, 114, 101]] ∧ Below w.heap.size w w1) ⟨?_, ?_, ?_⟩ ?_
      · exact ((HR1.out.keep ((Below.refl _ _).alloc (Nat.le_refl _) _)).keep ((Below.refl _ _).alloc (Nat.le_refl _) _)).keep ((Below.refl _ _).alloc (Nat.le_refl _) _)
      · have h1 : Reads .u8 (wr.alloc (.cells #[.int .u8 72, .int .u8 105, .int .u8 32] 5 (3, 4))) (some ⟨wr.heap.size, 0, none⟩) 3 3 [72, 105, 32] := reads_new rfl rfl (by decide) (by decide)
        have h2 : Reads .u8 ((wr.alloc (.cells #[.int .u8 72, .int .u8 105, .int .u8 32] 5 (3, 4))).alloc (.cells #[.int .u8 84, .int .u8 104, .int .u8 101, .int .u8 114, .int .u8 101] 5 (5, 6))) (some ⟨(wr.alloc (.cells #[.int .u8 72, .int .u8 105, .int .u8 32] 5 (3, 4))).heap.size, 0, none⟩) 5 5 [84, 104, 101, 114, 101] := reads_new rfl rfl (by decide) (by decide)
        have h3 := h1.keep ((Below.refl _ _).alloc (Nat.le_refl _) (.cells #[.int .u8 84, .int .u8 104, .int .u8 101, .int .u8 114, .int .u8 101] 5 (5, 6)))
        rw [World.size_alloc] at h2
        have h4 := readsAll_new (t := 22) (ls := [[72, 105, 32], [84, 104, 101, 114, 101]]) (cs := #[.slice (some ⟨wr.heap.size, 0, none⟩) 3 3, .slice (some ⟨wr.heap.size + 1, 0, none⟩) 5 5]) rfl (by decide) (fun i hi => match i, hi with
          | 0, _ => ⟨_, _, _, rfl, h3⟩
          | 1, _ => ⟨_, _, _, rfl, h2⟩)
        rw [World.size_alloc, World.size_alloc] at h4
        exact h4
      · exact ((hbel.alloc hbel.size _).alloc (by have := hbel.size; simp; omega) _).alloc (by have := hbel.size; simp; omega) _
      rintro w1 ⟨hr2, hall, hbel1⟩
      refine (tag_c _ _ _ _ _ _ _ _ _ hr2 hall (HKT.out.below hbel1) (by decide) (by decide)).mono ?_
      rintro en w2 ⟨rfl, hbel2⟩
      rw [tag_hi]
      have hbw2 := hbel1.trans (hbel2.mono hbel1.size)
      have hbs2 := hbw2.size
      clear hr2 hall hbel1 hbel2 HR1 hbel HKT
      go_upto_region 7 with ((with_reducible refine at_store 26 ?_); refine wpList_store_at rfl rfl 26 (.tmp 3) (.tmp 17) rfl w2.heap.size 0 rfl (ints .u8 hiC) rfl zero32 _ (Blk.new _ _ zero32) (by decide) (ints_oneCell _ _) (by kernel_rfl) ?_; intro w3 hb3 hg3)
      rw [splice_all _ _ (by decide)] at hb3
      have hbw3 := below_of_only (hbw2.alloc hbw2.size _) hg3 (by simp; omega) (by omega)
      generalize w2.heap.size = g2 at *
      have c0 : w3.cell? ⟨g2, 0, none⟩ = some (.int .u8 176) := hb3.cell 0
      have c1 : w3.cell? ⟨g2, 1, none⟩ = some (.int .u8 52) := hb3.cell 1
      have c31 : w3.cell? ⟨g2, 31, none⟩ = some (.int .u8 247) := hb3.cell 31
      clear hb3 hg3
      go_wp2
      go_ret
      exact ⟨rfl, hbw3⟩
end Go.Proofs.YtbaahdhimolllaaDoor
