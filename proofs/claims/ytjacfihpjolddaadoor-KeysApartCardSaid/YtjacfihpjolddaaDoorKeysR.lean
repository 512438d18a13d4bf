/- What Of of the reference batonref05 returns, for every secret, name and numbers, as a walk through the translated text. Conditions: the secret is 32 bytes, the numbers read as a list. -/
import Derived.Test.YtjacfihpjolddaaDoorHmacR
import Derived.Test.YtjacfihpjolddaaDoorKeys1
namespace Go.Proofs.YtjacfihpjolddaaDoor
open Go.ChangeShapes Go.WideShapes Go.RowKit
/-- 32 bytes of which j are filled in. -/
def fillTo (dg : List Nat) (j : Nat) : List Nat := dg.take j ++ List.replicate (32 - j) 0
theorem fillTo_zero (dg : List Nat) : ints .u8 (fillTo dg 0) = zero32 := by simp [fillTo, zero32]
theorem fillTo_end (dg : List Nat) (h : dg.length = 32) : fillTo dg 32 = dg := by rw [fillTo, List.take_of_length_le (by omega)]; simp
theorem length_fillTo (dg : List Nat) (j : Nat) (h : dg.length = 32) (hj : j ≤ 32) : (fillTo dg j).length = 32 := by simp [fillTo]; omega
theorem fillTo_set (dg : List Nat) (j : Nat) (h : dg.length = 32) (hj : j < 32) : (ints .u8 (fillTo dg j)).set j (.int .u8 (dg[j] : Int)) = ints .u8 (fillTo dg (j + 1)) := by
  apply List.ext_getElem
  · rw [List.length_set, length_ints, length_ints, length_fillTo dg j h (Nat.le_of_lt hj), length_fillTo dg (j + 1) h hj]
  · intro i h1 h2
    rw [List.getElem_set]
    simp only [List.length_set, length_ints, length_fillTo dg j h (Nat.le_of_lt hj)] at h1
    split
    · rename_i e
      subst e
      simp only [ints, fillTo, List.getElem_map, List.getElem_append, List.length_take, h, List.getElem_take, List.getElem_replicate]
      simp [show j < min (j + 1) 32 by omega]
    · rename_i e
      simp only [ints, fillTo, List.getElem_map, List.getElem_append, List.length_take, h, List.getElem_take, List.getElem_replicate]
      by_cases hi : i < j
      · simp [show i < min j 32 by omega, show i < min (j + 1) 32 by omega]
      · simp [show ¬ i < min j 32 by omega, show ¬ i < min (j + 1) 32 by omega]
set_option maxRecDepth 100000 in
set_option maxHeartbeats 1600000 in
theorem refKey_c (sec : List Nat) (s : ByteArray) (A : Option Addr) (n c : Nat) (ns : List Int) (w : World) (hl : sec.length = 32) (hlt : ∀ x ∈ sec, x < 256) (hr : ReadsZ .i64 w A n c ns) (hs : s.size ≤ 1024) (hn : n ≤ 1024) :
    Calls Tryd.prog 8 #[.agg (ints .u8 sec).toArray, .string s, .slice A n c] w fun en w' => en = .returned (.agg (ints .u8 (keyL sec (strL s) ns)).toArray) ∧ Below w.heap.size w w' := by
  have HL := Lib.hid hl
  have HLT := Lib.hid hlt
  have HR := Lib.hid hr
  have HLO : Hid ((ofL (strL s) ns).length ≤ 1048576) := by
    show _ ≤ _
    rw [length_ofL, length_strL, hr.len]; omega
  have HOW : Hid (∀ x ∈ ofL (strL s) ns, x < 256) := ofL_lt _ _ (strL_lt s)
  have hld := length_keyL sec (strL s) ns
  have hlt2 := keyL_lt sec (strL s) ns
  obtain ⟨dg, hdg⟩ : ∃ dg, Hid (keyL sec (strL s) ns = dg) := ⟨_, rfl⟩
  rw [hdg.out] at hld hlt2 ⊢
  have HDG : Hid (hmacN sec (ofL (strL s) ns) = dg) := hdg.out
  have HLD := Lib.hid hld
  have HLT2 := Lib.hid hlt2
  clear hl hlt hr hld hlt2 hdg
  go_enter Tryd.func8, Tryd.ntmps8
  go_upto_region 2 with (fail)
  refine name_wp (fun w1 => Blk w1 w.heap.size 23 (ints .u8 sec) ∧ Blk w1 (w.heap.size + 1) 23 zero32 ∧ Blk w1 (w.heap.size + 1 + 1) 23 zero32 ∧ Below w.heap.size w w1) ⟨((Blk.new _ _ (ints .u8 sec)).alloc _).alloc _, ?_, ?_, (((Below.refl _ _).alloc (Nat.le_refl _) _).alloc (by simp) _).alloc (by simp; omega) _⟩ ?_
  · have := Blk.new (w.alloc (.cells (ints .u8 sec).toArray 23)) 23 zero32
    rw [World.size_alloc] at this
    exact this.alloc _
  · have := Blk.new ((w.alloc (.cells (ints .u8 sec).toArray 23)).alloc (.cells zero32.toArray 23)) 23 zero32
    rw [World.size_alloc, World.size_alloc] at this
    exact this
  rintro w1 ⟨hb3, hb6, hb7, hbel1⟩
  have HR1 := Lib.hid (HR.out.keep hbel1)
  have HK1 := Lib.hid (reads_blk hb3 HL.out (by decide) HLT.out)
  have HB6 := Lib.hid hb6
  have HB7 := Lib.hid hb7
  clear hb3 hb6 hb7 HR
  refine wp_region_held_drew (S := fun _ => True) (by kernel_rfl) trivial (fun hS => ?_)
  refine wpAnyH_take (i := 0) (oi := ⟨some 10, .slice 23 (.tmp 3) none none none, _, _, _, _⟩) (v := .slice (some ⟨w.heap.size, 0, none⟩) 32 32) rfl (by kernel_rfl) (by kernel_rfl) (by kernel_rfl) (fun _ _ _ h => h) (Or.inl ⟨by rfl, by intro W hSw; clear hSw; go_simp⟩) hS ?_
  simp only [Act.put, List.setIfInBounds_toArray, List.set_cons_zero, List.set_cons_succ]
  refine wpAnyH_take (i := 1) (oi := ⟨some 11, .move (.tmp 1), _, _, _, _⟩) (v := .string s) rfl (by kernel_rfl) (by kernel_rfl) (by kernel_rfl) (fun _ _ _ h => h) (Or.inl ⟨by rfl, by intro W hSw; clear hSw; go_simp⟩) hS ?_
  simp only [Act.put, List.setIfInBounds_toArray, List.set_cons_zero, List.set_cons_succ]
  refine wpAnyH_take (i := 2) (oi := ⟨some 12, .move (.tmp 2), _, _, _, _⟩) (v := .slice A n c) rfl (by kernel_rfl) (by kernel_rfl) (by kernel_rfl) (fun _ _ _ h => h) (Or.inl ⟨by rfl, by intro W hSw; clear hSw; go_simp⟩) hS ?_
  simp only [Act.put, List.setIfInBounds_toArray, List.set_cons_zero, List.set_cons_succ]
  refine wpAnyH_ready (rs := [3]) (by kernel_rfl) (by simp) (AllReadyH.cons (o := ⟨some 13, .call { callee := .value (.func 12), args := #[.tmp 11, .tmp 12], argTypes := #[9, 27] }, _, _, _, _⟩) rfl (fun K hK => ?_) AllReadyH.nil)
  go_simp
  refine (refOf_c s A n c ns _ (HR1.out.of_heap (w' := w1.drew) rfl) (by omega) (by omega)).mono ?_
  rintro en w2 ⟨v2, rfl, hm2⟩
  obtain ⟨A2, c2, rfl, hr2⟩ := Reads.of_own hm2.1 (fun x hx => wf_u8.2 (HOW.out x hx))
  refine hK.out _ _ trivial (fun _ => ?_)
  have hbel2 := hm2.2
  have hbw2 := hbel1.drew.trans (hbel2.mono hbel1.drew.size)
  have HK2 := Lib.hid ((HK1.out.of_heap (w' := w1.drew) rfl).keep hbel2)
  have HB6' := Lib.hid (HB6.out.drew.below hbel2 HB6.out.drew.lt)
  have HB7' := Lib.hid (HB7.out.drew.below hbel2 HB7.out.drew.lt)
  have HR2 := Lib.hid hr2
  have hs2 : w.heap.size + 1 + 1 < w2.heap.size := HB7'.out.lt
  generalize ofL (strL s) ns = msg at *
  clear hK K hm2 hr2 hbel2 HK1 HB6 HB7 HR1
  refine wpAnyH_ready (rs := [4]) (by kernel_rfl) (by simp) (AllReadyH.cons (o := ⟨some 14, .call { callee := .value (.func 15), args := #[.tmp 10, .tmp 13], argTypes := #[32, 32] }, _, _, _, _⟩) rfl (fun K hK => ?_) AllReadyH.nil)
  go_simp
  refine (refTag_c _ 32 32 sec _ _ _ msg _ HK2.out HR2.out HLO.out (by decide)).mono ?_
  rintro en w3 ⟨v3, rfl, hm3⟩
  rw [HDG.out] at hm3
  obtain ⟨g8, c8, rfl, hg8, hg8'⟩ := mine_pos hm3 (by decide)
  obtain ⟨A8, c8', e8, hr8⟩ := Reads.of_own hm3.1 (fun x hx => wf_u8.2 (HLT2.out x hx))
  cases e8
  refine hK.out _ _ trivial (fun _ => ?_)
  have hbel3 := hm3.2
  have hbw3 := hbw2.trans (hbel3.mono hbw2.size)
  have HB6 := Lib.hid (HB6'.out.below hbel3 HB6'.out.lt)
  have HB7 := Lib.hid (HB7'.out.below hbel3 HB7'.out.lt)
  have HR8 := Lib.hid hr8
  clear hK K hm3 hr8 hbel3 hbw2 HK2 HR2 HB6' HB7' hbel1
  refine wpAnyH_take (i := 5) (oi := ⟨some 8, .assign (.tmp 14), _, _, _, _⟩) (v := .slice (some ⟨g8, 0, none⟩) 32 c8) rfl (by kernel_rfl) (by kernel_rfl) (by kernel_rfl) (fun _ _ _ h => h) (Or.inl ⟨by rfl, by intro W hSw; clear hSw; go_simp⟩) trivial ?_
  simp only [Act.put, List.setIfInBounds_toArray, List.set_cons_zero, List.set_cons_succ]
  refine wpAnyH_done (by kernel_rfl) ?_ _
  go_wp2_with fail
  go_loopw [9] (fun i wr => ∃ j : Nat, j ≤ 32 ∧ i = .int .i64 j ∧ Blk wr (w.heap.size + 1 + 1) 23 (ints .u8 (fillTo dg j)) ∧ Blk wr (w.heap.size + 1) 23 zero32 ∧ Reads .u8 wr (some ⟨g8, 0, none⟩) 32 c8 dg ∧ Below w.heap.size w wr) (fun i _ => 32 - (intOf i).toNat)
  case atStart => exact ⟨0, Nat.zero_le _, rfl, by rw [fillTo_zero]; exact HB7.out, HB6.out, HR8.out, hbw3⟩
  case round =>
    clear HB6 HB7 HR8 hbw3
    obtain ⟨j, hj, rfl, hb7, hb6, hr8, hbel⟩ := hrel
    by_cases hlt : j < 32
    · have hjo : j < dg.length := by rw [HLD.out]; exact hlt
      obtain ⟨ad, e, _, hcell⟩ := hr8.cell j hjo
      cases e
      have hcell2 : wr.cell? ⟨g8, j, none⟩ = some (.int .u8 (dg[j] : Int)) := by
        have e : (⟨g8, 0, none⟩ : Addr).add j = ⟨g8, j, none⟩ := by
          unfold Addr.add; by_cases hj0 : j = 0 <;> simp [hj0]
        rw [e] at hcell; exact hcell
      clear hcell
      have f7 := hb7.frozen j
      have hset := fillTo_set dg j HLD.out hlt
      have hlen := length_fillTo dg j HLD.out hj
      have c7 : ∃ y, wr.cell? ⟨w.heap.size + 1 + 1, j, none⟩ = some y := ⟨_, hb7.cellAt j (by rw [length_ints, hlen]; exact hlt)⟩
      obtain ⟨y, c7⟩ := c7
      generalize dg[j] = x at *
      have HSET := Lib.hid hset
      have HB7 := Lib.hid hb7
      have HB6 := Lib.hid hb6
      have HR8 := Lib.hid hr8
      clear hb7 hb6 hr8 hset hlen
      have hlt2 : (j : Int) < 32 := by omega
      go_wp2
      go_roundw
      case rel =>
        refine ⟨j + 1, by omega, by go_num, ?_, ?_, ?_, ?_⟩
        · rw [← HSET.out]
          exact HB7.out.set_ _ _
        · exact HB6.out.far (by simp) _
        · exact HR8.out.only (g := w.heap.size + 1 + 1) (fun ad e => by cases e; show g8 ≠ _; omega) (only_setCell (World.grownBy.refl _ _) rfl _)
        · exact hbel.setCell (by show _ ≤ w.heap.size + 1 + 1; omega) _
      case measure => simp [intOf]; omega
    · have hj32 : j = 32 := by omega
      subst hj32
      rw [fillTo_end dg HLD.out] at hb7
      have HB7 := Lib.hid hb7
      have HB6 := Lib.hid hb6
      clear hb7 hb6 hr8
      go_upto_region 7 with (fail)
      refine wp_region_lit ?_
      refine wpList_load_at rfl 23 (.tmp 7) rfl ⟨w.heap.size + 1 + 1, 0, none⟩ rfl _ _ HB7.out.all Tryd.underlying23 rfl (by rw [length_ints, HLD.out]; kernel_rfl) ?_
      refine wpList_store_at rfl rfl 23 (.tmp 6) (.tmp 25) rfl (w.heap.size + 1) 0 rfl _ rfl _ _ HB6.out (by rw [length_ints, HLD.out, length_zero32]; decide) (ints_oneCell _ _) (by rw [length_ints, HLD.out]; kernel_rfl) ?_
      intro w9 hb9 hg9
      have hbel9 := below_of_only hbel hg9 hbel.size (by omega)
      rw [splice_all _ _ (by rw [length_ints, HLD.out, length_zero32])] at hb9
      refine wpList_nil ?_
      go_wp2
      refine bodyPost_ret (v := .agg (ints .u8 dg).toArray) ?_ rfl ⟨rfl, hbel9⟩
      exact results_cell_row rfl _ _ (w.heap.size + 1) _ _ _ _ rfl hb9 Tryd.underlying23 rfl (by rw [List.size_toArray, length_ints, HLD.out]; kernel_rfl)
end Go.Proofs.YtjacfihpjolddaaDoor
