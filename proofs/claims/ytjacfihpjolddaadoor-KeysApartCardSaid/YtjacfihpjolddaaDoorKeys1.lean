/- What the functions of package keys return, for every argument, as a walk through the translated text. Conditions: keys are 32 bytes, numbers read as a list; the table of the rounds' constants lies as the program lays it. -/
import Derived.Test.YtjacfihpjolddaaDoorHmac2
import Derived.Test.YtjacfihpjolddaaDoorLabel5
namespace Go.Proofs.YtjacfihpjolddaaDoor
open Go.ChangeShapes Go.WideShapes Go.RowKit
/-- A key of a secret, a name, numbers. -/
def keyL (sec s : List Nat) (ns : List Int) : List Nat := hmacN sec (ofL s ns)
theorem length_keyL (sec s : List Nat) (ns : List Int) : (keyL sec s ns).length = 32 := length_hmacN _ _
theorem keyL_lt (sec s : List Nat) (ns : List Int) : ∀ x ∈ keyL sec s ns, x < 256 := hmacN_lt _ _
def packetS : List Nat := [112, 97, 99, 107, 101, 116]
def ticketS : List Nat := [116, 105, 99, 107, 101, 116]
def deviceS : List Nat := [100, 101, 118, 105, 99, 101]
theorem readsZ_new {w : World} {t : TypeId} {ns : List Int} {n : Nat} (hl : ns.length = n) (hn : n ≤ maxLen) (hw : ∀ x ∈ ns, (Lit.int .i64 x).wf = true) : ReadsZ .i64 (w.alloc (.cells (ns.map fun x => Value.int .i64 x).toArray t)) (some ⟨w.heap.size, 0, none⟩) n n ns :=
  ⟨hl, Nat.le_refl _, hn, hw, fun i hi => ⟨_, rfl, by simp, (Blk.new w t _).all i _ (by simp [hi])⟩⟩
theorem wf_two {a b : Int} (ha : (Lit.int .i64 a).wf = true) (hb : (Lit.int .i64 b).wf = true) : ∀ x ∈ [a, b], (Lit.int .i64 x).wf = true := by
  intro x hx
  rcases List.mem_cons.1 hx with rfl | hx
  · exact ha
  · rcases List.mem_cons.1 hx with rfl | hx
    · exact hb
    · cases hx
theorem wf_one {a : Int} (ha : (Lit.int .i64 a).wf = true) : ∀ x ∈ [a], (Lit.int .i64 x).wf = true := by
  intro x hx
  rcases List.mem_cons.1 hx with rfl | hx
  · exact ha
  · cases hx
set_option maxRecDepth 100000 in
set_option maxHeartbeats 1600000 in
theorem derive_c (sec : List Nat) (s : ByteArray) (A : Option Addr) (n c : Nat) (ns : List Int) (w : World) (hl : sec.length = 32) (hlt : ∀ x ∈ sec, x < 256) (hr : ReadsZ .i64 w A n c ns) (hk : KT w) (hs : s.size ≤ 1048576) (hn : n ≤ 1048576) :
    Calls Tryd.prog 14 #[.agg (ints .u8 sec).toArray, .string s, .slice A n c] w fun en w' => en = .returned (.agg (ints .u8 (keyL sec (strL s) ns)).toArray) ∧ Below w.heap.size w w' := by
  have HL := Lib.hid hl
  have HLT := Lib.hid hlt
  have HR := Lib.hid hr
  have HKT := Lib.hid hk
  have HLO : Hid ((ofL (strL s) ns).length ≤ 16777216) := by
    show _ ≤ _
    rw [length_ofL, length_strL, hr.len]; omega
  have HOW : Hid (∀ x ∈ ofL (strL s) ns, x < 256) := ofL_lt _ _ (strL_lt s)
  rw [show keyL sec (strL s) ns = hmacN sec [ofL (strL s) ns].flatten by simp [keyL]]
  have hld := length_hmacN sec [ofL (strL s) ns].flatten
  obtain ⟨dg, hdg⟩ : ∃ dg, Hid (hmacN sec [ofL (strL s) ns].flatten = dg) := ⟨_, rfl⟩
  rw [hdg.out] at hld ⊢
  have HLD := Lib.hid hld
  clear hl hlt hr hk hld
  go_enter Tryd.func14, Tryd.ntmps14
  go_upto_region 1 with (fail)
  refine name_wp (fun w1 => Blk w1 w.heap.size 23 (ints .u8 sec) ∧ Blk w1 (w.heap.size + 1) 23 zero32 ∧ Below w.heap.size w w1) ⟨(Blk.new _ _ (ints .u8 sec)).alloc _, ?_, ((Below.refl _ _).alloc (Nat.le_refl _) _).alloc (by simp) _⟩ ?_
  · have := Blk.new (w.alloc (.cells (ints .u8 sec).toArray 23)) 23 zero32
    rw [World.size_alloc] at this
    exact this
  rintro w1 ⟨hb3, hb6, hbel1⟩
  have HR1 := Lib.hid (HR.out.keep hbel1)
  have HK1 := Lib.hid (reads_blk hb3 HL.out (by decide) HLT.out)
  have HB6 := Lib.hid hb6
  have hlt6 := hb6.lt
  clear hb3 hb6 HR
  refine wp_region_held_drew (S := fun _ => True) (by kernel_rfl) trivial (fun hS => ?_)
  refine wpAnyH_take (i := 0) (oi := ⟨some 7, .slice 23 (.tmp 3) none none none, _, _, _, _⟩) (v := .slice (some ⟨w.heap.size, 0, none⟩) 32 32) rfl (by kernel_rfl) (by kernel_rfl) (by kernel_rfl) (fun _ _ _ h => h) (Or.inl ⟨by rfl, by intro W hSw; clear hSw; go_simp⟩) hS ?_
  simp only [Act.put, List.setIfInBounds_toArray, List.set_cons_zero, List.set_cons_succ]
  refine wpAnyH_take (i := 1) (oi := ⟨some 8, .move (.tmp 1), _, _, _, _⟩) (v := .string s) rfl (by kernel_rfl) (by kernel_rfl) (by kernel_rfl) (fun _ _ _ h => h) (Or.inl ⟨by rfl, by intro W hSw; clear hSw; go_simp⟩) hS ?_
  simp only [Act.put, List.setIfInBounds_toArray, List.set_cons_zero, List.set_cons_succ]
  refine wpAnyH_take (i := 2) (oi := ⟨some 9, .move (.tmp 2), _, _, _, _⟩) (v := .slice A n c) rfl (by kernel_rfl) (by kernel_rfl) (by kernel_rfl) (fun _ _ _ h => h) (Or.inl ⟨by rfl, by intro W hSw; clear hSw; go_simp⟩) hS ?_
  simp only [Act.put, List.setIfInBounds_toArray, List.set_cons_zero, List.set_cons_succ]
  refine wpAnyH_ready (rs := [3]) (by kernel_rfl) (by simp) (AllReadyH.cons (o := ⟨some 10, .call { callee := .value (.func 18), args := #[.tmp 8, .tmp 9], argTypes := #[9, 27] }, _, _, _, _⟩) rfl (fun K hK => ?_) AllReadyH.nil)
  go_simp
  refine (of_c s A n c ns _ (HR1.out.of_heap (w' := w1.drew) rfl) (by omega) (by omega)).mono ?_
  rintro en w2 ⟨v2, rfl, hm2⟩
  obtain ⟨A2, c2, rfl, hr2⟩ := Reads.of_own hm2.1 (fun x hx => wf_u8.2 (HOW.out x hx))
  refine hK.out _ _ trivial (fun _ => ?_)
  have hbel2 := hm2.2
  have hbw2 := hbel1.drew.trans (hbel2.mono hbel1.drew.size)
  have HK2 := Lib.hid ((HK1.out.of_heap (w' := w1.drew) rfl).keep hbel2)
  have HB6' := Lib.hid (HB6.out.drew.below hbel2 HB6.out.drew.lt)
  have HR2 := Lib.hid hr2
  have hs2 : w.heap.size + 1 < w2.heap.size := HB6'.out.lt
  generalize ofL (strL s) ns = msg at *
  clear hK K hm2 hr2 hbel2 HK1 HB6 HR1
  refine wpAnyH_ready (rs := [4]) (by kernel_rfl) (by simp) (AllReadyH.cons (o := ⟨some 11, .buildSlice 42 1 #[(0, .tmp 10)], _, _, _, _⟩) rfl (fun K hK => ?_) AllReadyH.nil)
  go_simp
  refine hK.out _ _ trivial (fun _ => ?_)
  clear hK K
  refine wpAnyH_ready (rs := [5]) (by kernel_rfl) (by simp) (AllReadyH.cons (o := ⟨some 12, .call { callee := .value (.func 17), args := #[.tmp 7, .tmp 11], argTypes := #[32, 42] }, _, _, _, _⟩) rfl (fun K hK => ?_) AllReadyH.nil)
  go_simp
  refine (tag_c _ 32 32 sec _ 1 1 [msg] _ (HK2.out.keep ((Below.refl _ _).alloc (Nat.le_refl _) _)) (readsAll_one HR2.out) (HKT.out.below (hbw2.alloc hbw2.size _)) (by decide) (by have := HLO.out; simp; omega)).mono ?_
  rintro en w3 ⟨rfl, hbel3⟩
  refine hK.out _ _ trivial (fun _ => ?_)
  have hbw3 := (hbw2.alloc hbw2.size _).trans (hbel3.mono (hbw2.alloc hbw2.size _).size)
  have hB6 := (HB6'.out.alloc _).below hbel3 (HB6'.out.alloc _).lt
  have hld := HLD.out
  rw [hdg.out]
  clear hK K hbel3 hbw2 HB6' HK2 HR2
  refine wpAnyH_ready (rs := [6]) (by kernel_rfl) (by simp) (AllReadyH.cons (o := ⟨none, .store 23 (.tmp 6) (.tmp 12), _, _, _, _⟩) rfl (fun K hK => ?_) AllReadyH.nil)
  refine step_store_blk rfl rfl 23 (.tmp 6) (.tmp 12) rfl (w.heap.size + 1) rfl _ rfl _ _ hB6 (by rw [length_ints, hld, length_zero32]) (ints_oneCell _ _) (by rw [length_ints, hld]; kernel_rfl) ?_
  intro w7 hb7 hg7
  have hbw7 := below_of_only hbw3 hg7 hbw3.size (by omega)
  refine hK.out _ _ trivial (fun _ => ?_)
  refine wpAnyH_done (by kernel_rfl) ?_ _
  clear hK K
  go_wp2
  refine bodyPost_ret (v := .agg (ints .u8 dg).toArray) ?_ rfl ⟨rfl, hbw7⟩
  exact results_cell_row rfl _ _ (w.heap.size + 1) _ _ _ _ rfl hb7 Tryd.underlying23 rfl (by rw [List.size_toArray, length_ints, hld]; kernel_rfl)
set_option maxRecDepth 100000 in
set_option maxHeartbeats 1600000 in
theorem packet_c (sec : List Nat) (a b : Int) (w : World) (hl : sec.length = 32) (hlt : ∀ x ∈ sec, x < 256) (ha : (Lit.int .i64 a).wf = true) (hb : (Lit.int .i64 b).wf = true) (hk : KT w) :
    Calls Tryd.prog 7 #[.agg (ints .u8 sec).toArray, .int .i64 a, .int .i64 b] w fun en w' => en = .returned (.agg (ints .u8 (keyL sec packetS [a, b])).toArray) ∧ Below w.heap.size w w' := by
  have HL := Lib.hid hl
  have HLT := Lib.hid hlt
  have HKT := Lib.hid hk
  have hld := length_keyL sec packetS [a, b]
  obtain ⟨dg, hdg⟩ : ∃ dg, Hid (keyL sec packetS [a, b] = dg) := ⟨_, rfl⟩
  rw [hdg.out] at hld ⊢
  have HLD := Lib.hid hld
  have HNM : Hid (strL ⟨#[112, 97, 99, 107, 101, 116]⟩ = packetS) := by show _ = _; decide
  have HWF : Hid (∀ x ∈ [a, b], (Lit.int .i64 x).wf = true) := wf_two ha hb
  clear hl hlt hk hld ha hb
  go_enter Tryd.func7, Tryd.ntmps7
  go_upto_region 1 with (fail)
  refine name_wp (fun w1 => Blk w1 w.heap.size 23 (ints .u8 sec) ∧ Blk w1 (w.heap.size + 1) 23 zero32 ∧ Below w.heap.size w w1) ⟨(Blk.new _ _ (ints .u8 sec)).alloc _, ?_, ((Below.refl _ _).alloc (Nat.le_refl _) _).alloc (by simp) _⟩ ?_
  · have := Blk.new (w.alloc (.cells (ints .u8 sec).toArray 23)) 23 zero32
    rw [World.size_alloc] at this
    exact this
  rintro w1 ⟨hb3, hb6, hbel1⟩
  have HB3 := Lib.hid hb3
  have HB6 := Lib.hid hb6
  clear hb3 hb6
  refine wp_region_lit ?_
  refine wpList_load_at rfl 23 (.tmp 3) rfl ⟨w.heap.size, 0, none⟩ rfl _ _ HB3.out.all Tryd.underlying23 rfl (by rw [length_ints, HL.out]; kernel_rfl) ?_
  go_wp2_with fail
  refine (derive_c sec _ _ 2 2 [a, b] _ HL.out HLT.out (readsZ_new rfl (by decide) HWF.out) (HKT.out.below (hbel1.alloc hbel1.size _)) (by decide) (by decide)).mono ?_
  rintro en w2 ⟨rfl, hbel2⟩
  rw [HNM.out, hdg.out]
  have hbw2 := (hbel1.alloc hbel1.size _).trans (hbel2.mono (hbel1.alloc hbel1.size _).size)
  have HB7 := Lib.hid ((HB6.out.alloc _).below hbel2 (HB6.out.alloc _).lt)
  clear HB3 HB6 hbel1 hbel2
  go_wp2_with ((with_reducible refine at_store 23 ?_); refine wpList_store_at rfl rfl 23 (.tmp 6) (.tmp 11) rfl (w.heap.size + 1) 0 rfl _ rfl _ _ HB7.out (by rw [length_ints, HLD.out, length_zero32]; decide) (ints_oneCell _ _) (by rw [length_ints, HLD.out]; kernel_rfl) ?_; intro w9 hb9 hg9)
  have hbel9 := below_of_only hbw2 hg9 hbw2.size (by omega)
  rw [splice_all _ _ (by rw [length_ints, HLD.out, length_zero32])] at hb9
  refine bodyPost_ret (v := .agg (ints .u8 dg).toArray) ?_ rfl ⟨rfl, hbel9⟩
  exact results_cell_row rfl _ _ (w.heap.size + 1) _ _ _ _ rfl hb9 Tryd.underlying23 rfl (by rw [List.size_toArray, length_ints, HLD.out]; kernel_rfl)
set_option maxRecDepth 100000 in
set_option maxHeartbeats 1600000 in
theorem ticket_c (sec : List Nat) (a : Int) (w : World) (hl : sec.length = 32) (hlt : ∀ x ∈ sec, x < 256) (ha : (Lit.int .i64 a).wf = true) (hk : KT w) :
    Calls Tryd.prog 9 #[.agg (ints .u8 sec).toArray, .int .i64 a] w fun en w' => en = .returned (.agg (ints .u8 (keyL sec ticketS [a])).toArray) ∧ Below w.heap.size w w' := by
  have HL := Lib.hid hl
  have HLT := Lib.hid hlt
  have HKT := Lib.hid hk
  have hld := length_keyL sec ticketS [a]
  obtain ⟨dg, hdg⟩ : ∃ dg, Hid (keyL sec ticketS [a] = dg) := ⟨_, rfl⟩
  rw [hdg.out] at hld ⊢
  have HLD := Lib.hid hld
  have HNM : Hid (strL ⟨#[116, 105, 99, 107, 101, 116]⟩ = ticketS) := by show _ = _; decide
  have HWF : Hid (∀ x ∈ [a], (Lit.int .i64 x).wf = true) := wf_one ha
  clear hl hlt hk hld ha
  go_enter Tryd.func9, Tryd.ntmps9
  go_upto_region 1 with (fail)
  refine name_wp (fun w1 => Blk w1 w.heap.size 23 (ints .u8 sec) ∧ Blk w1 (w.heap.size + 1) 23 zero32 ∧ Below w.heap.size w w1) ⟨(Blk.new _ _ (ints .u8 sec)).alloc _, ?_, ((Below.refl _ _).alloc (Nat.le_refl _) _).alloc (by simp) _⟩ ?_
  · have := Blk.new (w.alloc (.cells (ints .u8 sec).toArray 23)) 23 zero32
    rw [World.size_alloc] at this
    exact this
  rintro w1 ⟨hb3, hb6, hbel1⟩
  have HB3 := Lib.hid hb3
  have HB6 := Lib.hid hb6
  clear hb3 hb6
  refine wp_region_lit ?_
  refine wpList_load_at rfl 23 (.tmp 2) rfl ⟨w.heap.size, 0, none⟩ rfl _ _ HB3.out.all Tryd.underlying23 rfl (by rw [length_ints, HL.out]; kernel_rfl) ?_
  go_wp2_with fail
  refine (derive_c sec _ _ 1 1 [a] _ HL.out HLT.out (readsZ_new rfl (by decide) HWF.out) (HKT.out.below (hbel1.alloc hbel1.size _)) (by decide) (by decide)).mono ?_
  rintro en w2 ⟨rfl, hbel2⟩
  rw [HNM.out, hdg.out]
  have hbw2 := (hbel1.alloc hbel1.size _).trans (hbel2.mono (hbel1.alloc hbel1.size _).size)
  have HB7 := Lib.hid ((HB6.out.alloc _).below hbel2 (HB6.out.alloc _).lt)
  clear HB3 HB6 hbel1 hbel2
  go_wp2_with ((with_reducible refine at_store 23 ?_); refine wpList_store_at rfl rfl 23 (.tmp 4) (.tmp 8) rfl (w.heap.size + 1) 0 rfl _ rfl _ _ HB7.out (by rw [length_ints, HLD.out, length_zero32]; decide) (ints_oneCell _ _) (by rw [length_ints, HLD.out]; kernel_rfl) ?_; intro w9 hb9 hg9)
  have hbel9 := below_of_only hbw2 hg9 hbw2.size (by omega)
  rw [splice_all _ _ (by rw [length_ints, HLD.out, length_zero32])] at hb9
  refine bodyPost_ret (v := .agg (ints .u8 dg).toArray) ?_ rfl ⟨rfl, hbel9⟩
  exact results_cell_row rfl _ _ (w.heap.size + 1) _ _ _ _ rfl hb9 Tryd.underlying23 rfl (by rw [List.size_toArray, length_ints, HLD.out]; kernel_rfl)
set_option maxRecDepth 100000 in
set_option maxHeartbeats 1600000 in
theorem device_c (sec : List Nat) (a b : Int) (w : World) (hl : sec.length = 32) (hlt : ∀ x ∈ sec, x < 256) (ha : (Lit.int .i64 a).wf = true) (hb : (Lit.int .i64 b).wf = true) (hk : KT w) :
    Calls Tryd.prog 10 #[.agg (ints .u8 sec).toArray, .int .i64 a, .int .i64 b] w fun en w' => en = .returned (.agg (ints .u8 (keyL sec deviceS [a, b])).toArray) ∧ Below w.heap.size w w' := by
  have HL := Lib.hid hl
  have HLT := Lib.hid hlt
  have HKT := Lib.hid hk
  have hld := length_keyL sec deviceS [a, b]
  obtain ⟨dg, hdg⟩ : ∃ dg, Hid (keyL sec deviceS [a, b] = dg) := ⟨_, rfl⟩
  rw [hdg.out] at hld ⊢
  have HLD := Lib.hid hld
  have HNM : Hid (strL ⟨#[100, 101, 118, 105, 99, 101]⟩ = deviceS) := by show _ = _; decide
  have HWF : Hid (∀ x ∈ [a, b], (Lit.int .i64 x).wf = true) := wf_two ha hb
  clear hl hlt hk hld ha hb
  go_enter Tryd.func10, Tryd.ntmps10
  go_upto_region 1 with (fail)
  refine name_wp (fun w1 => Blk w1 w.heap.size 23 (ints .u8 sec) ∧ Blk w1 (w.heap.size + 1) 23 zero32 ∧ Below w.heap.size w w1) ⟨(Blk.new _ _ (ints .u8 sec)).alloc _, ?_, ((Below.refl _ _).alloc (Nat.le_refl _) _).alloc (by simp) _⟩ ?_
  · have := Blk.new (w.alloc (.cells (ints .u8 sec).toArray 23)) 23 zero32
    rw [World.size_alloc] at this
    exact this
  rintro w1 ⟨hb3, hb6, hbel1⟩
  have HB3 := Lib.hid hb3
  have HB6 := Lib.hid hb6
  clear hb3 hb6
  refine wp_region_lit ?_
  refine wpList_load_at rfl 23 (.tmp 3) rfl ⟨w.heap.size, 0, none⟩ rfl _ _ HB3.out.all Tryd.underlying23 rfl (by rw [length_ints, HL.out]; kernel_rfl) ?_
  go_wp2_with fail
  refine (derive_c sec _ _ 2 2 [a, b] _ HL.out HLT.out (readsZ_new rfl (by decide) HWF.out) (HKT.out.below (hbel1.alloc hbel1.size _)) (by decide) (by decide)).mono ?_
  rintro en w2 ⟨rfl, hbel2⟩
  rw [HNM.out, hdg.out]
  have hbw2 := (hbel1.alloc hbel1.size _).trans (hbel2.mono (hbel1.alloc hbel1.size _).size)
  have HB7 := Lib.hid ((HB6.out.alloc _).below hbel2 (HB6.out.alloc _).lt)
  clear HB3 HB6 hbel1 hbel2
  go_wp2_with ((with_reducible refine at_store 23 ?_); refine wpList_store_at rfl rfl 23 (.tmp 6) (.tmp 11) rfl (w.heap.size + 1) 0 rfl _ rfl _ _ HB7.out (by rw [length_ints, HLD.out, length_zero32]; decide) (ints_oneCell _ _) (by rw [length_ints, HLD.out]; kernel_rfl) ?_; intro w9 hb9 hg9)
  have hbel9 := below_of_only hbw2 hg9 hbw2.size (by omega)
  rw [splice_all _ _ (by rw [length_ints, HLD.out, length_zero32])] at hb9
  refine bodyPost_ret (v := .agg (ints .u8 dg).toArray) ?_ rfl ⟨rfl, hbel9⟩
  exact results_cell_row rfl _ _ (w.heap.size + 1) _ _ _ _ rfl hb9 Tryd.underlying23 rfl (by rw [List.size_toArray, length_ints, HLD.out]; kernel_rfl)
end Go.Proofs.YtjacfihpjolddaaDoor
