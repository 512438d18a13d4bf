/- What the function bytes of the statements of layer 6 returns for an item, as a walk through the translated text. Conditions: the item's parts read as lists. -/
import Derived.Test.YtgoaelfifdalcaaCodecItems
namespace Go.Proofs.Ytgoaelfifdalcaa
open Go.ChangeShapes Go.WideShapes Go.RowKit
/-- It returns the item's bytes, in new memory, and its error. -/
def BytesIPost (w : World) (r : Int × List Nat) (en : Ending) (w' : World) : Prop := ∃ V m d, en = .returned (.tuple #[.slice V m d, .int .i64 r.1]) ∧ Reads .u8 w' V m d r.2 ∧ (∀ ad, V = some ad → w.heap.size ≤ ad.block) ∧ Below w.heap.size w w'
theorem mine_reads {w w' : World} {v : Value} {n : Nat} {l : List Nat} (h : Mine w w' 5 v n (ints .u8 l)) (hx : ∀ x ∈ l, x < 256) : ∃ A c, v = .slice A n c ∧ Reads .u8 w' A n c l ∧ (∀ ad, A = some ad → w.heap.size ≤ ad.block) := by
  obtain ⟨A, c, rfl, hr⟩ := Reads.of_own h.1 (fun x h => wf_u8.2 (hx x h))
  exact ⟨A, c, rfl, hr, fun ad e => own_base h.1 _ (by rw [e]; rfl)⟩
section
variable (x : ItemV) (w : World) (hx : x.Ok w) (hb : x.len ≤ 1099511627776)
include hx
set_option maxRecDepth 100000 in
set_option maxHeartbeats 1600000 in
theorem bytesI0 (hk : x.kind = 0) : Calls Try.prog 10 #[.agg x.cells.toArray] w (BytesIPost w (encI x)) := by
  have HE : Hid (encI x = (0, [(x.num % 256).toNat])) := by show _ = _; rw [encI, if_pos hk]
  rw [HE.out]
  have HX := Lib.hid hx
  have HK := Lib.hid hk
  clear hx hk
  obtain ⟨b, hb'⟩ : ∃ b, Hid ((x.num % 256).toNat = b) := ⟨_, rfl⟩
  have hb8 : b < 256 := by have := hb'.out; omega
  have HW : Hid (x.num % 256 = (b : Int)) := by show _ = _; rw [← hb'.out]; omega
  rw [hb'.out]
  go_enter Try.func10, Try.ntmps10
  go_upto_region 1 with (fail)
  refine name_wp (fun w1 => Blk w1 w.heap.size 33 x.cells ∧ Below w.heap.size w w1) ⟨Blk.new _ _ _, alloc_below _ _⟩ ?_
  rintro w1 ⟨hb1, hbel⟩
  obtain ⟨c0, c1, c2, c3⟩ := item_blk hb1
  rw [HK.out] at c0
  have HB1 := Lib.hid hb1
  have C3 := Lib.hid c3
  clear hb1 c3
  go_wp2
  rw [HW.out]
  go_ret2
  exact ⟨_, _, _, rfl, reads_new (l := [b]) rfl rfl (by decide) (by simpa using hb8), (fun ad e => by cases e; exact hbel.size), hbel.alloc hbel.size _⟩
set_option maxRecDepth 100000 in
set_option maxHeartbeats 1600000 in
theorem bytesI1a (hk : x.kind = 1) (hn : x.num < 0) : Calls Try.prog 10 #[.agg x.cells.toArray] w (BytesIPost w (encI x)) := by
  have HE : Hid (encI x = encN x.num) := by show _ = _; rw [encI, if_neg (by rw [hk]; decide), if_pos hk]
  rw [HE.out]
  have HX := Lib.hid hx
  have HK := Lib.hid hk
  clear hx hk
  have HN : Hid (encN x.num = (1, [])) := by show _ = _; rw [encN, if_neg (by omega)]
  rw [HN.out]
  go_enter Try.func10, Try.ntmps10
  go_upto_region 1 with (fail)
  refine name_wp (fun w1 => Blk w1 w.heap.size 33 x.cells ∧ Below w.heap.size w w1) ⟨Blk.new _ _ _, alloc_below _ _⟩ ?_
  rintro w1 ⟨hb1, hbel⟩
  obtain ⟨c0, c1, c2, c3⟩ := item_blk hb1
  rw [HK.out] at c0
  have HB1 := Lib.hid hb1
  have C3 := Lib.hid c3
  clear hb1 c3
  go_wp2
  go_ret2
  exact ⟨none, 0, 0, rfl, Reads.nil.2 (by simp [maxLen]), (fun ad e => by cases e), hbel⟩
set_option maxRecDepth 100000 in
set_option maxHeartbeats 1600000 in
theorem bytesI1b (hk : x.kind = 1) (hn : 72057594037927935 < x.num) : Calls Try.prog 10 #[.agg x.cells.toArray] w (BytesIPost w (encI x)) := by
  have HE : Hid (encI x = encN x.num) := by show _ = _; rw [encI, if_neg (by rw [hk]; decide), if_pos hk]
  rw [HE.out]
  have HX := Lib.hid hx
  have HK := Lib.hid hk
  clear hx hk
  have hn0 : ¬ x.num < 0 := by omega
  have HN : Hid (encN x.num = (1, [])) := by show _ = _; rw [encN, if_neg (by omega)]
  rw [HN.out]
  go_enter Try.func10, Try.ntmps10
  go_upto_region 1 with (fail)
  refine name_wp (fun w1 => Blk w1 w.heap.size 33 x.cells ∧ Below w.heap.size w w1) ⟨Blk.new _ _ _, alloc_below _ _⟩ ?_
  rintro w1 ⟨hb1, hbel⟩
  obtain ⟨c0, c1, c2, c3⟩ := item_blk hb1
  rw [HK.out] at c0
  have HB1 := Lib.hid hb1
  have C3 := Lib.hid c3
  clear hb1 c3
  go_wp2
  go_ret2
  exact ⟨none, 0, 0, rfl, Reads.nil.2 (by simp [maxLen]), (fun ad e => by cases e), hbel⟩
set_option maxRecDepth 100000 in
set_option maxHeartbeats 1600000 in
theorem bytesI1c (hk : x.kind = 1) (m : Nat) (hm : x.num = (m : Int)) (hn : m ≤ 72057594037927935) : Calls Try.prog 10 #[.agg x.cells.toArray] w (BytesIPost w (encI x)) := by
  have HE : Hid (encI x = encN x.num) := by show _ = _; rw [encI, if_neg (by rw [hk]; decide), if_pos hk]
  rw [HE.out]
  have HX := Lib.hid hx
  have HK := Lib.hid hk
  clear hx hk
  have HN : Hid (encN x.num = (0, numL m)) := by show _ = _; rw [encN, if_pos (by omega), hm]; rfl
  have HM := Lib.hid hm
  clear hm
  rw [HN.out]
  have hm0 : ¬ (m : Int) < 0 := by omega
  have hm1 : ¬ (72057594037927935 : Int) < (m : Int) := by omega
  go_enter Try.func10, Try.ntmps10
  go_upto_region 1 with (fail)
  refine name_wp (fun w1 => Blk w1 w.heap.size 33 x.cells ∧ Below w.heap.size w w1) ⟨Blk.new _ _ _, alloc_below _ _⟩ ?_
  rintro w1 ⟨hb1, hbel⟩
  obtain ⟨c0, c1, c2, c3⟩ := item_blk hb1
  rw [HK.out] at c0
  have HB1 := Lib.hid hb1
  have C3 := Lib.hid c3
  clear hb1 c3
  rw [HM.out] at c1
  go_wp2_with fail
  refine (refNumber_c m w1 (by omega)).mono ?_
  rintro en w2 ⟨v, rfl, hmine⟩
  obtain ⟨A, c, rfl, hr, hA⟩ := mine_reads hmine (numL_byte m)
  have hb2 := hbel.trans (hmine.2.mono hbel.size)
  have HR := Lib.hid hr
  have HA := Lib.hid hA
  clear hr hmine hA
  go_wp2
  go_ret2
  exact ⟨A, _, c, rfl, HR.out, (fun ad e => Nat.le_trans hbel.size (HA.out ad e)), hb2⟩
set_option maxRecDepth 100000 in
set_option maxHeartbeats 1600000 in
theorem bytesI2a (hk : x.kind = 2) (hn : x.num < -36028797018963968) : Calls Try.prog 10 #[.agg x.cells.toArray] w (BytesIPost w (encI x)) := by
  have HE : Hid (encI x = encS x.num) := by show _ = _; rw [encI, if_neg (by rw [hk]; decide), if_neg (by rw [hk]; decide), if_pos hk]
  rw [HE.out]
  have HX := Lib.hid hx
  have HK := Lib.hid hk
  clear hx hk
  have HN : Hid (encS x.num = (1, [])) := by show _ = _; rw [encS, if_neg (by omega)]
  rw [HN.out]
  go_enter Try.func10, Try.ntmps10
  go_upto_region 1 with (fail)
  refine name_wp (fun w1 => Blk w1 w.heap.size 33 x.cells ∧ Below w.heap.size w w1) ⟨Blk.new _ _ _, alloc_below _ _⟩ ?_
  rintro w1 ⟨hb1, hbel⟩
  obtain ⟨c0, c1, c2, c3⟩ := item_blk hb1
  rw [HK.out] at c0
  have HB1 := Lib.hid hb1
  have C3 := Lib.hid c3
  clear hb1 c3
  go_wp2
  go_ret2
  exact ⟨none, 0, 0, rfl, Reads.nil.2 (by simp [maxLen]), (fun ad e => by cases e), hbel⟩
set_option maxRecDepth 100000 in
set_option maxHeartbeats 1600000 in
theorem bytesI2b (hk : x.kind = 2) (hn : 36028797018963967 < x.num) : Calls Try.prog 10 #[.agg x.cells.toArray] w (BytesIPost w (encI x)) := by
  have HE : Hid (encI x = encS x.num) := by show _ = _; rw [encI, if_neg (by rw [hk]; decide), if_neg (by rw [hk]; decide), if_pos hk]
  rw [HE.out]
  have HX := Lib.hid hx
  have HK := Lib.hid hk
  clear hx hk
  have hn0 : ¬ x.num < -36028797018963968 := by omega
  have HN : Hid (encS x.num = (1, [])) := by show _ = _; rw [encS, if_neg (by omega)]
  rw [HN.out]
  go_enter Try.func10, Try.ntmps10
  go_upto_region 1 with (fail)
  refine name_wp (fun w1 => Blk w1 w.heap.size 33 x.cells ∧ Below w.heap.size w w1) ⟨Blk.new _ _ _, alloc_below _ _⟩ ?_
  rintro w1 ⟨hb1, hbel⟩
  obtain ⟨c0, c1, c2, c3⟩ := item_blk hb1
  rw [HK.out] at c0
  have HB1 := Lib.hid hb1
  have C3 := Lib.hid c3
  clear hb1 c3
  go_wp2
  go_ret2
  exact ⟨none, 0, 0, rfl, Reads.nil.2 (by simp [maxLen]), (fun ad e => by cases e), hbel⟩
set_option maxRecDepth 100000 in
set_option maxHeartbeats 1600000 in
theorem bytesI2c (hk : x.kind = 2) (hn0 : -36028797018963968 ≤ x.num) (hn1 : x.num ≤ 36028797018963967) : Calls Try.prog 10 #[.agg x.cells.toArray] w (BytesIPost w (encI x)) := by
  have HE : Hid (encI x = encS x.num) := by show _ = _; rw [encI, if_neg (by rw [hk]; decide), if_neg (by rw [hk]; decide), if_pos hk]
  rw [HE.out]
  have HX := Lib.hid hx
  have HK := Lib.hid hk
  clear hx hk
  have HN : Hid (encS x.num = (0, numL (sgnN x.num))) := by show _ = _; rw [encS, if_pos ⟨hn0, hn1⟩]
  rw [HN.out]
  have hlt := sgnN_lt x.num hn0 hn1
  have hm0 : ¬ x.num < -36028797018963968 := by omega
  have hm1 : ¬ (36028797018963967 : Int) < x.num := by omega
  obtain ⟨m, hm⟩ : ∃ m, Hid (sgnN x.num = m) := ⟨_, rfl⟩
  rw [hm.out] at hlt ⊢
  go_enter Try.func10, Try.ntmps10
  go_upto_region 1 with (fail)
  refine name_wp (fun w1 => Blk w1 w.heap.size 33 x.cells ∧ Below w.heap.size w w1) ⟨Blk.new _ _ _, alloc_below _ _⟩ ?_
  rintro w1 ⟨hb1, hbel⟩
  obtain ⟨c0, c1, c2, c3⟩ := item_blk hb1
  rw [HK.out] at c0
  have HB1 := Lib.hid hb1
  have C3 := Lib.hid c3
  clear hb1 c3
  go_wp2_with fail
  refine (refSigned_c x.num w1 hn0 (by omega)).mono ?_
  rw [hm.out]
  rintro en w2 ⟨rfl, rfl⟩
  go_wp2_with fail
  refine (refNumber_c m w1 hlt).mono ?_
  rintro en w2 ⟨v, rfl, hmine⟩
  obtain ⟨A, c, rfl, hr, hA⟩ := mine_reads hmine (numL_byte m)
  have hb2 := hbel.trans (hmine.2.mono hbel.size)
  have HR := Lib.hid hr
  have HA := Lib.hid hA
  clear hr hmine hA
  go_wp2
  go_ret2
  exact ⟨A, _, c, rfl, HR.out, (fun ad e => Nat.le_trans hbel.size (HA.out ad e)), hb2⟩
include hb in
set_option maxRecDepth 100000 in
set_option maxHeartbeats 1600000 in
theorem bytesI3 (hk : x.kind = 3) : Calls Try.prog 10 #[.agg x.cells.toArray] w (BytesIPost w (encI x)) := by
  have HE : Hid (encI x = (0, numL x.len ++ x.txt)) := by show _ = _; rw [encI, if_neg (by rw [hk]; decide), if_neg (by rw [hk]; decide), if_neg (by rw [hk]; decide), if_pos hk]
  rw [HE.out]
  have HX := Lib.hid hx
  have HK := Lib.hid hk
  clear hx hk
  obtain ⟨i0, hi, hz0, hz1, hz2⟩ := info_parts infoU8
  go_enter Try.func10, Try.ntmps10
  go_upto_region 1 with (fail)
  refine name_wp (fun w1 => Blk w1 w.heap.size 33 x.cells ∧ Below w.heap.size w w1) ⟨Blk.new _ _ _, alloc_below _ _⟩ ?_
  rintro w1 ⟨hb1, hbel⟩
  obtain ⟨c0, c1, c2, c3⟩ := item_blk hb1
  rw [HK.out] at c0
  have HB1 := Lib.hid hb1
  have C3 := Lib.hid c3
  clear hb1 c3
  go_upto_region 13 with (fail)
  have hrow := HX.out.row.keep hbel
  have HROW := Lib.hid hrow
  have hs1 : w.heap.size < w1.heap.size := HB1.out.lt
  have hnl := numL_len 7 x.len (by omega)
  clear hrow c0 c1 c2
  refine wp_region_held_drew (S := fun W => Blk W w.heap.size 33 x.cells) (by kernel_rfl) HB1.out.drew (fun hS => ?_)
  refine wpAnyH_take (i := 0) (oi := ⟨some 41, .fieldAddr 33 (.tmp 1) 2, _, _, _, _⟩) (v := .pointer (some ⟨w.heap.size, 2, none⟩)) rfl (by kernel_rfl) (by kernel_rfl) (by kernel_rfl) (fun _ _ _ h => h) (Or.inl ⟨by rfl, by intro W hSw; have cc := (item_blk hSw).2.2.1; clear hSw; go_simp⟩) hS ?_
  simp only [Act.put, List.setIfInBounds_toArray, List.set_cons_zero, List.set_cons_succ]
  refine wpAnyH_take (i := 1) (oi := ⟨some 42, .load 23 (.tmp 41), _, _, _, _⟩) (v := .slice x.adr x.len x.room) rfl (by kernel_rfl) (by kernel_rfl) (by kernel_rfl) (fun _ _ _ h => h) (Or.inl ⟨by rfl, by intro W hSw; have cc := (item_blk hSw).2.2.1; clear hSw; go_simp⟩) hS ?_
  simp only [Act.put, List.setIfInBounds_toArray, List.set_cons_zero, List.set_cons_succ]
  refine wpAnyH_take (i := 2) (oi := ⟨some 43, .call { callee := .builtin .len, args := #[.tmp 42], argTypes := #[23] }, _, _, _, _⟩) (v := .int .i64 (x.len : Int)) rfl (by kernel_rfl) (by kernel_rfl) (by kernel_rfl) (fun _ _ _ h => h) (Or.inl ⟨by rfl, by intro W hSw; have cc := (item_blk hSw).2.2.1; clear hSw; go_simp⟩) hS ?_
  simp only [Act.put, List.setIfInBounds_toArray, List.set_cons_zero, List.set_cons_succ]
  refine wpAnyH_take (i := 4) (oi := ⟨some 45, .fieldAddr 33 (.tmp 1) 2, _, _, _, _⟩) (v := .pointer (some ⟨w.heap.size, 2, none⟩)) rfl (by kernel_rfl) (by kernel_rfl) (by kernel_rfl) (fun _ _ _ h => h) (Or.inl ⟨by rfl, by intro W hSw; have cc := (item_blk hSw).2.2.1; clear hSw; go_simp⟩) hS ?_
  simp only [Act.put, List.setIfInBounds_toArray, List.set_cons_zero, List.set_cons_succ]
  refine wpAnyH_take (i := 5) (oi := ⟨some 46, .load 23 (.tmp 45), _, _, _, _⟩) (v := .slice x.adr x.len x.room) rfl (by kernel_rfl) (by kernel_rfl) (by kernel_rfl) (fun _ _ _ h => h) (Or.inl ⟨by rfl, by intro W hSw; have cc := (item_blk hSw).2.2.1; clear hSw; go_simp⟩) hS ?_
  simp only [Act.put, List.setIfInBounds_toArray, List.set_cons_zero, List.set_cons_succ]
  refine wpAnyH_ready (rs := [3]) (by kernel_rfl) (by simp) (AllReadyH.cons (o := ⟨some 44, .call { callee := .value (.func 33), args := #[.tmp 43], argTypes := #[3] }, _, _, _, _⟩) rfl (fun K hK => ?_) AllReadyH.nil)
  go_simp
  refine (refNumber_c x.len _ (by omega)).mono ?_
  rintro en w2 ⟨v, rfl, hmine⟩
  obtain ⟨A, c, rfl⟩ := own_form hmine.1
  have hbel2 : Below w1.heap.size w1 w2 := ⟨hmine.2.os, hmine.2.tape, hmine.2.output, hmine.2.size, hmine.2.block⟩
  refine hK.out _ _ (HB1.out.below hbel2 HB1.out.lt) (fun hS2 => ?_)
  clear hK K hS
  refine wpAnyH_ready (rs := [6]) (by kernel_rfl) (by simp) (AllReadyH.cons (o := ⟨some 47, .call { callee := .builtin .append, args := #[.tmp 44, .tmp 46], argTypes := #[23, 23] }, _, _, _, _⟩) rfl (fun K hK => ?_) AllReadyH.nil)
  refine step_appB rfl (.tmp 44) (.tmp 46) 23 rfl w1.heap.size 5 i0 (.int .u8 0) 1 Try.underlying23 hi hz0 hz1 hz2 rfl _ _ _ rfl hmine.1 .u8 x.adr x.len x.room x.txt rfl (HROW.out.keep hbel2) (by unfold maxLen; omega) (by omega) hbel2.size ?_
  intro v1 w3 hown1 hgrow1 hat1
  obtain ⟨A1, c1', rfl⟩ := own_form hown1
  have hbel3 : Below w1.heap.size w1 w3 := hbel2.grown hgrow1 hbel2.size (own_base hmine.1)
  refine hK.out _ _ (HB1.out.below hbel3 HB1.out.lt) (fun hS3 => ?_)
  clear hK K hS2
  rw [← ints_append] at hown1
  refine wpAnyH_take (i := 7) (oi := ⟨some 2, .assign (.tmp 47), _, _, _, _⟩) (v := .slice A1 ((numL x.len).length + x.len) c1') rfl (by kernel_rfl) (by kernel_rfl) (by kernel_rfl) (fun _ _ _ h => h) (Or.inl ⟨by rfl, by intro W hSw; clear hSw; go_simp⟩) hS3 ?_
  simp only [Act.put, List.setIfInBounds_toArray, List.set_cons_zero, List.set_cons_succ]
  refine wpAnyH_take (i := 8) (oi := ⟨some 3, .assign (.const (.int .i64 0)), _, _, _, _⟩) (v := .int .i64 0) rfl (by kernel_rfl) (by kernel_rfl) (by kernel_rfl) (fun _ _ _ h => h) (Or.inl ⟨by rfl, by intro W hSw; clear hSw; go_simp⟩) hS3 ?_
  simp only [Act.put, List.setIfInBounds_toArray, List.set_cons_zero, List.set_cons_succ]
  refine wpAnyH_done (by kernel_rfl) ?_ _
  clear hS3
  go_wp2
  go_ret2
  obtain ⟨A2, c2', e2, hr2⟩ := Reads.of_own (k := .u8) (l := numL x.len ++ x.txt) hown1 (fun y hy => by rcases List.mem_append.1 hy with h | h; exact wf_u8.2 (numL_byte _ y h); exact HROW.out.wf y h)
  have e3 : A1 = A2 ∧ c1' = c2' := by simpa using e2
  obtain ⟨rfl, rfl⟩ := e3
  exact ⟨A1, _, c1', rfl, hr2, (fun ad e => Nat.le_trans hbel.size (own_base hown1 _ (by rw [e]; rfl))), hbel.trans (hbel3.mono hbel.size)⟩
set_option maxRecDepth 100000 in
set_option maxHeartbeats 1600000 in
theorem bytesI4 (hk : x.kind = 4) : Calls Try.prog 10 #[.agg x.cells.toArray] w (BytesIPost w (encI x)) := by
  have HE : Hid (encI x = (0, x.key)) := by show _ = _; rw [encI, if_neg (by rw [hk]; decide), if_neg (by rw [hk]; decide), if_neg (by rw [hk]; decide), if_neg (by rw [hk]; decide), if_pos hk]
  rw [HE.out]
  have HX := Lib.hid hx
  have HK := Lib.hid hk
  clear hx hk
  obtain ⟨i0, hi, hz0, hz1, hz2⟩ := info_parts infoU8
  go_enter Try.func10, Try.ntmps10
  go_upto_region 1 with (fail)
  refine name_wp (fun w1 => Blk w1 w.heap.size 33 x.cells ∧ Below w.heap.size w w1) ⟨Blk.new _ _ _, alloc_below _ _⟩ ?_
  rintro w1 ⟨hb1, hbel⟩
  obtain ⟨c0, c1, c2, c3⟩ := item_blk hb1
  rw [HK.out] at c0
  have HB1 := Lib.hid hb1
  have C3 := Lib.hid c3
  clear hb1 c3
  have hrk : Reads .u8 w1 (some ⟨w.heap.size, 3, none⟩) 32 32 x.key := ⟨HX.out.keyLen, Nat.le_refl _, by decide, fun y hy => wf_u8.2 (HX.out.keyByte y hy), fun i hi => ⟨_, rfl, HB1.out.lt, C3.out i _ (by simp [ints, hi])⟩⟩
  have HRK := Lib.hid hrk
  clear hrk
  have hs := hbel.size
  go_wp2_with (at_builtin; refine wpList_appB rfl (.tmp 50) (.tmp 52) 23 rfl w1.heap.size 5 i0 (.int .u8 0) 1 Try.underlying23 hi hz0 hz1 hz2 rfl _ 0 [] rfl (blk_own (Blk.new w1 5 []) rfl (Nat.le_refl _) (by decide)) .u8 (some ⟨w.heap.size, 3, none⟩) 32 32 x.key rfl (HRK.out.keep (alloc_below _ _)) (by decide) (by decide) (by simp) ?_; intro v1 w2 hown1 hgrow1 hat1; obtain ⟨A1, c1', rfl⟩ := own_form hown1)
  go_ret2
  have hbel2 : Below w1.heap.size w1 w2 := below_of_only (g := w1.heap.size) (alloc_below w1 _) hgrow1 (by simp) (Nat.le_refl _)
  obtain ⟨A2, c2', e2, hr2⟩ := Reads.of_own (k := .u8) (l := x.key) (by simpa using hown1) (fun y hy => wf_u8.2 (HX.out.keyByte y hy))
  have e3 : A1 = A2 ∧ c1' = c2' := by simpa using e2
  obtain ⟨rfl, rfl⟩ := e3
  exact ⟨A1, 32, c1', by simp, hr2, (fun ad e => Nat.le_trans hbel.size (own_base hown1 _ (by rw [e]; rfl))), hbel.trans (hbel2.mono hbel.size)⟩
set_option maxRecDepth 100000 in
set_option maxHeartbeats 1600000 in
theorem bytesI5a (k0 : x.kind ≠ 0) (k1 : x.kind ≠ 1) (k2 : x.kind ≠ 2) (k3 : x.kind ≠ 3) (k4 : x.kind ≠ 4) (h2 : x.num % 2 = 0) : Calls Try.prog 10 #[.agg x.cells.toArray] w (BytesIPost w (encI x)) := by
  have HE : Hid (encI x = (0, [if x.num % 2 = 0 then 0 else 1])) := by show _ = _; rw [encI, if_neg k0, if_neg k1, if_neg k2, if_neg k3, if_neg k4]
  rw [HE.out]
  have HX := Lib.hid hx
  have e0 : (x.kind == 0) = false := by simpa using k0
  have e1 : (x.kind == 1) = false := by simpa using k1
  have e2 : (x.kind == 2) = false := by simpa using k2
  have e3 : (x.kind == 3) = false := by simpa using k3
  have e4 : (x.kind == 4) = false := by simpa using k4
  clear hx k0 k1 k2 k3 k4
  rw [if_pos h2]
  have hz := tmod2_even h2
  clear h2
  go_enter Try.func10, Try.ntmps10
  go_upto_region 1 with (fail)
  refine name_wp (fun w1 => Blk w1 w.heap.size 33 x.cells ∧ Below w.heap.size w w1) ⟨Blk.new _ _ _, alloc_below _ _⟩ ?_
  rintro w1 ⟨hb1, hbel⟩
  obtain ⟨c0, c1, c2, c3⟩ := item_blk hb1
  have HB1 := Lib.hid hb1
  have C3 := Lib.hid c3
  clear hb1 c3
  go_wp2
  go_ret2
  exact ⟨_, _, _, rfl, reads_new (l := [0]) rfl rfl (by decide) (by simp), (fun ad e => by cases e; exact hbel.size), hbel.alloc hbel.size _⟩
set_option maxRecDepth 100000 in
set_option maxHeartbeats 1600000 in
theorem bytesI5b (k0 : x.kind ≠ 0) (k1 : x.kind ≠ 1) (k2 : x.kind ≠ 2) (k3 : x.kind ≠ 3) (k4 : x.kind ≠ 4) (h2 : ¬ x.num % 2 = 0) : Calls Try.prog 10 #[.agg x.cells.toArray] w (BytesIPost w (encI x)) := by
  have HE : Hid (encI x = (0, [if x.num % 2 = 0 then 0 else 1])) := by show _ = _; rw [encI, if_neg k0, if_neg k1, if_neg k2, if_neg k3, if_neg k4]
  rw [HE.out]
  have HX := Lib.hid hx
  have e0 : (x.kind == 0) = false := by simpa using k0
  have e1 : (x.kind == 1) = false := by simpa using k1
  have e2 : (x.kind == 2) = false := by simpa using k2
  have e3 : (x.kind == 3) = false := by simpa using k3
  have e4 : (x.kind == 4) = false := by simpa using k4
  clear hx k0 k1 k2 k3 k4
  rw [if_neg h2]
  have hz := tmod2_odd h2
  clear h2
  go_enter Try.func10, Try.ntmps10
  go_upto_region 1 with (fail)
  refine name_wp (fun w1 => Blk w1 w.heap.size 33 x.cells ∧ Below w.heap.size w w1) ⟨Blk.new _ _ _, alloc_below _ _⟩ ?_
  rintro w1 ⟨hb1, hbel⟩
  obtain ⟨c0, c1, c2, c3⟩ := item_blk hb1
  have HB1 := Lib.hid hb1
  have C3 := Lib.hid c3
  clear hb1 c3
  go_wp2
  go_ret2
  exact ⟨_, _, _, rfl, reads_new (l := [1]) rfl rfl (by decide) (by simp), (fun ad e => by cases e; exact hbel.size), hbel.alloc hbel.size _⟩
include hb in
theorem bytesI_c : Calls Try.prog 10 #[.agg x.cells.toArray] w (BytesIPost w (encI x)) := by
  by_cases k0 : x.kind = 0
  · exact bytesI0 x w hx k0
  by_cases k1 : x.kind = 1
  · by_cases h0 : x.num < 0
    · exact bytesI1a x w hx k1 h0
    by_cases h1 : 72057594037927935 < x.num
    · exact bytesI1b x w hx k1 h1
    exact bytesI1c x w hx k1 x.num.toNat (by omega) (by omega)
  by_cases k2 : x.kind = 2
  · by_cases h0 : x.num < -36028797018963968
    · exact bytesI2a x w hx k2 h0
    by_cases h1 : 36028797018963967 < x.num
    · exact bytesI2b x w hx k2 h1
    exact bytesI2c x w hx k2 (by omega) (by omega)
  by_cases k3 : x.kind = 3
  · exact bytesI3 x w hx hb k3
  by_cases k4 : x.kind = 4
  · exact bytesI4 x w hx k4
  by_cases h2 : x.num % 2 = 0
  · exact bytesI5a x w hx k0 k1 k2 k3 k4 h2
  · exact bytesI5b x w hx k0 k1 k2 k3 k4 h2
end
end Go.Proofs.Ytgoaelfifdalcaa
