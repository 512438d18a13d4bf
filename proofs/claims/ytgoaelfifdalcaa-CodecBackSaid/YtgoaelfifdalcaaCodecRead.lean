/- What the function read of the statements of layer 6 returns for an item that stands next in a Reader, as a walk through the translated text. Conditions: the item's parts read as lists, the Reader lies in a block of its own. -/
import Derived.Test.YtgoaelfifdalcaaCodecBytes
namespace Go.Proofs.Ytgoaelfifdalcaa
open Go.ChangeShapes Go.WideShapes Go.RowKit
theorem nextR_app (b r : List Nat) (n : Nat) (h : b.length = n) : nextR n (b ++ r, 0) = (b, (r, 0)) := by
  rw [nextR, if_neg (by simp; omega)]
  simp only [List.take_left' h, List.drop_left' h]
theorem numberR_app (m : Nat) (r : List Nat) (h : m < 72057594037927936) : numberR (numL m ++ r, 0) = (m, (r, 0)) := by rw [numberR, if_pos rfl, readL_back m r h]; rfl
section
variable (g : Nat) (D : Option Nat) (x : ItemV) (rest : List Nat) (w : World) (h : RAt w g D ((encI x).2 ++ rest, 0)) (hx : x.Ok w)
include h hx
set_option maxRecDepth 100000 in
set_option maxHeartbeats 1600000 in
theorem readI0 (hk : x.kind = 0) : Calls Try.prog 15 #[.pointer (some ⟨g, 0, none⟩), .agg x.cells.toArray] w (RPost w g D (rest, 0) (.bool true)) := by
  have hE : encI x = (0, [(x.num % 256).toNat]) := by rw [encI, if_pos hk]
  rw [hE] at h
  obtain ⟨b, hb'⟩ : ∃ b, Hid ((x.num % 256).toNat = b) := ⟨_, rfl⟩
  have HW : Hid (x.num % 256 = (b : Int)) := by show _ = _; rw [← hb'.out]; omega
  rw [hb'.out] at h
  have HN : Hid (byteR ([b] ++ rest, 0) = (b, (rest, 0))) := rfl
  have H := Lib.hid h
  have HX := Lib.hid hx
  have HK := Lib.hid hk
  clear h hx hk hE
  have hlt := H.out.lt
  have HLOW := Lib.hid H.out.low
  go_enter Try.func15, Try.ntmps15
  go_upto_region 1 with (fail)
  refine name_wp (fun w1 => Blk w1 w.heap.size 33 x.cells ∧ Below w.heap.size w w1) ⟨Blk.new _ _ _, alloc_below _ _⟩ ?_
  rintro w1 ⟨hb1, hbel⟩
  obtain ⟨c0, c1, c2, c3⟩ := item_blk hb1
  rw [HK.out] at c0
  have HB1 := Lib.hid hb1
  clear hb1 c1 c2 c3
  go_upto_region 3 with (fail)
  clear c0
  have H1 := Lib.hid (H.out.below hbel)
  refine wp_region_held_drew (S := fun W => Blk W w.heap.size 33 x.cells) (by kernel_rfl) HB1.out.drew (fun hS => ?_)
  refine wpAnyH_take (i := 0) (oi := ⟨some 9, .move (.tmp 0), _, _, _, _⟩) (v := .pointer (some ⟨g, 0, none⟩)) rfl (by kernel_rfl) (by kernel_rfl) (by kernel_rfl) (fun _ _ _ h => h) (Or.inl ⟨by rfl, by intro W hSw; clear hSw; go_simp⟩) hS ?_
  simp only [Act.put, List.setIfInBounds_toArray, List.set_cons_zero, List.set_cons_succ]
  refine wpAnyH_take (i := 2) (oi := ⟨some 11, .fieldAddr 33 (.tmp 3) 1, _, _, _, _⟩) (v := .pointer (some ⟨w.heap.size, 1, none⟩)) rfl (by kernel_rfl) (by kernel_rfl) (by kernel_rfl) (fun _ _ _ h => h) (Or.inl ⟨by rfl, by intro W hSw; clear hSw; go_simp⟩) hS ?_
  simp only [Act.put, List.setIfInBounds_toArray, List.set_cons_zero, List.set_cons_succ]
  refine wpAnyH_take (i := 3) (oi := ⟨some 12, .load 3 (.tmp 11), _, _, _, _⟩) (v := .int .i64 x.num) rfl (by kernel_rfl) (by kernel_rfl) (by kernel_rfl) (fun _ _ _ h => h) (Or.inl ⟨by rfl, by intro W hSw; have cc := (item_blk hSw).2.1; clear hSw; go_simp⟩) hS ?_
  simp only [Act.put, List.setIfInBounds_toArray, List.set_cons_zero, List.set_cons_succ]
  refine wpAnyH_take (i := 4) (oi := ⟨some 13, .convert 3 5 (.tmp 12), _, _, _, _⟩) (v := .int .u8 (b : Int)) rfl (by kernel_rfl) (by kernel_rfl) (by kernel_rfl) (fun _ _ _ h => h) (Or.inl ⟨by rfl, by intro W hSw; clear hSw; go_simp; rw [IntKind.wrap_u8, HW.out]⟩) hS ?_
  simp only [Act.put, List.setIfInBounds_toArray, List.set_cons_zero, List.set_cons_succ]
  refine wpAnyH_ready (rs := [1]) (by kernel_rfl) (by simp) (AllReadyH.cons (o := ⟨some 10, .call { callee := .value (.func 19), args := #[.tmp 9], argTypes := #[39] }, _, _, _, _⟩) rfl (fun K hK => ?_) AllReadyH.nil)
  go_simp
  refine (rbyte_c g D _ _ (H1.out.of_heap (w' := w1.drew) rfl)).mono ?_
  rw [HN.out]
  rintro en w2 ⟨rfl, h2, k2⟩
  have H2 := Lib.hid h2
  clear h2
  have k2' : w1.grownBy w2 (some g) := only_of_drew k2
  have hgr : w.grownBy w2 (some g) := only_trans (only_of_below hbel _) k2'
  refine hK.out _ _ (HB1.out.grown k2' (by simp; omega)) (fun hS2 => ?_)
  clear hK K hS k2
  refine wpAnyH_take (i := 5) (oi := ⟨some 14, .binOp .eql 5 (.tmp 10) (.tmp 13) 5, _, _, _, _⟩) (v := .bool true) rfl (by kernel_rfl) (by kernel_rfl) (by kernel_rfl) (fun _ _ _ h => h) (Or.inl ⟨by rfl, by intro W hSw; clear hSw; go_simp⟩) hS2 ?_
  simp only [Act.put, List.setIfInBounds_toArray, List.set_cons_zero, List.set_cons_succ]
  refine wpAnyH_take (i := 6) (oi := ⟨some 4, .assign (.tmp 14), _, _, _, _⟩) (v := .bool true) rfl (by kernel_rfl) (by kernel_rfl) (by kernel_rfl) (fun _ _ _ h => h) (Or.inl ⟨by rfl, by intro W hSw; clear hSw; go_simp⟩) hS2 ?_
  simp only [Act.put, List.setIfInBounds_toArray, List.set_cons_zero, List.set_cons_succ]
  refine wpAnyH_done (by kernel_rfl) ?_ _
  clear hS2
  go_wp2
  go_ret
  exact ⟨rfl, H2.out, hgr⟩
set_option maxRecDepth 100000 in
set_option maxHeartbeats 1600000 in
theorem readI1 (hk : x.kind = 1) (he : (encI x).1 = 0) : Calls Try.prog 15 #[.pointer (some ⟨g, 0, none⟩), .agg x.cells.toArray] w (RPost w g D (rest, 0) (.bool true)) := by
  have hE : encI x = encN x.num := by rw [encI, if_neg (by rw [hk]; decide), if_pos hk]
  rw [hE] at h
  have hin : 0 ≤ x.num ∧ x.num ≤ 72057594037927935 := by
    rcases Classical.em (0 ≤ x.num ∧ x.num ≤ 72057594037927935) with h0 | h0
    · exact h0
    · rw [hE, encN, if_neg h0] at he; exact absurd he (by decide)
  obtain ⟨m, hm⟩ : ∃ m : Nat, x.num = (m : Int) := ⟨x.num.toNat, by omega⟩
  have hN : encN x.num = (0, numL m) := by rw [encN, if_pos hin, hm]; rfl
  rw [hN] at h
  have HN := Lib.hid (numberR_app m rest (by omega))
  have HM := Lib.hid hm
  clear hN hin hm he
  have H := Lib.hid h
  have HX := Lib.hid hx
  have HK := Lib.hid hk
  clear h hx hk hE
  have hlt := H.out.lt
  have HLOW := Lib.hid H.out.low
  go_enter Try.func15, Try.ntmps15
  go_upto_region 1 with (fail)
  refine name_wp (fun w1 => Blk w1 w.heap.size 33 x.cells ∧ Below w.heap.size w w1) ⟨Blk.new _ _ _, alloc_below _ _⟩ ?_
  rintro w1 ⟨hb1, hbel⟩
  obtain ⟨c0, c1, c2, c3⟩ := item_blk hb1
  rw [HK.out] at c0
  have HB1 := Lib.hid hb1
  clear hb1 c1 c2 c3
  go_upto_region 5 with (fail)
  clear c0
  have H1 := Lib.hid (H.out.below hbel)
  refine wp_region_held_drew (S := fun W => Blk W w.heap.size 33 x.cells) (by kernel_rfl) HB1.out.drew (fun hS => ?_)
  refine wpAnyH_take (i := 0) (oi := ⟨some 17, .move (.tmp 0), _, _, _, _⟩) (v := .pointer (some ⟨g, 0, none⟩)) rfl (by kernel_rfl) (by kernel_rfl) (by kernel_rfl) (fun _ _ _ h => h) (Or.inl ⟨by rfl, by intro W hSw; clear hSw; go_simp⟩) hS ?_
  simp only [Act.put, List.setIfInBounds_toArray, List.set_cons_zero, List.set_cons_succ]
  refine wpAnyH_take (i := 2) (oi := ⟨some 19, .fieldAddr 33 (.tmp 3) 1, _, _, _, _⟩) (v := .pointer (some ⟨w.heap.size, 1, none⟩)) rfl (by kernel_rfl) (by kernel_rfl) (by kernel_rfl) (fun _ _ _ h => h) (Or.inl ⟨by rfl, by intro W hSw; clear hSw; go_simp⟩) hS ?_
  simp only [Act.put, List.setIfInBounds_toArray, List.set_cons_zero, List.set_cons_succ]
  refine wpAnyH_take (i := 3) (oi := ⟨some 20, .load 3 (.tmp 19), _, _, _, _⟩) (v := .int .i64 (m : Int)) rfl (by kernel_rfl) (by kernel_rfl) (by kernel_rfl) (fun _ _ _ h => h) (Or.inl ⟨by rfl, by intro W hSw; have cc := (item_blk hSw).2.1; rw [HM.out] at cc; clear hSw; go_simp⟩) hS ?_
  simp only [Act.put, List.setIfInBounds_toArray, List.set_cons_zero, List.set_cons_succ]
  refine wpAnyH_ready (rs := [1]) (by kernel_rfl) (by simp) (AllReadyH.cons (o := ⟨some 18, .call { callee := .value (.func 20), args := #[.tmp 17], argTypes := #[39] }, _, _, _, _⟩) rfl (fun K hK => ?_) AllReadyH.nil)
  go_simp
  refine (rnumber_c g D _ _ (H1.out.of_heap (w' := w1.drew) rfl)).mono ?_
  rw [HN.out]
  rintro en w2 ⟨rfl, h2, k2⟩
  have H2 := Lib.hid h2
  clear h2
  have k2' : w1.grownBy w2 (some g) := only_of_drew k2
  have hgr : w.grownBy w2 (some g) := only_trans (only_of_below hbel _) k2'
  refine hK.out _ _ (HB1.out.grown k2' (by simp; omega)) (fun hS2 => ?_)
  clear hK K hS k2
  refine wpAnyH_take (i := 4) (oi := ⟨some 21, .binOp .eql 3 (.tmp 18) (.tmp 20) 3, _, _, _, _⟩) (v := .bool true) rfl (by kernel_rfl) (by kernel_rfl) (by kernel_rfl) (fun _ _ _ h => h) (Or.inl ⟨by rfl, by intro W hSw; clear hSw; go_simp⟩) hS2 ?_
  simp only [Act.put, List.setIfInBounds_toArray, List.set_cons_zero, List.set_cons_succ]
  refine wpAnyH_take (i := 5) (oi := ⟨some 4, .assign (.tmp 21), _, _, _, _⟩) (v := .bool true) rfl (by kernel_rfl) (by kernel_rfl) (by kernel_rfl) (fun _ _ _ h => h) (Or.inl ⟨by rfl, by intro W hSw; clear hSw; go_simp⟩) hS2 ?_
  simp only [Act.put, List.setIfInBounds_toArray, List.set_cons_zero, List.set_cons_succ]
  refine wpAnyH_done (by kernel_rfl) ?_ _
  clear hS2
  go_wp2
  go_ret
  exact ⟨rfl, H2.out, hgr⟩
set_option maxRecDepth 100000 in
set_option maxHeartbeats 1600000 in
theorem readI2 (hk : x.kind = 2) (he : (encI x).1 = 0) : Calls Try.prog 15 #[.pointer (some ⟨g, 0, none⟩), .agg x.cells.toArray] w (RPost w g D (rest, 0) (.bool true)) := by
  have hE : encI x = encS x.num := by rw [encI, if_neg (by rw [hk]; decide), if_neg (by rw [hk]; decide), if_pos hk]
  rw [hE] at h
  have hin : -36028797018963968 ≤ x.num ∧ x.num ≤ 36028797018963967 := by
    rcases Classical.em (-36028797018963968 ≤ x.num ∧ x.num ≤ 36028797018963967) with h0 | h0
    · exact h0
    · rw [hE, encS, if_neg h0] at he; exact absurd he (by decide)
  have hN : encS x.num = (0, numL (sgnN x.num)) := by rw [encS, if_pos hin]
  rw [hN] at h
  have hS' : signedR (numL (sgnN x.num) ++ rest, 0) = (x.num, (rest, 0)) := by rw [signedR, numberR_app _ rest (sgnN_lt _ hin.1 hin.2), sgnR_sgnN]
  have HN := Lib.hid hS'
  clear hN hin he hS'
  have H := Lib.hid h
  have HX := Lib.hid hx
  have HK := Lib.hid hk
  clear h hx hk hE
  have hlt := H.out.lt
  have HLOW := Lib.hid H.out.low
  go_enter Try.func15, Try.ntmps15
  go_upto_region 1 with (fail)
  refine name_wp (fun w1 => Blk w1 w.heap.size 33 x.cells ∧ Below w.heap.size w w1) ⟨Blk.new _ _ _, alloc_below _ _⟩ ?_
  rintro w1 ⟨hb1, hbel⟩
  obtain ⟨c0, c1, c2, c3⟩ := item_blk hb1
  rw [HK.out] at c0
  have HB1 := Lib.hid hb1
  clear hb1 c1 c2 c3
  go_upto_region 7 with (fail)
  clear c0
  have H1 := Lib.hid (H.out.below hbel)
  refine wp_region_held_drew (S := fun W => Blk W w.heap.size 33 x.cells) (by kernel_rfl) HB1.out.drew (fun hS => ?_)
  refine wpAnyH_take (i := 0) (oi := ⟨some 24, .move (.tmp 0), _, _, _, _⟩) (v := .pointer (some ⟨g, 0, none⟩)) rfl (by kernel_rfl) (by kernel_rfl) (by kernel_rfl) (fun _ _ _ h => h) (Or.inl ⟨by rfl, by intro W hSw; clear hSw; go_simp⟩) hS ?_
  simp only [Act.put, List.setIfInBounds_toArray, List.set_cons_zero, List.set_cons_succ]
  refine wpAnyH_take (i := 2) (oi := ⟨some 26, .fieldAddr 33 (.tmp 3) 1, _, _, _, _⟩) (v := .pointer (some ⟨w.heap.size, 1, none⟩)) rfl (by kernel_rfl) (by kernel_rfl) (by kernel_rfl) (fun _ _ _ h => h) (Or.inl ⟨by rfl, by intro W hSw; clear hSw; go_simp⟩) hS ?_
  simp only [Act.put, List.setIfInBounds_toArray, List.set_cons_zero, List.set_cons_succ]
  refine wpAnyH_take (i := 3) (oi := ⟨some 27, .load 3 (.tmp 26), _, _, _, _⟩) (v := .int .i64 x.num) rfl (by kernel_rfl) (by kernel_rfl) (by kernel_rfl) (fun _ _ _ h => h) (Or.inl ⟨by rfl, by intro W hSw; have cc := (item_blk hSw).2.1; clear hSw; go_simp⟩) hS ?_
  simp only [Act.put, List.setIfInBounds_toArray, List.set_cons_zero, List.set_cons_succ]
  refine wpAnyH_ready (rs := [1]) (by kernel_rfl) (by simp) (AllReadyH.cons (o := ⟨some 25, .call { callee := .value (.func 21), args := #[.tmp 24], argTypes := #[39] }, _, _, _, _⟩) rfl (fun K hK => ?_) AllReadyH.nil)
  go_simp
  refine (rsigned_c g D _ _ (H1.out.of_heap (w' := w1.drew) rfl)).mono ?_
  rw [HN.out]
  rintro en w2 ⟨rfl, h2, k2⟩
  have H2 := Lib.hid h2
  clear h2
  have k2' : w1.grownBy w2 (some g) := only_of_drew k2
  have hgr : w.grownBy w2 (some g) := only_trans (only_of_below hbel _) k2'
  refine hK.out _ _ (HB1.out.grown k2' (by simp; omega)) (fun hS2 => ?_)
  clear hK K hS k2
  refine wpAnyH_take (i := 4) (oi := ⟨some 28, .binOp .eql 3 (.tmp 25) (.tmp 27) 3, _, _, _, _⟩) (v := .bool true) rfl (by kernel_rfl) (by kernel_rfl) (by kernel_rfl) (fun _ _ _ h => h) (Or.inl ⟨by rfl, by intro W hSw; clear hSw; go_simp⟩) hS2 ?_
  simp only [Act.put, List.setIfInBounds_toArray, List.set_cons_zero, List.set_cons_succ]
  refine wpAnyH_take (i := 5) (oi := ⟨some 4, .assign (.tmp 28), _, _, _, _⟩) (v := .bool true) rfl (by kernel_rfl) (by kernel_rfl) (by kernel_rfl) (fun _ _ _ h => h) (Or.inl ⟨by rfl, by intro W hSw; clear hSw; go_simp⟩) hS2 ?_
  simp only [Act.put, List.setIfInBounds_toArray, List.set_cons_zero, List.set_cons_succ]
  refine wpAnyH_done (by kernel_rfl) ?_ _
  clear hS2
  go_wp2
  go_ret
  exact ⟨rfl, H2.out, hgr⟩
set_option maxRecDepth 100000 in
set_option maxHeartbeats 1600000 in
theorem readI3 (hk : x.kind = 3) (hlen : x.len ≤ 1000) (hrest : rest.length ≤ 1000000) (hoff : 0 < x.len → Off x.adr g) : Calls Try.prog 15 #[.pointer (some ⟨g, 0, none⟩), .agg x.cells.toArray] w (RPost w g D (rest, 0) (.bool true)) := by
  have hE : encI x = (0, numL x.len ++ x.txt) := by rw [encI, if_neg (by rw [hk]; decide), if_neg (by rw [hk]; decide), if_neg (by rw [hk]; decide), if_pos hk]
  rw [hE] at h
  have hT : textR 1000 (numL x.len ++ x.txt ++ rest, 0) = (x.txt, (rest, 0)) := by
    rw [textR, List.append_assoc, numberR_app _ _ (by omega)]
    simp only
    rw [if_neg (by omega), nextR_app _ _ _ hx.row.len]
  have HN := Lib.hid hT
  have hsz : (numL x.len ++ x.txt ++ rest).length ≤ 1099511627776 := by
    have := numL_len 7 x.len (by omega)
    have := hx.row.len
    simp only [List.length_append]
    omega
  have HSZ := Lib.hid hsz
  have HOFF := Lib.hid hoff
  clear hT hsz hoff
  have H := Lib.hid h
  have HX := Lib.hid hx
  have HK := Lib.hid hk
  clear h hx hk hE
  have hlt := H.out.lt
  have HLOW := Lib.hid H.out.low
  go_enter Try.func15, Try.ntmps15
  go_upto_region 1 with (fail)
  refine name_wp (fun w1 => Blk w1 w.heap.size 33 x.cells ∧ Below w.heap.size w w1) ⟨Blk.new _ _ _, alloc_below _ _⟩ ?_
  rintro w1 ⟨hb1, hbel⟩
  obtain ⟨c0, c1, c2, c3⟩ := item_blk hb1
  rw [HK.out] at c0
  have HB1 := Lib.hid hb1
  clear hb1 c1 c2 c3
  go_upto_region 9 with (fail)
  clear c0
  have H1 := Lib.hid (H.out.below hbel)
  refine wp_region_held_drew (S := fun W => Blk W w.heap.size 33 x.cells) (by kernel_rfl) HB1.out.drew (fun hS => ?_)
  refine wpAnyH_take (i := 0) (oi := ⟨some 31, .move (.tmp 0), _, _, _, _⟩) (v := .pointer (some ⟨g, 0, none⟩)) rfl (by kernel_rfl) (by kernel_rfl) (by kernel_rfl) (fun _ _ _ h => h) (Or.inl ⟨by rfl, by intro W hSw; clear hSw; go_simp⟩) hS ?_
  simp only [Act.put, List.setIfInBounds_toArray, List.set_cons_zero, List.set_cons_succ]
  refine wpAnyH_take (i := 2) (oi := ⟨some 33, .fieldAddr 33 (.tmp 3) 2, _, _, _, _⟩) (v := .pointer (some ⟨w.heap.size, 2, none⟩)) rfl (by kernel_rfl) (by kernel_rfl) (by kernel_rfl) (fun _ _ _ h => h) (Or.inl ⟨by rfl, by intro W hSw; clear hSw; go_simp⟩) hS ?_
  simp only [Act.put, List.setIfInBounds_toArray, List.set_cons_zero, List.set_cons_succ]
  refine wpAnyH_take (i := 3) (oi := ⟨some 34, .load 23 (.tmp 33), _, _, _, _⟩) (v := .slice x.adr x.len x.room) rfl (by kernel_rfl) (by kernel_rfl) (by kernel_rfl) (fun _ _ _ h => h) (Or.inl ⟨by rfl, by intro W hSw; have cc := (item_blk hSw).2.2.1; clear hSw; go_simp⟩) hS ?_
  simp only [Act.put, List.setIfInBounds_toArray, List.set_cons_zero, List.set_cons_succ]
  refine wpAnyH_ready (rs := [1]) (by kernel_rfl) (by simp) (AllReadyH.cons (o := ⟨some 32, .call { callee := .value (.func 22), args := #[.tmp 31, .const (.int .i64 1000)], argTypes := #[39, 3] }, _, _, _, _⟩) rfl (fun K hK => ?_) AllReadyH.nil)
  go_simp
  refine (rtext_c g D 1000 _ _ (H1.out.of_heap (w' := w1.drew) rfl) HSZ.out).mono ?_
  rw [HN.out]
  rintro en w2 ⟨V, m, d, rfl, hr2, _, h2, k2⟩
  have H2 := Lib.hid h2
  have HR2 := Lib.hid hr2
  clear h2 hr2
  have k2' : w1.grownBy w2 (some g) := only_of_drew k2
  have hgr : w.grownBy w2 (some g) := only_trans (only_of_below hbel _) k2'
  refine hK.out _ _ (HB1.out.grown k2' (by simp; omega)) (fun hS2 => ?_)
  clear hK K hS k2
  refine wpAnyH_ready (rs := [4]) (by kernel_rfl) (by simp) (AllReadyH.cons (o := ⟨some 35, .call { callee := .value (.func 13), args := #[.tmp 32, .tmp 34], argTypes := #[23, 23] }, _, _, _, _⟩) rfl (fun K hK => ?_) AllReadyH.nil)
  go_simp
  refine (same_c V x.adr m d x.len x.room x.txt x.txt w2 HR2.out ((HX.out.row.keep hbel).only' HOFF.out k2')).mono ?_
  rintro en w3 ⟨rfl, kk, rfl⟩
  rw [decide_eq_true (rfl : x.txt = x.txt)]
  refine hK.out _ _ (Blk.drewN hS2 kk) (fun hS3 => ?_)
  clear hK K hS2
  refine wpAnyH_take (i := 5) (oi := ⟨some 4, .assign (.tmp 35), _, _, _, _⟩) (v := .bool true) rfl (by kernel_rfl) (by kernel_rfl) (by kernel_rfl) (fun _ _ _ h => h) (Or.inl ⟨by rfl, by intro W hSw; clear hSw; go_simp⟩) hS3 ?_
  simp only [Act.put, List.setIfInBounds_toArray, List.set_cons_zero, List.set_cons_succ]
  refine wpAnyH_done (by kernel_rfl) ?_ _
  clear hS3
  go_wp2
  go_ret
  exact ⟨rfl, H2.out.of_heap rfl, only_trans hgr (only_of_below (belowDrewN (Below.refl _ _) kk) _)⟩
set_option maxRecDepth 100000 in
set_option maxHeartbeats 1600000 in
theorem readI4 (hk : x.kind = 4) : Calls Try.prog 15 #[.pointer (some ⟨g, 0, none⟩), .agg x.cells.toArray] w (RPost w g D (rest, 0) (.bool true)) := by
  have hE : encI x = (0, x.key) := by rw [encI, if_neg (by rw [hk]; decide), if_neg (by rw [hk]; decide), if_neg (by rw [hk]; decide), if_neg (by rw [hk]; decide), if_pos hk]
  rw [hE] at h
  have hT : keyR (x.key ++ rest, 0) = (x.key, (rest, 0)) := by
    rw [keyR, nextR_app _ _ _ hx.keyLen]
    simp only
    rw [if_pos hx.keyLen]
  have HN := Lib.hid hT
  obtain ⟨i0, hi0, _⟩ := info_parts infoU8
  have heq : ∀ W, (Op.equalIn 10000 31 (.agg (ints .u8 x.key).toArray) (.agg (ints .u8 x.key).toArray)).run Try.prog W = .ok true W := fun W => run_eq_ints W 9998 Try.underlying31 hi0 (by kernel_rfl) Try.underlying5 x.key hx.keyLen
  have HEQ := Lib.hid heq
  clear hT heq hi0
  have H := Lib.hid h
  have HX := Lib.hid hx
  have HK := Lib.hid hk
  clear h hx hk hE
  have hlt := H.out.lt
  have HLOW := Lib.hid H.out.low
  go_enter Try.func15, Try.ntmps15
  go_upto_region 1 with (fail)
  refine name_wp (fun w1 => Blk w1 w.heap.size 33 x.cells ∧ Below w.heap.size w w1) ⟨Blk.new _ _ _, alloc_below _ _⟩ ?_
  rintro w1 ⟨hb1, hbel⟩
  obtain ⟨c0, c1, c2, c3⟩ := item_blk hb1
  rw [HK.out] at c0
  have HB1 := Lib.hid hb1
  clear hb1 c1 c2 c3
  go_upto_region 11 with (fail)
  clear c0
  have H1 := Lib.hid (H.out.below hbel)
  refine wp_region_held_drew (S := fun W => Blk W w.heap.size 33 x.cells) (by kernel_rfl) HB1.out.drew (fun hS => ?_)
  refine wpAnyH_take (i := 0) (oi := ⟨some 38, .move (.tmp 0), _, _, _, _⟩) (v := .pointer (some ⟨g, 0, none⟩)) rfl (by kernel_rfl) (by kernel_rfl) (by kernel_rfl) (fun _ _ _ h => h) (Or.inl ⟨by rfl, by intro W hSw; clear hSw; go_simp⟩) hS ?_
  simp only [Act.put, List.setIfInBounds_toArray, List.set_cons_zero, List.set_cons_succ]
  refine wpAnyH_take (i := 2) (oi := ⟨some 40, .fieldAddr 33 (.tmp 3) 3, _, _, _, _⟩) (v := .pointer (some ⟨w.heap.size, 3, none⟩)) rfl (by kernel_rfl) (by kernel_rfl) (by kernel_rfl) (fun _ _ _ h => h) (Or.inl ⟨by rfl, by intro W hSw; clear hSw; go_simp⟩) hS ?_
  simp only [Act.put, List.setIfInBounds_toArray, List.set_cons_zero, List.set_cons_succ]
  refine wpAnyH_take (i := 3) (oi := ⟨some 41, .load 31 (.tmp 40), _, _, _, _⟩) (v := .agg (ints .u8 x.key).toArray) rfl (by kernel_rfl) (by kernel_rfl) (by kernel_rfl) (fun _ _ _ h => h) (yieldsIf_load_at rfl 31 (.tmp 40) rfl ⟨w.heap.size, 3, none⟩ rfl _ _ (fun W hW => (item_blk hW).2.2.2) Try.underlying31 rfl (by rw [length_ints, HX.out.keyLen]; kernel_rfl)) hS ?_
  simp only [Act.put, List.setIfInBounds_toArray, List.set_cons_zero, List.set_cons_succ]
  refine wpAnyH_ready (rs := [1]) (by kernel_rfl) (by simp) (AllReadyH.cons (o := ⟨some 39, .call { callee := .value (.func 23), args := #[.tmp 38], argTypes := #[39] }, _, _, _, _⟩) rfl (fun K hK => ?_) AllReadyH.nil)
  go_simp
  refine (rkey_c g D _ _ (H1.out.of_heap (w' := w1.drew) rfl)).mono ?_
  rw [HN.out]
  rintro en w2 ⟨rfl, h2, k2⟩
  have H2 := Lib.hid h2
  clear h2
  have k2' : w1.grownBy w2 (some g) := only_of_drew k2
  have hgr : w.grownBy w2 (some g) := only_trans (only_of_below hbel _) k2'
  refine hK.out _ _ (HB1.out.grown k2' (by simp; omega)) (fun hS2 => ?_)
  clear hK K hS k2
  refine wpAnyH_take (i := 4) (oi := ⟨some 42, .binOp .eql 31 (.tmp 39) (.tmp 41) 31, _, _, _, _⟩) (v := .bool true) rfl (by kernel_rfl) (by kernel_rfl) (by kernel_rfl) (fun _ _ _ h => h) (Or.inl ⟨by rfl, by intro W hSw; clear hSw; go_simp; rw [HEQ.out]; go_simp⟩) hS2 ?_
  simp only [Act.put, List.setIfInBounds_toArray, List.set_cons_zero, List.set_cons_succ]
  refine wpAnyH_take (i := 5) (oi := ⟨some 4, .assign (.tmp 42), _, _, _, _⟩) (v := .bool true) rfl (by kernel_rfl) (by kernel_rfl) (by kernel_rfl) (fun _ _ _ h => h) (Or.inl ⟨by rfl, by intro W hSw; clear hSw; go_simp⟩) hS2 ?_
  simp only [Act.put, List.setIfInBounds_toArray, List.set_cons_zero, List.set_cons_succ]
  refine wpAnyH_done (by kernel_rfl) ?_ _
  clear hS2
  go_wp2
  go_ret
  exact ⟨rfl, H2.out, hgr⟩
set_option maxRecDepth 100000 in
set_option maxHeartbeats 1600000 in
theorem readI5a (k0 : x.kind ≠ 0) (k1 : x.kind ≠ 1) (k2 : x.kind ≠ 2) (k3 : x.kind ≠ 3) (k4 : x.kind ≠ 4) (h2 : x.num % 2 = 0) : Calls Try.prog 15 #[.pointer (some ⟨g, 0, none⟩), .agg x.cells.toArray] w (RPost w g D (rest, 0) (.bool true)) := by
  have hE : encI x = (0, [if x.num % 2 = 0 then 0 else 1]) := by rw [encI, if_neg k0, if_neg k1, if_neg k2, if_neg k3, if_neg k4]
  rw [hE] at h
  rw [if_pos h2] at h
  have HN : Hid (boolR ([0] ++ rest, 0) = (false, (rest, 0))) := rfl
  have HZ := Lib.hid (tmod2_even h2)
  clear h2
  have H := Lib.hid h
  have HX := Lib.hid hx
  have e0 : (x.kind == 0) = false := by simpa using k0
  have e1 : (x.kind == 1) = false := by simpa using k1
  have e2 : (x.kind == 2) = false := by simpa using k2
  have e3 : (x.kind == 3) = false := by simpa using k3
  have e4 : (x.kind == 4) = false := by simpa using k4
  clear h hx k0 k1 k2 k3 k4 hE
  have hlt := H.out.lt
  have HLOW := Lib.hid H.out.low
  go_enter Try.func15, Try.ntmps15
  go_upto_region 1 with (fail)
  refine name_wp (fun w1 => Blk w1 w.heap.size 33 x.cells ∧ Below w.heap.size w w1) ⟨Blk.new _ _ _, alloc_below _ _⟩ ?_
  rintro w1 ⟨hb1, hbel⟩
  obtain ⟨c0, c1, c2, c3⟩ := item_blk hb1
  have HB1 := Lib.hid hb1
  clear hb1 c1 c2 c3
  go_upto_region 12 with (fail)
  clear c0
  have H1 := Lib.hid (H.out.below hbel)
  refine wp_region_held_drew (S := fun W => Blk W w.heap.size 33 x.cells) (by kernel_rfl) HB1.out.drew (fun hS => ?_)
  refine wpAnyH_take (i := 0) (oi := ⟨some 43, .move (.tmp 0), _, _, _, _⟩) (v := .pointer (some ⟨g, 0, none⟩)) rfl (by kernel_rfl) (by kernel_rfl) (by kernel_rfl) (fun _ _ _ h => h) (Or.inl ⟨by rfl, by intro W hSw; clear hSw; go_simp⟩) hS ?_
  simp only [Act.put, List.setIfInBounds_toArray, List.set_cons_zero, List.set_cons_succ]
  refine wpAnyH_take (i := 2) (oi := ⟨some 45, .fieldAddr 33 (.tmp 3) 1, _, _, _, _⟩) (v := .pointer (some ⟨w.heap.size, 1, none⟩)) rfl (by kernel_rfl) (by kernel_rfl) (by kernel_rfl) (fun _ _ _ h => h) (Or.inl ⟨by rfl, by intro W hSw; clear hSw; go_simp⟩) hS ?_
  simp only [Act.put, List.setIfInBounds_toArray, List.set_cons_zero, List.set_cons_succ]
  refine wpAnyH_take (i := 3) (oi := ⟨some 46, .load 3 (.tmp 45), _, _, _, _⟩) (v := .int .i64 x.num) rfl (by kernel_rfl) (by kernel_rfl) (by kernel_rfl) (fun _ _ _ h => h) (Or.inl ⟨by rfl, by intro W hSw; have cc := (item_blk hSw).2.1; clear hSw; go_simp⟩) hS ?_
  simp only [Act.put, List.setIfInBounds_toArray, List.set_cons_zero, List.set_cons_succ]
  refine wpAnyH_take (i := 4) (oi := ⟨some 47, .binOp .rem 3 (.tmp 46) (.const (.int .i64 2)) 3, _, _, _, _⟩) (v := .int .i64 (x.num.tmod 2)) rfl (by kernel_rfl) (by kernel_rfl) (by kernel_rfl) (fun _ _ _ h => h) (Or.inl ⟨by rfl, by intro W hSw; clear hSw; go_simp⟩) hS ?_
  simp only [Act.put, List.setIfInBounds_toArray, List.set_cons_zero, List.set_cons_succ]
  refine wpAnyH_take (i := 5) (oi := ⟨some 48, .binOp .neq 3 (.tmp 47) (.const (.int .i64 0)) 3, _, _, _, _⟩) (v := .bool false) rfl (by kernel_rfl) (by kernel_rfl) (by kernel_rfl) (fun _ _ _ h => h) (Or.inl ⟨by rfl, by intro W hSw; clear hSw; go_simp; simpa using HZ.out⟩) hS ?_
  simp only [Act.put, List.setIfInBounds_toArray, List.set_cons_zero, List.set_cons_succ]
  refine wpAnyH_ready (rs := [1]) (by kernel_rfl) (by simp) (AllReadyH.cons (o := ⟨some 44, .call { callee := .value (.func 24), args := #[.tmp 43], argTypes := #[39] }, _, _, _, _⟩) rfl (fun K hK => ?_) AllReadyH.nil)
  go_simp
  refine (rbool_c g D _ _ (H1.out.of_heap (w' := w1.drew) rfl)).mono ?_
  rw [HN.out]
  rintro en w2 ⟨rfl, h2, k2⟩
  have H2 := Lib.hid h2
  clear h2
  have k2' : w1.grownBy w2 (some g) := only_of_drew k2
  have hgr : w.grownBy w2 (some g) := only_trans (only_of_below hbel _) k2'
  refine hK.out _ _ (HB1.out.grown k2' (by simp; omega)) (fun hS2 => ?_)
  clear hK K hS k2
  refine wpAnyH_take (i := 6) (oi := ⟨some 49, .binOp .eql 4 (.tmp 44) (.tmp 48) 4, _, _, _, _⟩) (v := .bool true) rfl (by kernel_rfl) (by kernel_rfl) (by kernel_rfl) (fun _ _ _ h => h) (Or.inl ⟨by rfl, by intro W hSw; clear hSw; go_simp⟩) hS2 ?_
  simp only [Act.put, List.setIfInBounds_toArray, List.set_cons_zero, List.set_cons_succ]
  refine wpAnyH_take (i := 7) (oi := ⟨some 4, .assign (.tmp 49), _, _, _, _⟩) (v := .bool true) rfl (by kernel_rfl) (by kernel_rfl) (by kernel_rfl) (fun _ _ _ h => h) (Or.inl ⟨by rfl, by intro W hSw; clear hSw; go_simp⟩) hS2 ?_
  simp only [Act.put, List.setIfInBounds_toArray, List.set_cons_zero, List.set_cons_succ]
  refine wpAnyH_done (by kernel_rfl) ?_ _
  clear hS2
  go_wp2
  go_ret
  exact ⟨rfl, H2.out, hgr⟩
set_option maxRecDepth 100000 in
set_option maxHeartbeats 1600000 in
theorem readI5b (k0 : x.kind ≠ 0) (k1 : x.kind ≠ 1) (k2 : x.kind ≠ 2) (k3 : x.kind ≠ 3) (k4 : x.kind ≠ 4) (h2 : ¬ x.num % 2 = 0) : Calls Try.prog 15 #[.pointer (some ⟨g, 0, none⟩), .agg x.cells.toArray] w (RPost w g D (rest, 0) (.bool true)) := by
  have hE : encI x = (0, [if x.num % 2 = 0 then 0 else 1]) := by rw [encI, if_neg k0, if_neg k1, if_neg k2, if_neg k3, if_neg k4]
  rw [hE] at h
  rw [if_neg h2] at h
  have HN : Hid (boolR ([1] ++ rest, 0) = (true, (rest, 0))) := rfl
  have HZ := Lib.hid (tmod2_odd h2)
  clear h2
  have H := Lib.hid h
  have HX := Lib.hid hx
  have e0 : (x.kind == 0) = false := by simpa using k0
  have e1 : (x.kind == 1) = false := by simpa using k1
  have e2 : (x.kind == 2) = false := by simpa using k2
  have e3 : (x.kind == 3) = false := by simpa using k3
  have e4 : (x.kind == 4) = false := by simpa using k4
  clear h hx k0 k1 k2 k3 k4 hE
  have hlt := H.out.lt
  have HLOW := Lib.hid H.out.low
  go_enter Try.func15, Try.ntmps15
  go_upto_region 1 with (fail)
  refine name_wp (fun w1 => Blk w1 w.heap.size 33 x.cells ∧ Below w.heap.size w w1) ⟨Blk.new _ _ _, alloc_below _ _⟩ ?_
  rintro w1 ⟨hb1, hbel⟩
  obtain ⟨c0, c1, c2, c3⟩ := item_blk hb1
  have HB1 := Lib.hid hb1
  clear hb1 c1 c2 c3
  go_upto_region 12 with (fail)
  clear c0
  have H1 := Lib.hid (H.out.below hbel)
  refine wp_region_held_drew (S := fun W => Blk W w.heap.size 33 x.cells) (by kernel_rfl) HB1.out.drew (fun hS => ?_)
  refine wpAnyH_take (i := 0) (oi := ⟨some 43, .move (.tmp 0), _, _, _, _⟩) (v := .pointer (some ⟨g, 0, none⟩)) rfl (by kernel_rfl) (by kernel_rfl) (by kernel_rfl) (fun _ _ _ h => h) (Or.inl ⟨by rfl, by intro W hSw; clear hSw; go_simp⟩) hS ?_
  simp only [Act.put, List.setIfInBounds_toArray, List.set_cons_zero, List.set_cons_succ]
  refine wpAnyH_take (i := 2) (oi := ⟨some 45, .fieldAddr 33 (.tmp 3) 1, _, _, _, _⟩) (v := .pointer (some ⟨w.heap.size, 1, none⟩)) rfl (by kernel_rfl) (by kernel_rfl) (by kernel_rfl) (fun _ _ _ h => h) (Or.inl ⟨by rfl, by intro W hSw; clear hSw; go_simp⟩) hS ?_
  simp only [Act.put, List.setIfInBounds_toArray, List.set_cons_zero, List.set_cons_succ]
  refine wpAnyH_take (i := 3) (oi := ⟨some 46, .load 3 (.tmp 45), _, _, _, _⟩) (v := .int .i64 x.num) rfl (by kernel_rfl) (by kernel_rfl) (by kernel_rfl) (fun _ _ _ h => h) (Or.inl ⟨by rfl, by intro W hSw; have cc := (item_blk hSw).2.1; clear hSw; go_simp⟩) hS ?_
  simp only [Act.put, List.setIfInBounds_toArray, List.set_cons_zero, List.set_cons_succ]
  refine wpAnyH_take (i := 4) (oi := ⟨some 47, .binOp .rem 3 (.tmp 46) (.const (.int .i64 2)) 3, _, _, _, _⟩) (v := .int .i64 (x.num.tmod 2)) rfl (by kernel_rfl) (by kernel_rfl) (by kernel_rfl) (fun _ _ _ h => h) (Or.inl ⟨by rfl, by intro W hSw; clear hSw; go_simp⟩) hS ?_
  simp only [Act.put, List.setIfInBounds_toArray, List.set_cons_zero, List.set_cons_succ]
  refine wpAnyH_take (i := 5) (oi := ⟨some 48, .binOp .neq 3 (.tmp 47) (.const (.int .i64 0)) 3, _, _, _, _⟩) (v := .bool true) rfl (by kernel_rfl) (by kernel_rfl) (by kernel_rfl) (fun _ _ _ h => h) (Or.inl ⟨by rfl, by intro W hSw; clear hSw; go_simp; simpa using HZ.out⟩) hS ?_
  simp only [Act.put, List.setIfInBounds_toArray, List.set_cons_zero, List.set_cons_succ]
  refine wpAnyH_ready (rs := [1]) (by kernel_rfl) (by simp) (AllReadyH.cons (o := ⟨some 44, .call { callee := .value (.func 24), args := #[.tmp 43], argTypes := #[39] }, _, _, _, _⟩) rfl (fun K hK => ?_) AllReadyH.nil)
  go_simp
  refine (rbool_c g D _ _ (H1.out.of_heap (w' := w1.drew) rfl)).mono ?_
  rw [HN.out]
  rintro en w2 ⟨rfl, h2, k2⟩
  have H2 := Lib.hid h2
  clear h2
  have k2' : w1.grownBy w2 (some g) := only_of_drew k2
  have hgr : w.grownBy w2 (some g) := only_trans (only_of_below hbel _) k2'
  refine hK.out _ _ (HB1.out.grown k2' (by simp; omega)) (fun hS2 => ?_)
  clear hK K hS k2
  refine wpAnyH_take (i := 6) (oi := ⟨some 49, .binOp .eql 4 (.tmp 44) (.tmp 48) 4, _, _, _, _⟩) (v := .bool true) rfl (by kernel_rfl) (by kernel_rfl) (by kernel_rfl) (fun _ _ _ h => h) (Or.inl ⟨by rfl, by intro W hSw; clear hSw; go_simp⟩) hS2 ?_
  simp only [Act.put, List.setIfInBounds_toArray, List.set_cons_zero, List.set_cons_succ]
  refine wpAnyH_take (i := 7) (oi := ⟨some 4, .assign (.tmp 49), _, _, _, _⟩) (v := .bool true) rfl (by kernel_rfl) (by kernel_rfl) (by kernel_rfl) (fun _ _ _ h => h) (Or.inl ⟨by rfl, by intro W hSw; clear hSw; go_simp⟩) hS2 ?_
  simp only [Act.put, List.setIfInBounds_toArray, List.set_cons_zero, List.set_cons_succ]
  refine wpAnyH_done (by kernel_rfl) ?_ _
  clear hS2
  go_wp2
  go_ret
  exact ⟨rfl, H2.out, hgr⟩
theorem readI_c (he : (encI x).1 = 0) (hlen : x.len ≤ 1000) (hrest : rest.length ≤ 1000000) (hoff : 0 < x.len → Off x.adr g) : Calls Try.prog 15 #[.pointer (some ⟨g, 0, none⟩), .agg x.cells.toArray] w (RPost w g D (rest, 0) (.bool true)) := by
  by_cases k0 : x.kind = 0
  · exact readI0 g D x rest w h hx k0
  by_cases k1 : x.kind = 1
  · exact readI1 g D x rest w h hx k1 he
  by_cases k2 : x.kind = 2
  · exact readI2 g D x rest w h hx k2 he
  by_cases k3 : x.kind = 3
  · exact readI3 g D x rest w h hx k3 hlen hrest hoff
  by_cases k4 : x.kind = 4
  · exact readI4 g D x rest w h hx k4
  by_cases h2 : x.num % 2 = 0
  · exact readI5a g D x rest w h hx k0 k1 k2 k3 k4 h2
  · exact readI5b g D x rest w h hx k0 k1 k2 k3 k4 h2
end
end Go.Proofs.Ytgoaelfifdalcaa
