/- What the functions First, Pad, New and (*Hash).Len of package sha return, for every argument, as a walk through the translated text. Conditions: a Hash is laid out in one block. -/
import Derived.Test.YtjacfihpjolddaaDoorSha2
namespace Go.Proofs.YtjacfihpjolddaaDoor
open Go.ChangeShapes Go.WideShapes Go.RowKit

theorem first_lit : u32s firstW = [.int .u32 1779033703, .int .u32 3144134277, .int .u32 1013904242, .int .u32 2773480762, .int .u32 1359893119, .int .u32 2600822924, .int .u32 528734635, .int .u32 1541459225] := by
  simp [u32s, firstW, firstN, ints]
set_option maxHeartbeats 800000 in
theorem first_c (w : World) : Calls Tryd.prog 36 #[] w fun en w' => en = .returned (.agg (u32s firstW).toArray) ∧ Below w.heap.size w w' := by
  go_enter Tryd.func36, Tryd.ntmps36
  go_wp2_with ((with_reducible refine at_store 63 ?_); refine wpList_store_at (o := ⟨none, .store 63 (.tmp 0) (.tmp 1), _, _, _, _⟩) rfl rfl 63 (.tmp 0) (.tmp 1) rfl w.heap.size 0 rfl [.int .u32 1779033703, .int .u32 3144134277, .int .u32 1013904242, .int .u32 2773480762, .int .u32 1359893119, .int .u32 2600822924, .int .u32 528734635, .int .u32 1541459225] rfl zero8 63 (Blk.new _ _ zero8) (by rw [length_zero8]; decide) (by simp [Value.oneCell']) (by kernel_rfl) ?_; intro w4 hb4 hg4)
  rw [splice_all _ _ (by rw [length_zero8]; rfl), ← first_lit] at hb4
  refine bodyPost_ret (v := .agg (u32s firstW).toArray) ?_ rfl ⟨rfl, below_of_only ((Below.refl _ _).alloc (Nat.le_refl _) _) hg4 (by simp) (Nat.le_refl _)⟩
  exact results_cell_row rfl _ _ w.heap.size _ _ _ _ rfl hb4 Tryd.underlying63 rfl (by rw [List.size_toArray, length_u32s, length_firstW]; kernel_rfl)

/-- The cells of a Hash: its words, its rest, its size. -/
def hashC (ws : List (BitVec 32)) (rest : List Nat) (n : Nat) : List Value := u32s ws ++ (ints .u8 rest ++ [.int .i64 (n : Int)])
/-- At block g lies a Hash to which msg was written. -/
structure HashAt (w : World) (g : Nat) (msg : List Nat) : Prop where
  ex : ∃ rest : List Nat, rest.length = 64 ∧ (∀ x ∈ rest, x < 256) ∧ rest.take (msg.length % 64) = msg.drop (64 * (msg.length / 64)) ∧ Blk w g 66 (hashC (blocksW msg (msg.length / 64)) rest msg.length)
theorem HashAt.lt {w : World} {g : Nat} {msg : List Nat} (h : HashAt w g msg) : g < w.heap.size := by
  obtain ⟨_, _, _, _, hb⟩ := h.ex; exact hb.lt
theorem HashAt.below {w w' : World} {g : Nat} {msg : List Nat} (h : HashAt w g msg) (hb : Below w.heap.size w w') : HashAt w' g msg := by
  obtain ⟨r, h1, h2, h3, h4⟩ := h.ex; exact ⟨r, h1, h2, h3, h4.below hb h4.lt⟩
theorem HashAt.of_heap {w w' : World} {g : Nat} {msg : List Nat} (h : HashAt w g msg) (e : w'.heap = w.heap) : HashAt w' g msg := by
  obtain ⟨r, h1, h2, h3, h4⟩ := h.ex; exact ⟨r, h1, h2, h3, h4.of_heap e⟩
theorem length_hashC (ws : List (BitVec 32)) (rest : List Nat) (n : Nat) (h : ws.length = 8) (hr : rest.length = 64) : (hashC ws rest n).length = 73 := by
  simp [hashC, length_u32s, length_ints, h, hr]
theorem hashC_size (ws : List (BitVec 32)) (rest : List Nat) (n : Nat) (h : ws.length = 8) (hr : rest.length = 64) : (hashC ws rest n)[72]? = some (.int .i64 (n : Int)) := by
  rw [hashC, List.getElem?_append_right (by rw [length_u32s]; omega), length_u32s, h, List.getElem?_append_right (by rw [length_ints]; omega), length_ints, hr]
  rfl
theorem HashAt.sizeCell {w : World} {g : Nat} {msg : List Nat} (h : HashAt w g msg) : w.cell? ⟨g, 72, none⟩ = some (.int .i64 (msg.length : Int)) := by
  obtain ⟨r, h1, h2, h3, h4⟩ := h.ex
  rw [h4.cell, hashC_size _ _ _ (length_blocksW _ _) h1]

theorem new_lit : hashC firstW (List.replicate 64 0) 0 = [.int .u32 1779033703, .int .u32 3144134277, .int .u32 1013904242, .int .u32 2773480762, .int .u32 1359893119, .int .u32 2600822924, .int .u32 528734635, .int .u32 1541459225] ++ (List.replicate 64 (.int .u8 0) ++ [.int .i64 0]) := by
  rw [hashC, first_lit, ints_replicate]; rfl
theorem wpList_build_to {P : Program} {ops : Array Oper} {rest : List Oper} {o : Oper} {a : Act} {w : World} {Q : Exit → Act → World → Prop} (hg : o.guard = none) (t : TypeId) (parts : Array (Nat × Operand)) (ho : o.op = .build t parts)
    (cells : List Value) (hf : P.built t (parts.map fun (i, x) => (i, a.eval x)).toList = some cells.toArray) (h : wpList P ops Q rest (a.put o.dst (.agg cells.toArray)) w) : wpList P ops Q (o :: rest) a w :=
  wpList_build hg t parts ho (by rw [hf]; rfl) (by rw [hf]; exact h)
def NewPost (w : World) (en : Ending) (w' : World) : Prop := ∃ g, en = .returned (.pointer (some ⟨g, 0, none⟩)) ∧ w.heap.size ≤ g ∧ HashAt w' g [] ∧ Below w.heap.size w w'
set_option maxRecDepth 100000 in
set_option maxHeartbeats 800000 in
theorem new_c (w : World) : Calls Tryd.prog 27 #[] w (NewPost w) := by
  go_enter Tryd.func27, Tryd.ntmps27
  go_wp2_with fail
  refine (first_c _).mono ?_
  rintro en w2 ⟨rfl, hbel⟩
  rw [first_lit]
  go_wp2_with (refine wpList_build_to (o := ⟨some 2, .build 66 #[(0, .tmp 1)], _, _, _, _⟩) rfl 66 #[(0, .tmp 1)] rfl (hashC firstW (List.replicate 64 0) 0) (by kernel_rfl) ?_)
  go_ret
  refine ⟨w2.heap.size, rfl, hbel.size, ⟨List.replicate 64 0, by simp, by simp, by simp, Blk.new _ _ _⟩, hbel.alloc hbel.size _⟩

/-! ### Pad -/
theorem infoU8s : (Tryd.prog.info? 5).map (·.size) = some 1 := by kernel_rfl
/-- The padding's cells ahead of the copy of the count. -/
def padC (L : Nat) : List Nat := 128 :: List.replicate (L - 1) 0
theorem pad_splice (N L : Nat) (hL : L = 9 + (119 - N % 64) % 64) (hN : N ≤ 1099511627776) : splice (ints .u8 (padC L)) (L - 8) (ints .u8 (putL (8 * N) 8)) = ints .u8 (padN N) := by
  subst hL
  have e1 : padC (9 + (119 - N % 64) % 64) = (128 :: List.replicate ((119 - N % 64) % 64) 0) ++ List.replicate 8 0 := by
    rw [padC, List.cons_append, List.replicate_append_replicate]; congr 2; omega
  have e2 : (128 :: List.replicate ((119 - N % 64) % 64) 0).length = 9 + (119 - N % 64) % 64 - 8 := by simp; omega
  rw [e1, ints_append, splice, List.take_left' (by rw [length_ints, e2]), List.drop_eq_nil_of_le (by simp [length_ints, length_putL]; omega), List.append_nil, ← ints_append]
  congr 1
  rw [padN, List.cons_append, Nat.mod_eq_of_lt (show 8 * N < 18446744073709551616 by omega), putL]
theorem pad_set (L : Nat) (h : 1 ≤ L) : (ints .u8 (List.replicate L 0)).set 0 (.int .u8 128) = ints .u8 (padC L) := by
  obtain ⟨m, rfl⟩ : ∃ m, L = m + 1 := ⟨L - 1, by omega⟩
  simp [ints, padC, List.replicate_succ]
set_option maxHeartbeats 1600000 in
theorem pad_c (n : Int) (N L : Nat) (w : World) (h0 : -9223372036854775808 ≤ n) (h1 : n ≤ 1099511627776) (hN : Hid (N = n.toNat)) (hL : Hid (L = 9 + (119 - N % 64) % 64)) :
    Calls Tryd.prog 38 #[.int .i64 n] w fun en w' => en = .returned (.slice (some ⟨w.heap.size, 0, none⟩) L L) ∧
      w'.ownsRow w.heap.size 5 1 (.slice (some ⟨w.heap.size, 0, none⟩) L L) L (ints .u8 (padN N)) ∧ Below w.heap.size w w' := by
  obtain ⟨i0, hi, hz0, hz1, hz2⟩ := info_parts infoU8
  have hNb : N ≤ 1099511627776 := by have := hN.out; omega
  have hLb : L ≤ 72 := by have := hL.out; omega
  have hLa : 9 ≤ L := by have := hL.out; omega
  have b2 : i0.bytes * L ≤ 281474976710656 := by rw [hz2]; omega
  have b3 : L ≤ maxLen := by unfold maxLen; omega
  have hx : (if n < 0 then 0 else n) = (N : Int) := by have := hN.out; split <;> omega
  have HX := Lib.hid hx
  clear hx
  go_enter Tryd.func38, Tryd.ntmps38
  go_upto_region 3 with (fail)
  rw [HX.out]
  obtain ⟨M, hM⟩ : ∃ M, Hid (M = 8 * N) := ⟨_, rfl⟩
  have hMb : M < 18446744073709551616 := by have := hM.out; omega
  have hput : Hid (M < 256 ^ 8) := hMb
  by_cases hr : N % 64 ≤ 55
  all_goals
    go_upto_region 6 with (at_make; refine wpList_make_full _ rfl (.tmp 16) (.tmp 16) 32 rfl w.heap.size 5 i0 (.int .u8 0) 1 Tryd.underlying32 hi hz0 hz1 .i64 .i64 _ _ L rfl rfl (by have := hL.out; omega) (by have := hL.out; omega) b2 b3 (Nat.le_refl _) ?_; intro w1 hown hgrow)
    first
      | rw [show 64 - (N : Int) % 64 + 64 = (L : Int) from by have := hL.out; omega]
      | rw [show 64 - (N : Int) % 64 = (L : Int) from by have := hL.out; omega]
    have hb1 : Blk w1 w.heap.size 5 (ints .u8 (List.replicate L 0)) := by
      have := (own_blk hown).1
      rw [ints_replicate, ← toList_madeCells_one]; simpa [Value.cells] using this
    have hbel1 : Below w.heap.size w w1 := (Below.refl _ _).grown hgrow (Nat.le_refl _) (by simp)
    have hs1 := hb1.lt
    have hc0 : w1.cell? ⟨w.heap.size, 0, none⟩ = some (.int .u8 0) := by
      rw [hb1.cellAt 0 (by rw [length_ints, List.length_replicate]; omega)]; simp [ints]
    have hf0 := hb1.frozen 0
    have hb2 := hb1.set_ 0 (.int .u8 128)
    rw [pad_set L (by omega)] at hb2
    have HB2 := Lib.hid hb2
    clear hown hgrow hb1 hb2 b2 b3 hi hz0 hz1 hz2
    go_wp2_with fail
    rw [show (N : Int) * 8 = (M : Int) from by have := hM.out; omega]
    refine name_Calls (fun w2 => Blk w2 w.heap.size 5 (ints .u8 (padC L)) ∧ Below w.heap.size w w2) ⟨HB2.out, hbel1.setCell (Nat.le_refl _) _⟩ ?_
    rintro w2 ⟨hb2, hbel2⟩
    have hs2 := hb2.lt
    refine (put_ok M 8 _ (by decide) (by decide) hput).mono ?_
    rintro en w3 ⟨rfl, hown, hbel3⟩
    have hb3 := (own_blk hown).1
    have hb4 := hb2.below hbel3 hs2
    have hbelw3 := hbel2.trans (hbel3.mono hbel2.size)
    have hgg : w.heap.size < w2.heap.size := hs2
    generalize w2.heap.size = g2 at *
    have HB3 := Lib.hid hb3
    have HB4 := Lib.hid hb4
    clear hown hb3 hb4 hb2 hbel2 hbel3 HB2 hc0 hf0 hbel1 hs1 hs2
    have l8 : ((L : Int) - 8).toNat = L - 8 := by omega
    have l8' : 0 ≤ (L : Int) - 8 := by omega
    have l8'' : (L : Int) - 8 ≤ (L : Int) := by omega
    have l9 : ¬ L = L - 8 := by omega
    have l10 : L - (L - 8) = 8 := by omega
    go_wp2_with ((with_reducible refine at_copy ?_); refine wpList_copy_g (o := ⟨some 32, _, _, _, _, _⟩) rfl (.tmp 30) (.tmp 31) 32 32 rfl 5 Tryd.underlying32 infoU8s (some ⟨w.heap.size, L - 8, none⟩) (some ⟨g2, 0, none⟩) 8 8 8 8 rfl rfl w.heap.size (L - 8) _ _ HB4.out (ints .u8 (putL M 8)) (by rw [length_ints, length_putL]; rfl) (fun _ => ⟨rfl, _, rfl, HB3.out.all⟩) (by rw [length_ints, length_putL, length_ints, padC, List.length_cons, List.length_replicate]; omega) (ints_oneCell _ _) ?_; intro w4 hb4 hg4)
    go_ret
    rw [hM.out, pad_splice N L hL.out hNb] at hb4
    refine ⟨rfl, blk_own hb4 ?_ (Nat.le_refl _) (by unfold maxLen; omega), below_of_only hbelw3 hg4 hbelw3.size (Nat.le_refl _)⟩
    rw [length_ints, length_padN, ← hL.out]
end Go.Proofs.YtjacfihpjolddaaDoor
