/- Lines of package back in memory: the newest of all lines that were pushed lie in the ring. What New, Len and Lost do, and the law's few, as walks through the translated text. Conditions: the Lines lies in two blocks of its own. -/
import Derived.Test.YtdldffgdipedpaaDoorBack2
namespace Go.Proofs.YtdldffgdipedpaaDoor
open Go.ChangeShapes Go.WideShapes Go.RowKit
def In (g rg : Nat) : Nat → Prop := fun i => i = g ∨ i = rg
/-- At block g lies a Lines of at most most lines, its ring at block rg; all are the lines that were pushed, the oldest first. -/
structure LAt (w : World) (g rg most : Nat) (all : List (List CellV)) : Prop where
  box : ∃ nx : Nat, Blk w g 46 [.slice (some ⟨rg, 0, none⟩) most most, .int .i64 (nx : Int), .int .i64 ((min all.length most : Nat) : Int), .int .i64 ((all.length - most : Nat) : Int)] ∧ (0 < most → nx = all.length % most)
  ring : ∃ cs, Blk w rg 31 cs ∧ cs.length = most ∧ ∀ k, (h : k < all.length) → all.length ≤ k + most → ∃ v, cs[k % most]? = some v ∧ RowS (In g rg) w v all[k]
  ne : g ≠ rg
section
variable {w w' : World} {g rg most : Nat} {all : List (List CellV)}
theorem LAt.below (h : LAt w g rg most all) (k : Below w.heap.size w w') : LAt w' g rg most all := by
  obtain ⟨nx, h1, h2⟩ := h.box
  obtain ⟨cs, h3, h4, h5⟩ := h.ring
  exact ⟨⟨nx, h1.below k h1.lt, h2⟩, ⟨cs, h3.below k h3.lt, h4, fun i hi hm => by obtain ⟨v, e, hr⟩ := h5 i hi hm; exact ⟨v, e, hr.below k⟩⟩, h.ne⟩
theorem LAt.of_heap (h : LAt w g rg most all) (e : w'.heap = w.heap) : LAt w' g rg most all := by
  obtain ⟨nx, h1, h2⟩ := h.box
  obtain ⟨cs, h3, h4, h5⟩ := h.ring
  exact ⟨⟨nx, h1.of_heap e, h2⟩, ⟨cs, h3.of_heap e, h4, fun i hi hm => by obtain ⟨v, e1, hr⟩ := h5 i hi hm; exact ⟨v, e1, hr.of_heap e⟩⟩, h.ne⟩
theorem LAt.lt (h : LAt w g rg most all) : ∀ i, In g rg i → i < w.heap.size := by
  obtain ⟨nx, h1, _⟩ := h.box
  obtain ⟨cs, h3, _⟩ := h.ring
  intro i hi
  rcases hi with rfl | rfl
  · exact h1.lt
  · exact h3.lt
end
/-! ### few -/
def fewL (ls : List (List CellV)) : Bool := decide (ls.length ≤ 130) && ls.all fun l => decide (l.length ≤ 20)
theorem fewL_iff (ls : List (List CellV)) : fewL ls = true ↔ ls.length ≤ 130 ∧ ∀ l ∈ ls, l.length ≤ 20 := by
  simp [fewL]
theorem few15_c (F : Nat → Prop) (A : Option Addr) (n c : Nat) (ls : List (List CellV)) (w : World) (hr : ReadsR F w A n c ls) :
    Calls Tryd.prog 6 #[.slice A n c] w fun en w' => en = .returned (.bool (fewL ls)) ∧ w = w' := by
  have hn : n ≤ 9223372036854775807 := by have := hr.room; have := hr.cap; unfold maxLen at this; omega
  have HL := Lib.hid hr.len
  have H := Lib.hid hr
  clear hr
  by_cases h : 130 < n
  · have h1 : decide ((130 : Int) < (n : Int)) = true := by rw [decide_eq_true_eq]; omega
    have HF : Hid (fewL ls = false) := by show _ = _; rw [fewL, HL.out, decide_eq_false (by omega)]; rfl
    rw [HF.out]
    go_enter Tryd.func6, Tryd.ntmps6
    go_wp2
    go_ret
    exact ⟨rfl, rfl⟩
  · have h1 : decide ((130 : Int) < (n : Int)) = false := by rw [decide_eq_false_iff_not]; omega
    obtain ⟨B, hB⟩ : ∃ B, Hid (fewL ls = B) := ⟨_, rfl⟩
    rw [hB.out]
    go_enter Tryd.func6, Tryd.ntmps6
    go_wp2
    go_loopw [3] (fun i wr => ∃ j : Nat, j ≤ n ∧ i = .int .i64 j ∧ Hid (∀ l ∈ ls.take j, l.length ≤ 20) ∧ Hid (w = wr)) (fun i _ => n - (intOf i).toNat)
    case atStart => exact ⟨0, Nat.zero_le _, rfl, by show ∀ l ∈ _, _; simp, Lib.hid rfl⟩
    case round =>
      obtain ⟨j, hj, rfl, hT, hw⟩ := hrel
      obtain rfl := hw.out
      clear hw
      by_cases hlt : j < n
      · have hjl : j < ls.length := by rw [HL.out]; exact hlt
        obtain ⟨ad, v, rfl, _, _, hc, R, m, cr, rfl, hrow, _⟩ := H.out.row j hjl
        have hlt2 : (j : Int) < (n : Int) := by omega
        have hj0 : (0 : Int) ≤ (j : Int) := by omega
        have hm := hrow.len
        by_cases hm20 : 20 < m
        · have h2 : decide ((20 : Int) < (m : Int)) = true := by rw [decide_eq_true_eq]; omega
          have HF : Hid (B = false) := by
            show _ = _
            rw [← hB.out, fewL, Bool.and_eq_false_iff]
            right
            rw [List.all_eq_false]
            exact ⟨ls[j], List.getElem_mem hjl, by rw [hm, decide_eq_true_eq]; omega⟩
          clear hrow hm hm20
          go_wp2
          go_ret
          exact ⟨ret_bool HF.out.symm, rfl⟩
        · have h2 : decide ((20 : Int) < (m : Int)) = false := by rw [decide_eq_false_iff_not]; omega
          have hT2 : Hid (∀ l ∈ ls.take (j + 1), l.length ≤ 20) := by
            show ∀ l ∈ _, _
            intro l hl
            rw [List.take_succ_eq_append_getElem hjl] at hl
            rcases List.mem_append.1 hl with hl | hl
            · exact hT.out l hl
            · obtain rfl := List.mem_singleton.1 hl
              omega
          clear hrow hm hm20
          go_wp2
          go_roundw
          case rel => exact ⟨j + 1, by omega, by go_num, hT2, by first | exact Lib.hid rfl | exact Lib.hid trivial⟩
          case measure => simp [intOf]; omega
      · obtain rfl : j = n := by omega
        have HF : Hid (B = true) := by
          show _ = _
          rw [← hB.out, fewL_iff]
          exact ⟨by rw [HL.out]; omega, fun l hl => hT.out l (by rw [List.take_of_length_le (by rw [HL.out]; exact Nat.le_refl _)]; exact hl)⟩
        go_wp2
        go_ret
        exact ⟨ret_bool HF.out.symm, rfl⟩
/-! ### New, Len, Lost -/
theorem newL_no (most : Int) (w : World) (h : most < 0 ∨ 100 < most) :
    Calls Tryd.prog 7 #[.int .i64 most] w fun en w' => en = .returned (.tuple #[.pointer none, .int .i64 22]) ∧ w = w' := by
  rcases h with h | h
  · have h1 : decide (most < 0) = true := by rw [decide_eq_true_eq]; exact h
    go_enter Tryd.func7, Tryd.ntmps7
    go_wp2
    go_ret2
    exact ⟨rfl, rfl⟩
  · have h1 : decide (most < 0) = false := by rw [decide_eq_false_iff_not]; omega
    have h2 : decide (100 < most) = true := by rw [decide_eq_true_eq]; exact h
    go_enter Tryd.func7, Tryd.ntmps7
    go_wp2
    go_ret2
    exact ⟨rfl, rfl⟩
set_option maxHeartbeats 800000 in
theorem newL_c (most : Nat) (w : World) (h : most ≤ 100) :
    Calls Tryd.prog 7 #[.int .i64 (most : Int)] w fun en w' => ∃ g rg, en = .returned (.tuple #[.pointer (some ⟨g, 0, none⟩), .int .i64 0]) ∧ LAt w' g rg most [] ∧ w.heap.size ≤ g ∧ w.heap.size ≤ rg ∧ Below w.heap.size w w' := by
  obtain ⟨i0, hi, hz0, hz1, hz2⟩ := info_parts infoRowC
  have b2 : i0.bytes * most ≤ 281474976710656 := by rw [hz2]; omega
  have b3 : most ≤ maxLen := by unfold maxLen; omega
  have h1 : decide ((most : Int) < 0) = false := by rw [decide_eq_false_iff_not]; omega
  have h2 : decide ((100 : Int) < (most : Int)) = false := by rw [decide_eq_false_iff_not]; omega
  go_enter Tryd.func7, Tryd.ntmps7
  go_wp2_with (at_make; refine wpList_make_full _ rfl (.tmp 10) (.tmp 10) 22 rfl w.heap.size 31 i0 (.slice none 0 0) 1 Tryd.underlying22 hi hz0 hz1 .i64 .i64 _ _ most rfl rfl rfl rfl b2 b3 (Nat.le_refl _) ?_; intro w1 hown hgrow)
  go_ret2
  have hb1 : Below w.heap.size w w1 := ⟨hgrow.os, hgrow.tape, hgrow.output, hgrow.size, fun i hi => hgrow.block i hi (by simp)⟩
  obtain ⟨hB, _⟩ := own_blk hown
  have hlen := hown.1
  have e1 : min ([] : List (List CellV)).length most = 0 := by simp
  have e2 : ([] : List (List CellV)).length - most = 0 := by simp
  refine ⟨w1.heap.size, w.heap.size, rfl, ⟨⟨0, by rw [e1, e2]; exact Blk.new w1 _ [.slice (some ⟨w.heap.size, 0, none⟩) most most, .int .i64 0, .int .i64 0, .int .i64 0], fun _ => by simp⟩, ⟨_, hB.alloc _, by omega, fun k hk => by simp at hk⟩, ?_⟩, hb1.size, Nat.le_refl _, hb1.alloc hb1.size _⟩
  have := hB.lt
  omega
section
variable (w : World) (g rg most : Nat) (all : List (List CellV))
theorem lenL_c (h : LAt w g rg most all) : Calls Tryd.prog 10 #[.pointer (some ⟨g, 0, none⟩)] w fun en w' => en = .returned (.int .i64 ((min all.length most : Nat) : Int)) ∧ w = w' := by
  obtain ⟨nx, hb, _⟩ := h.box
  have c2 : w.cell? ⟨g, 2, none⟩ = _ := hb.cell 2
  simp only [List.getElem?_cons_zero, List.getElem?_cons_succ] at c2
  generalize min all.length most = z at c2 ⊢
  clear hb h
  go_enter Tryd.func10, Tryd.ntmps10
  go_wp2
  go_ret
  exact ⟨rfl, rfl⟩
theorem lostL_c (h : LAt w g rg most all) : Calls Tryd.prog 11 #[.pointer (some ⟨g, 0, none⟩)] w fun en w' => en = .returned (.int .i64 ((all.length - most : Nat) : Int)) ∧ w = w' := by
  obtain ⟨nx, hb, _⟩ := h.box
  have c3 : w.cell? ⟨g, 3, none⟩ = _ := hb.cell 3
  simp only [List.getElem?_cons_zero, List.getElem?_cons_succ] at c3
  generalize all.length - most = z at c3 ⊢
  clear hb h
  go_enter Tryd.func11, Tryd.ntmps11
  go_wp2
  go_ret
  exact ⟨rfl, rfl⟩
end
end Go.Proofs.YtdldffgdipedpaaDoor
