/- What slices.Repeat of one cell does, and Right, Same, New, Of of package grid, as walks through the translated text. Conditions: slices read as lists of cells, at most 7920 of them are made. -/
import Derived.Test.YtgmfmhlboehdoaaGrid3
import Derived.Test.YtgmfmhlboehdoaaShelf
namespace Go.Proofs.Ytgmfmhlboehdoaa
open Go.ChangeShapes Go.WideShapes Go.RowKit
theorem bel_none {w w' : World} (h : w.grownBy w' none) : Below w.heap.size w w' := ⟨h.os, h.tape, h.output, h.size, fun i hi => h.block i hi (by simp)⟩
theorem made_tab (N : Nat) : (madeCells (Value.agg #[.int .i32 0, .int .i64 0, .int .i64 0, .int .i64 0]).cells (N * 4)).toList = (tab N fun _ => (0, 0, 0, 0)).flatMap cellV := by
  apply List.ext_getElem?
  intro p
  have hl : ((tab N fun _ => (0, 0, 0, 0)).flatMap cellV).length = N * 4 := by rw [length_flatF length_cellV, length_tab]
  rcases Nat.lt_or_ge p (N * 4) with h | h
  · have e : p = p / 4 * 4 + p % 4 := by omega
    have h1 := flatF_at length_cellV (tab N fun _ => (0, 0, 0, 0)) (p / 4) (p % 4) (by rw [length_tab]; omega) (by omega)
    rw [← e, tab_get] at h1
    rw [h1]
    have h2 : p % 4 < 4 := by omega
    simp only [madeCells, Value.cells, Array.getElem?_toList, Array.getElem?_map, Array.getElem?_range, h, if_true, Option.map_some]
    show some (_ : Value) = _
    generalize hq : p % 4 = q at h2
    rcases (by omega : q = 0 ∨ q = 1 ∨ q = 2 ∨ q = 3) with rfl | rfl | rfl | rfl <;> simp [cellV]
  · rw [List.getElem?_eq_none (by simpa [size_madeCells] using h), List.getElem?_eq_none (by rw [hl]; exact h)]
/-- The loop's: the first p cells are c. -/
structure Rep (w wr : World) (g N p : Nat) (c z : CellV) : Prop where
  row : RowAt wr g 38 N (fun i => if i < p then c else z)
  bel : Below w.heap.size w wr
set_option maxHeartbeats 1600000 in
theorem repeat_c (ad : Addr) (N : Nat) (c : CellV) (w : World) (hr : ReadsS cellV 4 w (some ad) 1 1 (tab 1 fun _ => c)) (h1 : 1 ≤ N) (hN : N ≤ 7920) :
    Calls Try.prog 28 #[.slice (some ad) 1 1, .int .i64 N] w (ClonePost w N fun _ => c) := by
  obtain ⟨i0, hi, hz0, hz1, hz2⟩ := info_parts infoC
  have hM : Hid (∀ w, Calls Try.prog 53 #[.int .u64 1, .int .u64 N] w fun e w' => e = .returned (.tuple #[.int .u64 0, .int .u64 N]) ∧ w' = w) := by
    intro w
    have h := Try.bits_Mul 1 N (by omega) (by omega) w
    rw [show 1 * N / 18446744073709551616 = 0 by omega, show 1 * N % 18446744073709551616 = N by omega] at h
    exact h
  have HR := Lib.hid hr
  clear hr
  have e1 : IntKind.u64.wrap (N : Int) = (N : Int) := by rw [IntKind.wrap_u64]; omega
  have e2 : IntKind.i64.wrap (N : Int) = (N : Int) := by rw [IntKind.wrap_i64]; omega
  have n0 : decide ((N : Int) < 0) = false := by rw [decide_eq_false_iff_not]; omega
  have n1 : decide ((9223372036854775807 : Int) < (N : Int)) = false := by rw [decide_eq_false_iff_not]; omega
  go_enter Try.func28, Try.ntmps28
  go_wp2_with fail
  refine (hM.out _).mono ?_
  rintro en w' ⟨rfl, e⟩
  obtain rfl : w = w' := e.symm
  go_wp2_with (first
    | (at_make; refine wpList_make_full _ rfl (.tmp 29) (.tmp 29) 29 rfl w.heap.size 38 i0 _ 4 Try.underlying29 hi hz0 hz1 .i64 .i64 _ _ N rfl rfl rfl rfl (by rw [hz2]; omega) (by unfold maxLen; omega) (Nat.le_refl _) ?_; intro w1 hown hgrow; rw [made_tab] at hown; obtain ⟨g, cap, eg, _, _, _, hrow⟩ := row_of_own hown h1; cases eg; have HO := Lib.hid hrow; have HG := Lib.hid hgrow; clear hown hgrow hrow)
    | ((with_reducible refine at_copy ?_); refine wpList_copyK rfl (.tmp 31) (.tmp 32) 29 29 rfl 38 Try.underlying29 sizeC (some ⟨w.heap.size, 0, none⟩) (some ad) N N 1 1 1 rfl rfl (by show _ = min _ _; omega) w.heap.size 0 N 38 _ (fun _ => c) HO.out (by omega) (fun _ => rfl) (HR.out.keep (bel_none HG.out)) ?_; intro w2 hb2 hg2; have HB2 := Lib.hid hb2; have HG2 := Lib.hid hg2; clear hb2 hg2))
  have hrep : Rep w w2 w.heap.size N 1 c (0, 0, 0, 0) := ⟨HB2.out.congr (fun i _ => by
    by_cases e : i < 1
    · rw [if_pos e, if_pos (by omega)]
    · rw [if_neg e, if_neg (by omega)]), (bel_none HG.out).grown HG2.out (by have := (bel_none HG.out).size; omega) (fun x hx => by cases hx; exact Nat.le_refl _)⟩
  have HREP := Lib.hid hrep
  clear hrep HB2 HG2 HO HG HR hM
  go_wp2
  go_loopw [8] (fun i wr => ∃ p : Nat, 1 ≤ p ∧ p ≤ N ∧ i = .int .i64 p ∧ Hid (Rep w wr w.heap.size N p c (0, 0, 0, 0))) (fun i _ => N - (intOf i).toNat)
  case atStart => exact ⟨1, Nat.le_refl _, h1, rfl, HREP⟩
  case round =>
    obtain ⟨p, hp1, hp, rfl, hM⟩ := hrel
    by_cases hlt : p < N
    · have hlt2 : (p : Int) < (N : Int) := by omega
      have hp0 : (0 : Int) ≤ (p : Int) := by omega
      have hpN : (p : Int) ≤ (N : Int) := by omega
      have hne : ¬ N = p := by omega
      go_upto_region 9 with (fail)
      obtain ⟨k, hk⟩ : ∃ k, k = Nat.min p (N - p) := ⟨_, rfl⟩
      have hk2 : k ≤ p ∧ k ≤ N - p ∧ 1 ≤ k ∧ (k = p ∨ k = N - p) := by replace hk : k = min p (N - p) := hk; omega
      obtain ⟨hk2, hk3, hk4, hk5⟩ := hk2
      have HK := Lib.hid hk
      clear hk
      have HK5 := Lib.hid hk5
      clear hk5
      refine wp_region_any (by kernel_rfl) ?_
      change wpAny _ _ _ _ _ _ _ (World.drew _)
      refine wpAny_take (i := 0) (oi := ⟨some 38, .move (.tmp 8), _, _, _, _⟩) (v := ?_) rfl (by kernel_rfl) (by kernel_rfl) (by kernel_rfl) (fun _ _ _ h => h) (Or.inl ⟨by rfl, ?_⟩) ?_
      rotate_left
      · intro W; go_simp; try with_reducible rfl
      simp only [Act.put, List.setIfInBounds_toArray, List.set_cons_zero, List.set_cons_succ]
      refine wpAny_take (i := 1) (oi := ⟨some 39, .move (.tmp 7), _, _, _, _⟩) (v := ?_) rfl (by kernel_rfl) (by kernel_rfl) (by kernel_rfl) (fun _ _ _ h => h) (Or.inl ⟨by rfl, ?_⟩) ?_
      rotate_left
      · intro W; go_simp; try with_reducible rfl
      simp only [Act.put, List.setIfInBounds_toArray, List.set_cons_zero, List.set_cons_succ]
      refine wpAny_take (i := 2) (oi := ⟨some 40, .move (.tmp 8), _, _, _, _⟩) (v := ?_) rfl (by kernel_rfl) (by kernel_rfl) (by kernel_rfl) (fun _ _ _ h => h) (Or.inl ⟨by rfl, ?_⟩) ?_
      rotate_left
      · intro W; go_simp; try with_reducible rfl
      simp only [Act.put, List.setIfInBounds_toArray, List.set_cons_zero, List.set_cons_succ]
      refine wpAny_take (i := 3) (oi := ⟨some 41, .slice 29 (.tmp 39) (some (.tmp 40)) none none, _, _, _, _⟩) (v := ?_) rfl (by kernel_rfl) (by kernel_rfl) (by kernel_rfl) (fun _ _ _ h => h) (Or.inl ⟨by rfl, ?_⟩) ?_
      rotate_left
      · intro W; go_simp; try with_reducible rfl
      simp only [Act.put, List.setIfInBounds_toArray, List.set_cons_zero, List.set_cons_succ]
      refine wpAny_take (i := 4) (oi := ⟨some 42, .move (.tmp 7), _, _, _, _⟩) (v := ?_) rfl (by kernel_rfl) (by kernel_rfl) (by kernel_rfl) (fun _ _ _ h => h) (Or.inl ⟨by rfl, ?_⟩) ?_
      rotate_left
      · intro W; go_simp; try with_reducible rfl
      simp only [Act.put, List.setIfInBounds_toArray, List.set_cons_zero, List.set_cons_succ]
      refine wpAny_take (i := 5) (oi := ⟨some 43, .move (.tmp 8), _, _, _, _⟩) (v := ?_) rfl (by kernel_rfl) (by kernel_rfl) (by kernel_rfl) (fun _ _ _ h => h) (Or.inl ⟨by rfl, ?_⟩) ?_
      rotate_left
      · intro W; go_simp; try with_reducible rfl
      simp only [Act.put, List.setIfInBounds_toArray, List.set_cons_zero, List.set_cons_succ]
      refine wpAny_take (i := 6) (oi := ⟨some 44, .slice 29 (.tmp 42) none (some (.tmp 43)) none, _, _, _, _⟩) (v := ?_) rfl (by kernel_rfl) (by kernel_rfl) (by kernel_rfl) (fun _ _ _ h => h) (Or.inl ⟨by rfl, ?_⟩) ?_
      rotate_left
      · intro W; go_simp; try with_reducible rfl
      simp only [Act.put, List.setIfInBounds_toArray, List.set_cons_zero, List.set_cons_succ]
      refine wpAny_ready (rs := [7]) (by kernel_rfl) (by simp) (AllReady.cons (o := ⟨some 45, .call { callee := .builtin .copy, args := #[.tmp 41, .tmp 44], argTypes := #[29, 29] }, _, _, _, _⟩) rfl (fun K hK => ?_) AllReady.nil)
      refine step_copyK rfl (.tmp 41) (.tmp 44) 29 29 rfl 38 Try.underlying29 sizeC (some ⟨w.heap.size, p * 4, none⟩) (some ⟨w.heap.size, 0, none⟩) (N - p) (N - p) p N k rfl rfl HK.out w.heap.size p N 38 _ (fun _ => c) (hM.out.row.of_heap rfl) (by omega) (fun _ => rfl) ?_ ?_
      · have h := (hM.out.row.of_heap (w' := wr.drew) rfl).reads 0 k N (by omega) (by omega) (by unfold maxLen; omega) (A := some ⟨w.heap.size, 0, none⟩) (fun _ => rfl)
        rw [show (tab k fun i => if 0 + i < p then c else ((0, 0, 0, 0) : CellV)) = tab k fun _ => c from tab_congr (fun i hi => by rw [if_pos (by omega)])] at h
        exact h
      intro w2 hb2 hg2
      refine hK _ _ ?_
      clear hK K
      simp only [Act.put, List.setIfInBounds_toArray, List.set_cons_zero, List.set_cons_succ]
      have es : IntKind.i64.wrap ((p : Int) + (k : Int)) = ((p + k : Nat) : Int) := by rw [IntKind.wrap_i64]; omega
      refine wpAny_take (i := 8) (oi := ⟨some 46, .binOp .add 3 (.tmp 38) (.tmp 45) 3, _, _, _, _⟩) (v := ?_) rfl (by kernel_rfl) (by kernel_rfl) (by kernel_rfl) (fun _ _ _ h => h) (Or.inl ⟨by rfl, ?_⟩) ?_
      rotate_left
      · intro W; go_simp; try with_reducible rfl
      simp only [Act.put, List.setIfInBounds_toArray, List.set_cons_zero, List.set_cons_succ]
      refine wpAny_take (i := 9) (oi := ⟨some 8, .assign (.tmp 46), _, _, _, _⟩) (v := ?_) rfl (by kernel_rfl) (by kernel_rfl) (by kernel_rfl) (fun _ _ _ h => h) (Or.inl ⟨by rfl, ?_⟩) ?_
      rotate_left
      · intro W; go_simp; try with_reducible rfl
      simp only [Act.put, List.setIfInBounds_toArray, List.set_cons_zero, List.set_cons_succ]
      refine wpAny_done (by kernel_rfl) ?_ _
      clear es
      go_wp2
      go_roundw
      case rel =>
        refine ⟨p + k, by omega, by omega, by go_num, hb2.congr (fun i _ => ?_), (hM.out.bel.drew).grown hg2 (by have := hM.out.bel.size; simpa using this) (fun x hx => by cases hx; exact Nat.le_refl _)⟩
        by_cases h1 : i < p
        · rw [if_neg (by omega), if_pos h1, if_pos (by omega)]
        · by_cases h2 : i < p + k
          · rw [if_pos (by omega), if_pos h2]
          · rw [if_neg (by omega), if_neg h1, if_neg h2]
      case measure => simp [intOf]; omega
    · obtain rfl : p = N := by omega
      go_wp2
      go_ret
      exact ⟨_, _, rfl, Nat.le_refl _, Nat.le_refl _, by unfold maxLen; omega, hM.out.row.congr (fun i hi => by rw [if_pos hi]), hM.out.bel⟩
end Go.Proofs.Ytgmfmhlboehdoaa
