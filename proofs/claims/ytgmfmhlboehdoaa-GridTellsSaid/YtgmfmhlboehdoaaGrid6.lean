/- What Same, Of and a board's Row, At, Rows, Cols of package grid do, as walks through the translated text. Conditions: slices read as lists of cells, at most 2^40 of them are made; a board lies in memory of its own. -/
import Derived.Test.YtgmfmhlboehdoaaGrid5
namespace Go.Proofs.Ytgmfmhlboehdoaa
open Go.ChangeShapes Go.WideShapes Go.RowKit
set_option maxHeartbeats 1600000 in
theorem gsame_c (r c : Int) (A : Option Addr) (n k : Nat) (l : List CellV) (r' c' : Int) (A' : Option Addr) (n' k' : Nat) (l' : List CellV) (w : World) (hr : ReadsS cellV 4 w A n k l) (hr' : ReadsS cellV 4 w A' n' k' l') : Calls Try.prog 16 #[.agg (gridV r c A n k).toArray, .agg (gridV r' c' A' n' k').toArray] w (BoolPost w (sameG r c l r' c' l')) := by
  obtain ⟨B, hB⟩ : ∃ B, Hid (sameG r c l r' c' l' = B) := ⟨_, rfl⟩
  rw [hB.out]
  have hS : Hid (B = decide (r = r' ∧ c = c' ∧ l = l')) := by show _ = _; rw [← hB.out]; rfl
  have HR := Lib.hid hr
  have HR' := Lib.hid hr'
  clear hr hr' hB
  simp only [gridV_list]
  go_enter Try.func16, Try.ntmps16
  go_upto_region 1 with (fail)
  refine name_wp (fun w1 => Blk w1 w.heap.size 31 (gridV r c A n k) ∧ Blk w1 (w.heap.size + 1) 31 (gridV r' c' A' n' k') ∧ Below w.heap.size w w1) ⟨(Blk.new _ _ _).alloc _, newAt _ _ (by simp), (alloc_below' _ _).alloc (by simp) _⟩ ?_
  rintro w1 ⟨hb1, hb2, hbel1⟩
  obtain ⟨c0, c1, c2⟩ := boxG hb1
  obtain ⟨d0, d1, d2⟩ := boxG hb2
  have HBel := Lib.hid hbel1
  have HR1 := Lib.hid (HR.out.keep hbel1)
  have HR1' := Lib.hid (HR'.out.keep hbel1)
  clear hb1 hb2 hbel1
  by_cases h1 : r = r'
  · have e1 : (r == r') = true := by simpa using h1
    by_cases h2 : c = c'
    · have e2 : (c == c') = true := by simpa using h2
      have HE := Lib.hid (equal_c A A' n k n' k' l l' w1 HR1.out HR1'.out)
      have HD : Hid (B = decide (l = l')) := by show _ = _; rw [hS.out]; exact decide_eq_decide.2 (by simp [h1, h2])
      rw [← HD.out] at HE
      have H1 := Lib.hid h1
      have H2 := Lib.hid h2
      clear h1 h2
      go_wp2_with fail
      refine HE.out.mono ?_
      rintro en w2 ⟨rfl, kk, rfl⟩
      go_wp2
      go_ret
      exact ⟨rfl, belowDrewN HBel.out _⟩
    · have e2 : (c == c') = false := by simpa using h2
      have hb : B = false := by rw [hS.out, decide_eq_false_iff_not]; exact fun h => h2 h.2.1
      subst hb
      have H1 := Lib.hid h1
      clear h1 h2
      go_wp2
      go_ret
      exact ⟨rfl, HBel.out⟩
  · have e1 : (r == r') = false := by simpa using h1
    have hb : B = false := by rw [hS.out, decide_eq_false_iff_not]; exact fun h => h1 h.1
    subst hb
    clear h1
    go_wp2
    go_ret
    exact ⟨rfl, HBel.out⟩
def OfPost (w : World) (r c : Int) (l : List CellV) (en : Ending) (w' : World) : Prop :=
  (rightG r c l = false ∧ en = .returned (.tuple #[.pointer none, .int .i64 22]) ∧ Below w.heap.size w w') ∨
  (rightG r c l = true ∧ ∃ R C b g : Nat, r = R ∧ c = C ∧ l.length = R * C ∧ en = .returned (.tuple #[.pointer (some ⟨b, 0, none⟩), .int .i64 0]) ∧ NewBoard w w' b g R C fun i => l.getD i (0, 0, 0, 0))
theorem right_parts {r c : Int} {l : List CellV} (h : rightG r c l = true) : ∃ R C : Nat, r = R ∧ c = C ∧ (1 ≤ R ∧ R ≤ 60) ∧ (1 ≤ C ∧ C ≤ 132) ∧ l.length = R * C ∧ ∀ i, i < R * C → okC (l.getD i (0, 0, 0, 0)) = true := by
  simp only [rightG, Bool.and_eq_true, decide_eq_true_eq, List.all_eq_true] at h
  obtain ⟨⟨h1, h2⟩, h3⟩ := h
  obtain ⟨R, C, rfl, rfl, hR, hC⟩ := sizeOk_iff h1
  have hl : l.length = R * C := by rw [← Int.natCast_mul] at h2; omega
  refine ⟨R, C, rfl, rfl, hR, hC, hl, fun i hi => ?_⟩
  have hi' : i < l.length := by omega
  rw [List.getD_eq_getElem?_getD, List.getElem?_eq_getElem hi']
  exact h3 _ (List.getElem_mem hi')
set_option maxHeartbeats 1600000 in
theorem of_c (r c : Int) (A : Option Addr) (n k : Nat) (l : List CellV) (w : World) (hr : ReadsS cellV 4 w A n k l) (hn : n ≤ 1099511627776) : Calls Try.prog 15 #[.agg (gridV r c A n k).toArray] w (OfPost w r c l) := by
  have HR := Lib.hid hr
  have HLen := Lib.hid hr.len
  clear hr
  cases hG : rightG r c l with
  | false =>
    have HG := Lib.hid hG
    clear hG
    simp only [gridV_list]
    go_enter Try.func15, Try.ntmps15
    go_upto_region 1 with (fail)
    refine name_wp (fun w1 => Blk w1 w.heap.size 31 (gridV r c A n k) ∧ Below w.heap.size w w1) ⟨Blk.new _ _ _, alloc_below' _ _⟩ ?_
    rintro w1 ⟨hb1, hbel1⟩
    have HBel := Lib.hid hbel1
    have HR1 := Lib.hid (HR.out.keep hbel1)
    obtain ⟨c0, c1, c2⟩ := boxG hb1
    clear hb1 hbel1
    go_wp2_with fail
    refine (gright_c r c A n k l w1 HR1.out).mono ?_
    rw [HG.out]
    rintro en w2 ⟨rfl, hb2⟩
    have HB2 := Lib.hid hb2
    clear hb2 c0 c1 c2
    go_wp2
    go_ret2
    exact .inl ⟨HG.out, rfl, HBel.out.trans (HB2.out.mono HBel.out.size)⟩
  | true =>
    obtain ⟨R, C, rfl, rfl, hR, hC, hl, hok⟩ := right_parts hG
    have HG := Lib.hid hG
    have HRR := Lib.hid hR
    have HCC := Lib.hid hC
    have Hl := Lib.hid hl
    have Hok := Lib.hid hok
    have hs1 : 1 ≤ n := by rw [← HLen.out, hl]; exact Nat.mul_pos hR.1 hC.1
    obtain ⟨ad, rfl, hadlt⟩ := HR.out.pos hs1
    clear hG hR hC hl hok
    simp only [gridV_list]
    go_enter Try.func15, Try.ntmps15
    go_upto_region 1 with (fail)
    refine name_wp (fun w1 => Blk w1 w.heap.size 31 (gridV R C (some ad) n k) ∧ Below w.heap.size w w1) ⟨Blk.new _ _ _, alloc_below' _ _⟩ ?_
    rintro w1 ⟨hb1, hbel1⟩
    have HBel := Lib.hid hbel1
    have HB1 := Lib.hid hb1
    have HR1 := Lib.hid (HR.out.keep hbel1)
    obtain ⟨c0, c1, c2⟩ := boxG hb1
    clear hb1 hbel1
    go_wp2_with fail
    refine (gright_c R C (some ad) n k l w1 HR1.out).mono ?_
    rw [HG.out]
    rintro en w2 ⟨rfl, hb2⟩
    have HB2 := Lib.hid (HBel.out.trans (hb2.mono HBel.out.size))
    obtain ⟨d0, d1, d2⟩ := boxG (HB1.out.below hb2 HB1.out.lt)
    have hr2 := HR1.out.keep hb2
    rw [tab_of l, HLen.out] at hr2
    have HR2 := Lib.hid hr2
    clear hb2 c0 c1 c2 hr2
    go_wp2_with fail
    refine (separate_c R C ad n k _ w2 HR2.out hs1 hn).mono ?_
    rintro en w3 ⟨g, cap, rfl, hn3⟩
    have HN3 := Lib.hid hn3
    clear hn3 d0 d1 d2
    simp only [gridV_list]
    go_wp2
    go_ret2
    refine .inr ⟨HG.out, R, C, w3.heap.size, g, rfl, rfl, Hl.out, rfl, ?_⟩
    have hb3 : Below w.heap.size w w3 := HB2.out.trans (HN3.out.bel.mono HB2.out.size)
    have hrow := HN3.out.row
    have hroom := HN3.out.room
    obtain rfl : n = R * C := by rw [← HLen.out, Hl.out]
    exact ⟨hb3.size, Nat.le_trans HB2.out.size HN3.out.new, boxed HRR.out HCC.out hrow hroom HN3.out.cap Hok.out, hb3.alloc hb3.size _⟩
set_option maxHeartbeats 800000 in
theorem rows_c (b g R C : Nat) (f : Nat → CellV) (w : World) (h : BAt w b g R C f) : Calls Try.prog 17 #[.pointer (some ⟨b, 0, none⟩)] w fun en w' => en = .returned (.int .i64 R) ∧ w = w' := by
  obtain ⟨cap, _, _, c0, c1, c2⟩ := h.three
  clear h
  go_enter Try.func17, Try.ntmps17
  go_wp2
  go_ret
  exact ⟨rfl, rfl⟩
set_option maxHeartbeats 800000 in
theorem cols_c (b g R C : Nat) (f : Nat → CellV) (w : World) (h : BAt w b g R C f) : Calls Try.prog 18 #[.pointer (some ⟨b, 0, none⟩)] w fun en w' => en = .returned (.int .i64 C) ∧ w = w' := by
  obtain ⟨cap, _, _, c0, c1, c2⟩ := h.three
  clear h
  go_enter Try.func18, Try.ntmps18
  go_wp2
  go_ret
  exact ⟨rfl, rfl⟩
end Go.Proofs.Ytgmfmhlboehdoaa
