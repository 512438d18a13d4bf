/- What a board of package grid is in memory, and what its small functions tell, as walks through the translated text. Conditions: the board lies in memory of its own, numbers fit their types. -/
import Derived.Test.YtgmfmhlboehdoaaGrid0
import Derived.Test.YtgmfmhlboehdoaaCell2
import Derived.WalkLawsBesides
namespace Go.Proofs.Ytgmfmhlboehdoaa
open Go.ChangeShapes Go.WideShapes Go.RowKit
def sizeOk (r c : Int) : Bool := decide (1 ≤ r ∧ r ≤ 60 ∧ 1 ≤ c ∧ c ≤ 132)
def hasB (R C : Nat) (r c : Int) : Bool := decide (0 ≤ r ∧ r < R ∧ 0 ≤ c ∧ c < C)
def spansB (R : Nat) (t b : Int) : Bool := decide (0 ≤ t ∧ b < R ∧ t ≤ b)
def movesB (n : Int) (c : CellV) : Bool := decide (1 ≤ n) && okC c
/-- At block b lies a board of R rows and C columns, its cells in block g, the cell at place i being f i. -/
structure BAt (w : World) (b g : Nat) (R C : Nat) (f : Nat → CellV) : Prop where
  box : ∃ cap, Blk w b 61 [.int .i64 R, .int .i64 C, .slice (some ⟨g, 0, none⟩) (R * C) cap] ∧ R * C ≤ cap ∧ cap ≤ maxLen
  row : RowAt w g 38 (R * C) f
  ne : g ≠ b
  rows : 1 ≤ R ∧ R ≤ 60
  cols : 1 ≤ C ∧ C ≤ 132
  ok : ∀ i, i < R * C → okC (f i) = true
section
variable {w w' : World} {b g R C : Nat} {f : Nat → CellV}
theorem BAt.of_heap (h : BAt w b g R C f) (e : w'.heap = w.heap) : BAt w' b g R C f := by
  obtain ⟨cap, hb, h1⟩ := h.box
  exact ⟨⟨cap, hb.of_heap e, h1⟩, h.row.of_heap e, h.ne, h.rows, h.cols, h.ok⟩
theorem BAt.chg {F : Nat → Prop} (h : BAt w b g R C f) (k : Chg F w w') (hb : ¬ F b) (hg : ¬ F g) : BAt w' b g R C f := by
  obtain ⟨cap, hx, h1⟩ := h.box
  exact ⟨⟨cap, hx.chg k hb, h1⟩, h.row.chg k hg, h.ne, h.rows, h.cols, h.ok⟩
theorem BAt.below (h : BAt w b g R C f) (k : Below w.heap.size w w') : BAt w' b g R C f := h.chg (F := fun _ => False) (Chg.of_below k) (fun h => h) (fun h => h)
theorem BAt.turn {f' : Nat → CellV} (h : BAt w b g R C f) (k : Chg (fun i => i = g) w w') (hr : RowAt w' g 38 (R * C) f') (ho : ∀ i, i < R * C → okC (f' i) = true) : BAt w' b g R C f' := by
  obtain ⟨cap, hx, h1⟩ := h.box
  exact ⟨⟨cap, hx.chg k (fun e => h.ne e.symm), h1⟩, hr, h.ne, h.rows, h.cols, ho⟩
theorem BAt.blt (h : BAt w b g R C f) : b < w.heap.size := by obtain ⟨cap, hb, _⟩ := h.box; exact hb.lt
theorem BAt.glt (h : BAt w b g R C f) : g < w.heap.size := h.row.lt
theorem BAt.size (h : BAt w b g R C f) : 1 ≤ R * C ∧ R * C ≤ 7920 := by
  obtain ⟨h1, h2⟩ := h.rows
  obtain ⟨h3, h4⟩ := h.cols
  exact ⟨Nat.mul_pos h1 h3, Nat.mul_le_mul h2 h4⟩
/-- The three cells of the board's block, as walks spell them. -/
theorem BAt.three (h : BAt w b g R C f) : ∃ cap, R * C ≤ cap ∧ cap ≤ maxLen ∧ w.cell? ⟨b, 0, none⟩ = some (.int .i64 R) ∧ w.cell? ⟨b, 1, none⟩ = some (.int .i64 C) ∧ w.cell? ⟨b, 2, none⟩ = some (.slice (some ⟨g, 0, none⟩) (R * C) cap) := by
  obtain ⟨cap, hb, h1, h2⟩ := h.box
  exact ⟨cap, h1, h2, hb.cell 0, hb.cell 1, hb.cell 2⟩
end
set_option maxHeartbeats 800000 in
theorem fits_c (r c : Int) (w : World) : Calls Try.prog 27 #[.int .i64 r, .int .i64 c] w fun en w' => en = .returned (.bool (sizeOk r c)) ∧ w = w' := by
  obtain ⟨B, hB⟩ : ∃ B, Hid (sizeOk r c = B) := ⟨_, rfl⟩
  rw [hB.out]
  have hS : Hid (B = decide (1 ≤ r ∧ r ≤ 60 ∧ 1 ≤ c ∧ c ≤ 132)) := by show _ = _; rw [← hB.out]; rfl
  clear hB
  by_cases h1 : 1 ≤ r
  · by_cases h2 : r ≤ 60
    · by_cases h3 : 1 ≤ c
      · by_cases h4 : c ≤ 132
        · go_enter Try.func27, Try.ntmps27
          go_wp2
          go_ret
          exact ⟨ret_bool (by rw [hS.out]; symm; rw [decide_eq_true_eq]; omega), rfl⟩
        · have g4 : decide (c ≤ 132) = false := by simpa using h4
          go_enter Try.func27, Try.ntmps27
          go_wp2
          go_ret
          exact ⟨ret_bool (by rw [hS.out]; symm; rw [decide_eq_false_iff_not]; omega), rfl⟩
      · have g3 : decide (1 ≤ c) = false := by simpa using h3
        go_enter Try.func27, Try.ntmps27
        go_wp2
        go_ret
        exact ⟨ret_bool (by rw [hS.out]; symm; rw [decide_eq_false_iff_not]; omega), rfl⟩
    · have g2 : decide (r ≤ 60) = false := by simpa using h2
      go_enter Try.func27, Try.ntmps27
      go_wp2
      go_ret
      exact ⟨ret_bool (by rw [hS.out]; symm; rw [decide_eq_false_iff_not]; omega), rfl⟩
  · have g1 : decide (1 ≤ r) = false := by simpa using h1
    go_enter Try.func27, Try.ntmps27
    go_wp2
    go_ret
    exact ⟨ret_bool (by rw [hS.out]; symm; rw [decide_eq_false_iff_not]; omega), rfl⟩
set_option maxHeartbeats 800000 in
theorem has_c (b g R C : Nat) (f : Nat → CellV) (r c : Int) (w : World) (h : BAt w b g R C f) : Calls Try.prog 43 #[.pointer (some ⟨b, 0, none⟩), .int .i64 r, .int .i64 c] w fun en w' => en = .returned (.bool (hasB R C r c)) ∧ w = w' := by
  obtain ⟨cap, _, _, c0, c1, c2⟩ := h.three
  obtain ⟨B, hB⟩ : ∃ B, Hid (hasB R C r c = B) := ⟨_, rfl⟩
  rw [hB.out]
  have hS : Hid (B = decide (0 ≤ r ∧ r < R ∧ 0 ≤ c ∧ c < C)) := by show _ = _; rw [← hB.out]; rfl
  clear hB h
  by_cases h1 : 0 ≤ r
  · by_cases h2 : r < R
    · by_cases h3 : 0 ≤ c
      · by_cases h4 : c < C
        · go_enter Try.func43, Try.ntmps43
          go_wp2
          go_ret
          exact ⟨ret_bool (by rw [hS.out]; symm; rw [decide_eq_true_eq]; omega), rfl⟩
        · have g4 : decide (c < (C : Int)) = false := by simpa using h4
          go_enter Try.func43, Try.ntmps43
          go_wp2
          go_ret
          exact ⟨ret_bool (by rw [hS.out]; symm; rw [decide_eq_false_iff_not]; omega), rfl⟩
      · have g3 : decide (0 ≤ c) = false := by simpa using h3
        go_enter Try.func43, Try.ntmps43
        go_wp2
        go_ret
        exact ⟨ret_bool (by rw [hS.out]; symm; rw [decide_eq_false_iff_not]; omega), rfl⟩
    · have g2 : decide (r < (R : Int)) = false := by simpa using h2
      go_enter Try.func43, Try.ntmps43
      go_wp2
      go_ret
      exact ⟨ret_bool (by rw [hS.out]; symm; rw [decide_eq_false_iff_not]; omega), rfl⟩
  · have g1 : decide (0 ≤ r) = false := by simpa using h1
    go_enter Try.func43, Try.ntmps43
    go_wp2
    go_ret
    exact ⟨ret_bool (by rw [hS.out]; symm; rw [decide_eq_false_iff_not]; omega), rfl⟩
set_option maxHeartbeats 800000 in
theorem spans_c (b g R C : Nat) (f : Nat → CellV) (t d : Int) (w : World) (h : BAt w b g R C f) : Calls Try.prog 48 #[.pointer (some ⟨b, 0, none⟩), .int .i64 t, .int .i64 d] w fun en w' => en = .returned (.bool (spansB R t d)) ∧ w = w' := by
  obtain ⟨cap, _, _, c0, c1, c2⟩ := h.three
  obtain ⟨B, hB⟩ : ∃ B, Hid (spansB R t d = B) := ⟨_, rfl⟩
  rw [hB.out]
  have hS : Hid (B = decide (0 ≤ t ∧ d < R ∧ t ≤ d)) := by show _ = _; rw [← hB.out]; rfl
  clear hB h
  by_cases h1 : 0 ≤ t
  · by_cases h2 : d < R
    · by_cases h3 : t ≤ d
      · go_enter Try.func48, Try.ntmps48
        go_wp2
        go_ret
        exact ⟨ret_bool (by rw [hS.out]; symm; rw [decide_eq_true_eq]; omega), rfl⟩
      · have g3 : decide (t ≤ d) = false := by simpa using h3
        go_enter Try.func48, Try.ntmps48
        go_wp2
        go_ret
        exact ⟨ret_bool (by rw [hS.out]; symm; rw [decide_eq_false_iff_not]; omega), rfl⟩
    · have g2 : decide (d < (R : Int)) = false := by simpa using h2
      go_enter Try.func48, Try.ntmps48
      go_wp2
      go_ret
      exact ⟨ret_bool (by rw [hS.out]; symm; rw [decide_eq_false_iff_not]; omega), rfl⟩
  · have g1 : decide (0 ≤ t) = false := by simpa using h1
    go_enter Try.func48, Try.ntmps48
    go_wp2
    go_ret
    exact ⟨ret_bool (by rw [hS.out]; symm; rw [decide_eq_false_iff_not]; omega), rfl⟩
end Go.Proofs.Ytgmfmhlboehdoaa
