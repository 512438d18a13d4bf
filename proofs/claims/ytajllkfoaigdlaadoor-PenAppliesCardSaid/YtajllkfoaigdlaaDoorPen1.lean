/- What the functions recolour and change of package pen return, for every pen that may be and every number, as walks through the translated text. Conditions: the two tables of the attributes hold what the program lays there. -/
import Derived.Test.YtajllkfoaigdlaaDoorChecked
import Derived.Test.YtajllkfoaigdlaaDoorPen0
import Derived.Test.YtajllkfoaigdlaaDoorCutI
import Derived.Laws.ResultCell
namespace Go.Proofs.YtajllkfoaigdlaaDoor
open Go.ChangeShapes Go.WideShapes Go.RowKit
/-- The two tables lie as the program's text lays them. -/
def PT (w : World) : Prop := (∀ i, i < 10 → w.cell? ⟨0, i, none⟩ = some (.int .i64 ((setsN.getD i 0 : Nat) : Int))) ∧ (∀ i, i < 30 → w.cell? ⟨1, i, none⟩ = some (.int .i64 ((clrsN.getD i 0 : Nat) : Int)))
theorem PT.lt {w : World} (h : PT w) : 0 < w.heap.size ∧ 1 < w.heap.size := ⟨block_lt_of_cell (h.1 0 (by decide)), block_lt_of_cell (h.2 0 (by decide))⟩
theorem PT.keep {w w' : World} (h : PT w) (hb : Below w.heap.size w w') : PT w' :=
  ⟨fun i hi => (hb.cell (p := ⟨0, i, none⟩) h.lt.1).trans (h.1 i hi), fun i hi => (hb.cell (p := ⟨1, i, none⟩) h.lt.2).trans (h.2 i hi)⟩
theorem PT.of_heap {w w' : World} (h : PT w) (e : w'.heap = w.heap) : PT w' :=
  ⟨fun i hi => by rw [← h.1 i hi]; exact World.cell?_of_block (by rw [e]), fun i hi => by rw [← h.2 i hi]; exact World.cell?_of_block (by rw [e])⟩
set_option maxHeartbeats 800000 in
theorem recolour_c (c : Nat) (n : Int) (w : World) (h1 : -9223372036854775808 ≤ n) (h2 : n ≤ 9223372036854775807) : Calls Tryd.prog 22 #[.int .i64 (c : Int), .int .i64 n] w fun en w' => en = .returned (.int .i64 ((recol c n : Nat) : Int)) ∧ w = w' := by
  have hc : n < 30 ∨ (30 ≤ n ∧ n ≤ 37) ∨ (37 < n ∧ n < 90 ∧ n ≠ 39) ∨ (90 ≤ n ∧ n ≤ 97) ∨ 97 < n ∨ n = 39 := by omega
  rcases hc with h | h | h | h | h | rfl
  · have e : recol c n = c := by unfold recol; rw [if_neg (by omega), if_neg (by omega), if_neg (by omega)]
    rw [e]
    have t1 : decide (30 ≤ n) = false := by simp; omega
    have t2 : decide (90 ≤ n) = false := by simp; omega
    have t3 : (n == 39) = false := by rw [beq_eq_false_iff_ne]; omega
    clear h e
    go_enter Tryd.func22, Tryd.ntmps22
    go_wp2
    go_ret
    exact ⟨rfl, rfl⟩
  · have e : ((recol c n : Nat) : Int) = n - 29 := by unfold recol; rw [if_pos h]; omega
    rw [e]
    have t1 : decide (30 ≤ n) = true := by simp; omega
    have t2 : decide (n ≤ 37) = true := by simp; omega
    obtain ⟨h3, h4⟩ := h
    clear e
    go_enter Tryd.func22, Tryd.ntmps22
    go_wp2
    go_ret
    exact ⟨ret_int (by omega), rfl⟩
  · have e : recol c n = c := by unfold recol; rw [if_neg (by omega), if_neg (by omega), if_neg (by omega)]
    rw [e]
    have t1 : decide (30 ≤ n) = true := by simp; omega
    have t4 : decide (n ≤ 37) = false := by simp; omega
    have t2 : decide (90 ≤ n) = false := by simp; omega
    have t3 : (n == 39) = false := by rw [beq_eq_false_iff_ne]; omega
    clear h e
    go_enter Tryd.func22, Tryd.ntmps22
    go_wp2
    go_ret
    exact ⟨rfl, rfl⟩
  · have e : ((recol c n : Nat) : Int) = n - 81 := by unfold recol; rw [if_neg (by omega), if_pos h]; omega
    rw [e]
    have t1 : decide (30 ≤ n) = true := by simp; omega
    have t4 : decide (n ≤ 37) = false := by simp; omega
    have t2 : decide (90 ≤ n) = true := by simp; omega
    have t3 : decide (n ≤ 97) = true := by simp; omega
    obtain ⟨h3, h4⟩ := h
    clear e
    go_enter Tryd.func22, Tryd.ntmps22
    go_wp2
    go_ret
    exact ⟨ret_int (by omega), rfl⟩
  · have e : recol c n = c := by unfold recol; rw [if_neg (by omega), if_neg (by omega), if_neg (by omega)]
    rw [e]
    have t1 : decide (30 ≤ n) = true := by simp; omega
    have t4 : decide (n ≤ 37) = false := by simp; omega
    have t2 : decide (90 ≤ n) = true := by simp; omega
    have t5 : decide (n ≤ 97) = false := by simp; omega
    have t3 : (n == 39) = false := by rw [beq_eq_false_iff_ne]; omega
    clear h e
    go_enter Tryd.func22, Tryd.ntmps22
    go_wp2
    go_ret
    exact ⟨rfl, rfl⟩
  · go_enter Tryd.func22, Tryd.ntmps22
    go_wp2
    go_ret
    exact ⟨rfl, rfl⟩
def PenPost (w : World) (p : PenN) (en : Ending) (w' : World) : Prop := en = .returned (.agg (penW p).toArray) ∧ Below w.heap.size w w'
theorem below_two (w : World) (o o' : Obj) : Below w.heap.size w ((w.alloc o).alloc o') := ((Below.refl _ _).alloc (Nat.le_refl _) _).alloc (by simp) _
theorem blk_two (w : World) (o : Obj) (t : TypeId) (q : PenN) : Blk ((w.alloc o).alloc (.cells (penW q).toArray t)) (w.heap.size + 1) t (penW q) := by
  have := Blk.new (w.alloc o) t (penW q)
  rwa [World.size_alloc] at this
set_option maxHeartbeats 1600000 in
theorem change_zero (p : PenN) (n : Int) (w : World) (hn : n ≤ 0) : Calls Tryd.prog 15 #[.agg (penW p).toArray, .int .i64 n] w (PenPost w (change p n)) := by
  obtain ⟨f, b, m⟩ := p
  have e : Hid (change (f, b, m) n = (0, 0, 0)) := by show _ = _; unfold change; rw [if_pos hn]
  rw [e.out]
  simp only [penW]
  have t1 : decide (n ≤ 0) = true := by simpa using hn
  go_enter Tryd.func15, Tryd.ntmps15
  go_wp2
  refine bodyPost_ret (v := .agg (penW (0, 0, 0)).toArray) ?_ rfl ⟨rfl, below_two _ _ _⟩
  exact results_cell_row rfl _ _ (w.heap.size + 1) _ _ _ _ rfl (blk_two _ _ _ (0, 0, 0)) Tryd.underlying23 rfl (by kernel_rfl)
set_option maxHeartbeats 1600000 in
theorem change_set (p : PenN) (n : Int) (w : World) (h0 : 0 < n) (h1 : n < 10) (hp : p.ok) (hk : PT w) : Calls Tryd.prog 15 #[.agg (penW p).toArray, .int .i64 n] w (PenPost w (change p n)) := by
  obtain ⟨f, b, m⟩ := p
  obtain ⟨j, rfl⟩ : ∃ j : Nat, n = j := ⟨n.toNat, by omega⟩
  have e : Hid (change (f, b, m) j = (f, b, setM j m)) := by show _ = _; unfold change; rw [if_neg (by omega), if_pos (by omega), Int.toNat_natCast]
  rw [e.out]
  simp only [penW]
  have hj : j < 10 := by omega
  have hb := or_all m hp.2.2 j hj
  have hc := hk.1 j hj
  have hlt := hk.lt.1
  have t1 : decide ((j : Int) ≤ 0) = false ∧ decide (j = 0) = false := by simp; omega
  obtain ⟨t1, t1'⟩ := t1
  have t2 : decide ((j : Int) < 10) = true ∧ decide (j < 10) = true := by simp; omega
  obtain ⟨t2, t3⟩ := t2
  obtain ⟨x, hx⟩ : ∃ x, Hid (setM j m = x) := ⟨_, rfl⟩
  obtain ⟨s, hs⟩ : ∃ s, Hid (setsN.getD j 0 = s) := ⟨_, rfl⟩
  rw [hx.out, hs.out] at hb
  rw [hs.out] at hc
  rw [hx.out]
  clear hp e h0 h1
  go_enter Tryd.func15, Tryd.ntmps15
  go_wp2_with fail
  go_region
  go_wp2
  refine bodyPost_ret (v := .agg (penW (f, b, x)).toArray) ?_ rfl ⟨rfl, belowDrewN (below_two _ _ _) 1⟩
  exact results_cell_row rfl _ _ (w.heap.size + 1) _ _ _ _ rfl ((blk_two _ _ _ (f, b, x)).drew) Tryd.underlying23 rfl (by kernel_rfl)
set_option maxHeartbeats 1600000 in
theorem change_clr (p : PenN) (n : Int) (w : World) (h0 : 10 ≤ n) (h1 : n < 30) (hp : p.ok) (hk : PT w) : Calls Tryd.prog 15 #[.agg (penW p).toArray, .int .i64 n] w (PenPost w (change p n)) := by
  obtain ⟨f, b, m⟩ := p
  obtain ⟨j, rfl⟩ : ∃ j : Nat, n = j := ⟨n.toNat, by omega⟩
  have e : Hid (change (f, b, m) j = (f, b, clrM j m)) := by show _ = _; unfold change; rw [if_neg (by omega), if_neg (by omega), if_pos (by omega), Int.toNat_natCast]
  rw [e.out]
  simp only [penW]
  have hj : j < 30 := by omega
  have hb := not_all m hp.2.2 j hj
  have hc := hk.2 j hj
  have hlt := hk.lt.2
  have t1 : decide ((j : Int) ≤ 0) = false ∧ decide (j = 0) = false := by simp; omega
  obtain ⟨t1, t1'⟩ := t1
  have t2 : decide ((j : Int) < 10) = false ∧ decide (j < 10) = false := by simp; omega
  obtain ⟨t2, t3⟩ := t2
  have t4 : decide ((j : Int) < 30) = true ∧ decide (j < 30) = true := by simp; omega
  obtain ⟨t4, t5⟩ := t4
  obtain ⟨x, hx⟩ : ∃ x, Hid (clrM j m = x) := ⟨_, rfl⟩
  obtain ⟨s, hs⟩ : ∃ s, Hid (clrsN.getD j 0 = s) := ⟨_, rfl⟩
  rw [hx.out, hs.out] at hb
  rw [hs.out] at hc
  rw [hx.out]
  have hc2 : (((w.alloc (.cells #[.int .i64 (f : Int), .int .i64 (b : Int), .int .i64 (m : Int)] 23)).alloc (.cells #[.int .i64 0, .int .i64 0, .int .i64 0] 23)).drew).cell? ⟨1, j, none⟩ = some (.int .i64 (s : Int)) := by
    rw [← hc]
    exact (below_two w _ _).cell hlt
  clear hp e h0 h1
  go_enter Tryd.func15, Tryd.ntmps15
  go_wp2_with fail
  go_region
  go_wp2
  refine bodyPost_ret (v := .agg (penW (f, b, x)).toArray) ?_ rfl ⟨rfl, belowDrewN (below_two _ _ _) 1⟩
  exact results_cell_row rfl _ _ (w.heap.size + 1) _ _ _ _ rfl ((blk_two _ _ _ (f, b, x)).drew) Tryd.underlying23 rfl (by kernel_rfl)
set_option maxHeartbeats 1600000 in
theorem change_col (p : PenN) (n : Int) (w : World) (h0 : 30 ≤ n) (h1 : n ≤ 9223372036854775807) : Calls Tryd.prog 15 #[.agg (penW p).toArray, .int .i64 n] w (PenPost w (change p n)) := by
  obtain ⟨f, b, m⟩ := p
  have e : Hid (change (f, b, m) n = (recol f n, recol b (n - 10), m)) := by show _ = _; unfold change; rw [if_neg (by omega), if_neg (by omega), if_neg (by omega)]
  rw [e.out]
  simp only [penW]
  have t1 : decide (n ≤ 0) = false := by simp; omega
  have t2 : decide (n < 10) = false := by simp; omega
  have t4 : decide (n < 30) = false := by simp; omega
  have HC1 : Hid (∀ W, Calls Tryd.prog 22 #[.int .i64 (f : Int), .int .i64 n] W fun en w' => en = .returned (.int .i64 ((recol f n : Nat) : Int)) ∧ W = w') := fun W => recolour_c f n W (by omega) h1
  have HC2 : Hid (∀ W, Calls Tryd.prog 22 #[.int .i64 (b : Int), .int .i64 (n - 10)] W fun en w' => en = .returned (.int .i64 ((recol b (n - 10) : Nat) : Int)) ∧ W = w') := fun W => recolour_c b (n - 10) W (by omega) (by omega)
  obtain ⟨x, hx⟩ : ∃ x, Hid (recol f n = x) := ⟨_, rfl⟩
  obtain ⟨y, hy⟩ : ∃ y, Hid (recol b (n - 10) = y) := ⟨_, rfl⟩
  rw [hx.out] at HC1 ⊢
  rw [hy.out] at HC2 ⊢
  clear e
  go_enter Tryd.func15, Tryd.ntmps15
  go_wp2_with fail
  refine (HC1.out _).mono ?_
  rintro en w1 ⟨rfl, rfl⟩
  go_wp2_with fail
  refine (HC2.out _).mono ?_
  rintro en w1 ⟨rfl, rfl⟩
  go_wp2
  refine bodyPost_ret (v := .agg (penW (x, y, m)).toArray) ?_ rfl ⟨rfl, below_two _ _ _⟩
  exact results_cell_row rfl _ _ (w.heap.size + 1) _ _ _ _ rfl (blk_two _ _ _ (x, y, m)) Tryd.underlying23 rfl (by kernel_rfl)
theorem change_c (p : PenN) (n : Int) (w : World) (h1 : n ≤ 9223372036854775807) (hp : p.ok) (hk : PT w) : Calls Tryd.prog 15 #[.agg (penW p).toArray, .int .i64 n] w (PenPost w (change p n)) := by
  by_cases a : n ≤ 0
  · exact change_zero p n w a
  · by_cases b : n < 10
    · exact change_set p n w (by omega) b hp hk
    · by_cases c : n < 30
      · exact change_clr p n w (by omega) c hp hk
      · exact change_col p n w (by omega) h1
end Go.Proofs.YtajllkfoaigdlaaDoor
