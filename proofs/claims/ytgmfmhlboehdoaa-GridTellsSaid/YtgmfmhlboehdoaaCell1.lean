/- What the functions of package cell on one cell do, and the reference's, as walks through the translated text. Conditions: the cell's parts fit their types. -/
import Derived.Test.YtgmfmhlboehdoaaCell0
import Derived.Laws.StructEq
import Derived.Test.YtgmfmhlboehdoaaSame
namespace Go.Proofs.Ytgmfmhlboehdoaa
open Go.ChangeShapes Go.WideShapes Go.RowKit
theorem alloc_below' (w : World) (o : Obj) : Below w.heap.size w (w.alloc o) := (Below.refl _ _).alloc (Nat.le_refl _) o
def BoolPost (w : World) (b : Bool) (en : Ending) (w' : World) : Prop := en = .returned (.bool b) ∧ Below w.heap.size w w'
set_option maxHeartbeats 800000 in
theorem within_c (n m : Int) (w : World) : Calls Try.prog 64 #[.int .i64 n, .int .i64 m] w fun en w' => en = .returned (.bool (decide (0 ≤ n ∧ n ≤ m))) ∧ w = w' := by
  by_cases h0 : 0 ≤ n
  · by_cases h1 : n ≤ m
    · have hb : Hid (decide (0 ≤ n ∧ n ≤ m) = true) := by show _ = _; simp; omega
      rw [hb.out]
      go_enter Try.func64, Try.ntmps64
      go_wp2
      go_ret
      exact ⟨rfl, rfl⟩
    · have hb : Hid (decide (0 ≤ n ∧ n ≤ m) = false) := by show _ = _; simp; omega
      rw [hb.out]
      have h2 : decide (n ≤ m) = false := by simpa using h1
      go_enter Try.func64, Try.ntmps64
      go_wp2
      go_ret
      exact ⟨rfl, rfl⟩
  · have hb : Hid (decide (0 ≤ n ∧ n ≤ m) = false) := by show _ = _; simp; omega
    rw [hb.out]
    have h2 : decide (0 ≤ n) = false := by simpa using h0
    go_enter Try.func64, Try.ntmps64
    go_wp2
    go_ret
    exact ⟨rfl, rfl⟩
set_option maxHeartbeats 800000 in
theorem validRune_c (r : Int) (w : World) : Calls Try.prog 65 #[.int .i32 r] w fun en w' => en = .returned (.bool (signOk r)) ∧ w = w' := by
  by_cases h0 : 0 ≤ r ∧ r < 55296
  · have hb : Hid (signOk r = true) := by show _ = _; simp [signOk]; omega
    rw [hb.out]
    have h1 : decide (0 ≤ r) = true := by simp; omega
    have h2 : decide (r < 55296) = true := by simp; omega
    go_enter Try.func65, Try.ntmps65
    go_wp2
    go_ret
    exact ⟨rfl, rfl⟩
  · by_cases h3 : 57343 < r
    · have h4 : decide (r < 55296) = false := by simp; omega
      by_cases h5 : r ≤ 1114111
      · have hb : Hid (signOk r = true) := by show _ = _; simp [signOk]; omega
        rw [hb.out]
        have h1 : decide (0 ≤ r) = true := by simp; omega
        go_enter Try.func65, Try.ntmps65
        go_wp2
        go_ret
        exact ⟨rfl, rfl⟩
      · have hb : Hid (signOk r = false) := by show _ = _; simp [signOk]; omega
        rw [hb.out]
        have h1 : decide (0 ≤ r) = true := by simp; omega
        have h6 : decide (r ≤ 1114111) = false := by simpa using h5
        go_enter Try.func65, Try.ntmps65
        go_wp2
        go_ret
        exact ⟨rfl, rfl⟩
    · have hb : Hid (signOk r = false) := by show _ = _; simp [signOk]; omega
      rw [hb.out]
      have h6 : decide (57343 < r) = false := by simpa using h3
      by_cases h1 : 0 ≤ r
      · have h4 : decide (r < 55296) = false := by simp; omega
        go_enter Try.func65, Try.ntmps65
        go_wp2
        go_ret
        exact ⟨rfl, rfl⟩
      · have h4 : decide (0 ≤ r) = false := by simpa using h1
        go_enter Try.func65, Try.ntmps65
        go_wp2
        go_ret
        exact ⟨rfl, rfl⟩
set_option maxHeartbeats 800000 in
theorem pen_c (p : Int × Int × Int) (w : World) : Calls Try.prog 60 #[.agg #[.int .i64 p.1, .int .i64 p.2.1, .int .i64 p.2.2]] w (BoolPost w (penOk p)) := by
  obtain ⟨a, b, c⟩ := p
  simp only
  have hb : Hid (penOk (a, b, c) = (decide (0 ≤ a ∧ a ≤ 256) && decide (0 ≤ b ∧ b ≤ 256) && decide (0 ≤ c ∧ c ≤ 127))) := by
    show _ = _
    simp only [penOk, ← Bool.decide_and, and_assoc]
  rw [hb.out]
  clear hb
  cases ha : decide (0 ≤ a ∧ a ≤ 256) <;> cases hb : decide (0 ≤ b ∧ b ≤ 256) <;> cases hc : decide (0 ≤ c ∧ c ≤ 127)
  all_goals
    have HA := Lib.hid ha
    have HB := Lib.hid hb
    have HC := Lib.hid hc
    clear ha hb hc
    go_enter Try.func60, Try.ntmps60
    go_wp2_with ((go_at_call 64; refine (within_c _ _ _).mono ?_; rintro en w' ⟨rfl, rfl⟩; simp only [HA.out, HB.out, HC.out]))
    go_ret
    exact ⟨rfl, alloc_below' _ _⟩
set_option maxHeartbeats 800000 in
theorem shown_c (r : Int) (w : World) : Calls Try.prog 61 #[.int .i32 r] w fun en w' => en = .returned (.bool (runeOk r)) ∧ w = w' := by
  by_cases h0 : r < 160
  · have h1 : decide (r < 160) = true := by simpa using h0
    by_cases h2 : 32 ≤ r
    · have h3 : decide (32 ≤ r) = true := by simpa using h2
      have hb : Hid (runeOk r = decide (r ≤ 126)) := by show _ = _; simp only [runeOk]; apply decide_eq_decide.2; omega
      rw [hb.out]
      go_enter Try.func61, Try.ntmps61
      go_wp2
      go_ret
      exact ⟨rfl, rfl⟩
    · have h3 : decide (32 ≤ r) = false := by simpa using h2
      have hb : Hid (runeOk r = false) := by show _ = _; simp only [runeOk, decide_eq_false_iff_not]; omega
      rw [hb.out]
      go_enter Try.func61, Try.ntmps61
      go_wp2
      go_ret
      exact ⟨rfl, rfl⟩
  · have h1 : decide (r < 160) = false := by simpa using h0
    have hb : Hid (runeOk r = signOk r) := by show _ = _; simp only [runeOk, signOk]; apply decide_eq_decide.2; omega
    rw [hb.out]
    go_enter Try.func61, Try.ntmps61
    go_wp2_with fail
    refine (validRune_c r w).mono ?_
    rintro en w' ⟨rfl, rfl⟩
    go_wp2
    go_ret
    exact ⟨rfl, rfl⟩
set_option maxHeartbeats 800000 in
theorem right_c (c : CellV) (w : World) : Calls Try.prog 47 #[.agg (cellV c).toArray] w (BoolPost w (okC c)) := by
  obtain ⟨r, p⟩ := c
  have HP : Hid (∀ W, Calls Try.prog 60 #[.agg #[.int .i64 p.1, .int .i64 p.2.1, .int .i64 p.2.2]] W (BoolPost W (penOk p))) := fun W => pen_c p W
  have HK : Hid (okC (r, p) = (penOk p && runeOk r)) := rfl
  rw [HK.out]
  show Calls _ _ #[.agg #[.int .i32 r, .int .i64 p.1, .int .i64 p.2.1, .int .i64 p.2.2]] _ _
  cases hp : penOk p
  · rw [hp] at HP
    go_enter Try.func47, Try.ntmps47
    go_wp2_with fail
    refine (HP.out _).mono ?_
    rintro en w1 ⟨rfl, hb1⟩
    go_wp2
    go_ret
    exact ⟨rfl, (alloc_below' w _).trans (hb1.mono (by simp))⟩
  · rw [hp] at HP
    go_enter Try.func47, Try.ntmps47
    go_wp2_with fail
    refine (HP.out _).mono ?_
    rintro en w1 ⟨rfl, hb1⟩
    have c0 : w1.cell? ⟨w.heap.size, 0, none⟩ = some (.int .i32 r) := ((Blk.new w _ _).below hb1 (by simp)).cell 0
    go_wp2_with fail
    refine (shown_c r w1).mono ?_
    rintro en w2 ⟨rfl, rfl⟩
    go_wp2
    go_ret
    exact ⟨rfl, (alloc_below' w _).trans (hb1.mono (by simp))⟩
set_option maxHeartbeats 800000 in
theorem blank_c (p : Int × Int × Int) (w : World) : Calls Try.prog 29 #[.agg #[.int .i64 p.1, .int .i64 p.2.1, .int .i64 p.2.2]] w fun en w' => en = .returned (.agg (cellV (32, 0, p.2.1, 0)).toArray) ∧ Below w.heap.size w w' := by
  go_enter Try.func29, Try.ntmps29
  go_wp2
  have hb : ∀ o, Blk ((w.alloc o).alloc (.cells (cellV (32, 0, p.2.1, 0)).toArray 38)) (w.heap.size + 1) 38 (cellV (32, 0, p.2.1, 0)) := fun o => by
    have := Blk.new (w.alloc o) 38 (cellV (32, 0, p.2.1, 0))
    rwa [World.size_alloc] at this
  refine bodyPost_ret (v := .agg (cellV (32, 0, p.2.1, 0)).toArray) ?_ rfl ⟨rfl, (alloc_below' w _).alloc (by simp) _⟩
  exact results_cell_row rfl _ _ (w.heap.size + 1) _ _ _ _ rfl (hb _) Try.underlying38 rfl (by kernel_rfl)
set_option maxHeartbeats 800000 in
theorem refSign_c (r : Int) (w : World) : Calls Try.prog 46 #[.int .i64 r] w fun en w' => en = .returned (.bool (signOk r)) ∧ w = w' := by
  have hc : r < 0 ∨ 1114111 < r ∨ (0 ≤ r ∧ r < 55296) ∨ (55296 ≤ r ∧ r ≤ 57343) ∨ (57343 < r ∧ r ≤ 1114111) := by omega
  rcases hc with h | h | h | h | h
  · have hb : Hid (signOk r = false) := by show _ = _; simp only [signOk, decide_eq_false_iff_not]; omega
    rw [hb.out]
    have f0 : decide (0 ≤ r) = false := by rw [decide_eq_false_iff_not]; omega
    clear h
    go_enter Try.func46, Try.ntmps46
    go_wp2
    go_ret
    exact ⟨rfl, rfl⟩
  · have hb : Hid (signOk r = false) := by show _ = _; simp only [signOk, decide_eq_false_iff_not]; omega
    rw [hb.out]
    have f0 : decide (0 ≤ r) = true := by rw [decide_eq_true_eq]; omega
    have f1 : decide (r ≤ 1114111) = false := by rw [decide_eq_false_iff_not]; omega
    clear h
    go_enter Try.func46, Try.ntmps46
    go_wp2
    go_ret
    exact ⟨rfl, rfl⟩
  · have hb : Hid (signOk r = true) := by show _ = _; simp only [signOk, decide_eq_true_eq]; omega
    rw [hb.out]
    have f0 : decide (0 ≤ r) = true := by rw [decide_eq_true_eq]; omega
    have f1 : decide (r ≤ 1114111) = true := by rw [decide_eq_true_eq]; omega
    have f2 : decide (r < 55296) = true := by rw [decide_eq_true_eq]; omega
    clear h
    go_enter Try.func46, Try.ntmps46
    go_wp2
    go_ret
    exact ⟨rfl, rfl⟩
  · have hb : Hid (signOk r = false) := by show _ = _; simp only [signOk, decide_eq_false_iff_not]; omega
    rw [hb.out]
    have f0 : decide (0 ≤ r) = true := by rw [decide_eq_true_eq]; omega
    have f1 : decide (r ≤ 1114111) = true := by rw [decide_eq_true_eq]; omega
    have f2 : decide (r < 55296) = false := by rw [decide_eq_false_iff_not]; omega
    have f3 : decide (57343 < r) = false := by rw [decide_eq_false_iff_not]; omega
    clear h
    go_enter Try.func46, Try.ntmps46
    go_wp2
    go_ret
    exact ⟨rfl, rfl⟩
  · have hb : Hid (signOk r = true) := by show _ = _; simp only [signOk, decide_eq_true_eq]; omega
    rw [hb.out]
    have f0 : decide (0 ≤ r) = true := by rw [decide_eq_true_eq]; omega
    have f1 : decide (r ≤ 1114111) = true := by rw [decide_eq_true_eq]; omega
    have f2 : decide (r < 55296) = false := by rw [decide_eq_false_iff_not]; omega
    have f3 : decide (57343 < r) = true := by rw [decide_eq_true_eq]; omega
    clear h
    go_enter Try.func46, Try.ntmps46
    go_wp2
    go_ret
    exact ⟨rfl, rfl⟩
set_option maxHeartbeats 1600000 in
theorem refRight_c (c : CellV) (w : World) (hr : -2147483648 ≤ c.1 ∧ c.1 ≤ 2147483647) : Calls Try.prog 23 #[.agg (cellV c).toArray] w (BoolPost w (okC c)) := by
  obtain ⟨r, a, b, c⟩ := c
  have hw : wrap64 r = r := IntWalk.wrap64_in r (by simp only at hr; omega)
  clear hr
  show Calls _ _ #[.agg #[.int .i32 r, .int .i64 a, .int .i64 b, .int .i64 c]] _ _
  have hc : (a < 0) ∨ (0 ≤ a ∧ 256 < a) ∨ (0 ≤ a ∧ a ≤ 256 ∧ b < 0) ∨ (0 ≤ a ∧ a ≤ 256 ∧ 0 ≤ b ∧ 256 < b) ∨ (0 ≤ a ∧ a ≤ 256 ∧ 0 ≤ b ∧ b ≤ 256 ∧ c < 0) ∨ (0 ≤ a ∧ a ≤ 256 ∧ 0 ≤ b ∧ b ≤ 256 ∧ 0 ≤ c ∧ 127 < c) ∨ (0 ≤ a ∧ a ≤ 256 ∧ 0 ≤ b ∧ b ≤ 256 ∧ 0 ≤ c ∧ c ≤ 127) := by omega
  rcases hc with h | h | h | h | h | h | h
  · have hb : Hid (okC (r, a, b, c) = false) := by show _ = _; simp only [okC, Bool.and_eq_false_iff, penOk, decide_eq_false_iff_not]; left; omega
    rw [hb.out]
    have f0 : decide (a < 0) = true := by rw [decide_eq_true_eq]; omega
    clear h hb
    go_enter Try.func23, Try.ntmps23
    go_wp2
    go_ret
    exact ⟨rfl, (alloc_below' w _).alloc (by simp) _⟩
  · have hb : Hid (okC (r, a, b, c) = false) := by show _ = _; simp only [okC, Bool.and_eq_false_iff, penOk, decide_eq_false_iff_not]; left; omega
    rw [hb.out]
    have f0 : decide (a < 0) = false := by rw [decide_eq_false_iff_not]; omega
    have f1 : decide (256 < a) = true := by rw [decide_eq_true_eq]; omega
    clear h hb
    go_enter Try.func23, Try.ntmps23
    go_wp2
    go_ret
    exact ⟨rfl, (alloc_below' w _).alloc (by simp) _⟩
  · have hb : Hid (okC (r, a, b, c) = false) := by show _ = _; simp only [okC, Bool.and_eq_false_iff, penOk, decide_eq_false_iff_not]; left; omega
    rw [hb.out]
    have f0 : decide (a < 0) = false := by rw [decide_eq_false_iff_not]; omega
    have f1 : decide (256 < a) = false := by rw [decide_eq_false_iff_not]; omega
    have f2 : decide (b < 0) = true := by rw [decide_eq_true_eq]; omega
    clear h hb
    go_enter Try.func23, Try.ntmps23
    go_wp2
    go_ret
    exact ⟨rfl, (alloc_below' w _).alloc (by simp) _⟩
  · have hb : Hid (okC (r, a, b, c) = false) := by show _ = _; simp only [okC, Bool.and_eq_false_iff, penOk, decide_eq_false_iff_not]; left; omega
    rw [hb.out]
    have f0 : decide (a < 0) = false := by rw [decide_eq_false_iff_not]; omega
    have f1 : decide (256 < a) = false := by rw [decide_eq_false_iff_not]; omega
    have f2 : decide (b < 0) = false := by rw [decide_eq_false_iff_not]; omega
    have f3 : decide (256 < b) = true := by rw [decide_eq_true_eq]; omega
    clear h hb
    go_enter Try.func23, Try.ntmps23
    go_wp2
    go_ret
    exact ⟨rfl, (alloc_below' w _).alloc (by simp) _⟩
  · have hb : Hid (okC (r, a, b, c) = false) := by show _ = _; simp only [okC, Bool.and_eq_false_iff, penOk, decide_eq_false_iff_not]; left; omega
    rw [hb.out]
    have f0 : decide (a < 0) = false := by rw [decide_eq_false_iff_not]; omega
    have f1 : decide (256 < a) = false := by rw [decide_eq_false_iff_not]; omega
    have f2 : decide (b < 0) = false := by rw [decide_eq_false_iff_not]; omega
    have f3 : decide (256 < b) = false := by rw [decide_eq_false_iff_not]; omega
    have f4 : decide (c < 0) = true := by rw [decide_eq_true_eq]; omega
    clear h hb
    go_enter Try.func23, Try.ntmps23
    go_wp2
    go_ret
    exact ⟨rfl, (alloc_below' w _).alloc (by simp) _⟩
  · have hb : Hid (okC (r, a, b, c) = false) := by show _ = _; simp only [okC, Bool.and_eq_false_iff, penOk, decide_eq_false_iff_not]; left; omega
    rw [hb.out]
    have f0 : decide (a < 0) = false := by rw [decide_eq_false_iff_not]; omega
    have f1 : decide (256 < a) = false := by rw [decide_eq_false_iff_not]; omega
    have f2 : decide (b < 0) = false := by rw [decide_eq_false_iff_not]; omega
    have f3 : decide (256 < b) = false := by rw [decide_eq_false_iff_not]; omega
    have f4 : decide (c < 0) = false := by rw [decide_eq_false_iff_not]; omega
    have f5 : decide (127 < c) = true := by rw [decide_eq_true_eq]; omega
    clear h hb
    go_enter Try.func23, Try.ntmps23
    go_wp2
    go_ret
    exact ⟨rfl, (alloc_below' w _).alloc (by simp) _⟩
  · have hp : Hid (penOk (a, b, c) = true) := by show _ = _; simp only [penOk, decide_eq_true_eq]; omega
    have f0 : decide (a < 0) = false := by rw [decide_eq_false_iff_not]; omega
    have f1 : decide (256 < a) = false := by rw [decide_eq_false_iff_not]; omega
    have f2 : decide (b < 0) = false := by rw [decide_eq_false_iff_not]; omega
    have f3 : decide (256 < b) = false := by rw [decide_eq_false_iff_not]; omega
    have f4 : decide (c < 0) = false := by rw [decide_eq_false_iff_not]; omega
    have f5 : decide (127 < c) = false := by rw [decide_eq_false_iff_not]; omega
    clear h
    have hc : r < 32 ∨ (32 ≤ r ∧ r ≤ 126) ∨ (126 < r ∧ r < 160) ∨ 160 ≤ r := by omega
    rcases hc with h | h | h | h
    · have hb : Hid (okC (r, a, b, c) = false) := by show _ = _; simp only [okC, Bool.and_eq_false_iff, runeOk, decide_eq_false_iff_not]; right; omega
      rw [hb.out]
      have g6 : decide (32 ≤ r) = false := by rw [decide_eq_false_iff_not]; omega
      have g7 : decide (160 ≤ r) = false := by rw [decide_eq_false_iff_not]; omega
      clear h hb
      go_enter Try.func23, Try.ntmps23
      go_wp2
      go_ret
      exact ⟨rfl, (alloc_below' w _).alloc (by simp) _⟩
    · have hb : Hid (okC (r, a, b, c) = signOk r) := by show _ = _; simp only [okC, hp.out, Bool.true_and, runeOk, signOk]; apply decide_eq_decide.2; omega
      rw [hb.out]
      have g6 : decide (32 ≤ r) = true := by rw [decide_eq_true_eq]; omega
      have g7 : decide (r ≤ 126) = true := by rw [decide_eq_true_eq]; omega
      clear h hb
      go_enter Try.func23, Try.ntmps23
      go_wp2_with fail
      refine (refSign_c r _).mono ?_
      rintro en w' ⟨rfl, rfl⟩
      go_wp2
      go_ret
      exact ⟨rfl, (alloc_below' w _).alloc (by simp) _⟩
    · have hb : Hid (okC (r, a, b, c) = false) := by show _ = _; simp only [okC, Bool.and_eq_false_iff, runeOk, decide_eq_false_iff_not]; right; omega
      rw [hb.out]
      have g6 : decide (32 ≤ r) = true := by rw [decide_eq_true_eq]; omega
      have g7 : decide (r ≤ 126) = false := by rw [decide_eq_false_iff_not]; omega
      have g8 : decide (160 ≤ r) = false := by rw [decide_eq_false_iff_not]; omega
      clear h hb
      go_enter Try.func23, Try.ntmps23
      go_wp2
      go_ret
      exact ⟨rfl, (alloc_below' w _).alloc (by simp) _⟩
    · have hb : Hid (okC (r, a, b, c) = signOk r) := by show _ = _; simp only [okC, hp.out, Bool.true_and, runeOk, signOk]; apply decide_eq_decide.2; omega
      rw [hb.out]
      have g6 : decide (32 ≤ r) = true := by rw [decide_eq_true_eq]; omega
      have g7 : decide (r ≤ 126) = false := by rw [decide_eq_false_iff_not]; omega
      have g8 : decide (160 ≤ r) = true := by rw [decide_eq_true_eq]; omega
      clear h hb
      go_enter Try.func23, Try.ntmps23
      go_wp2_with fail
      refine (refSign_c r _).mono ?_
      rintro en w' ⟨rfl, rfl⟩
      go_wp2
      go_ret
      exact ⟨rfl, (alloc_below' w _).alloc (by simp) _⟩
end Go.Proofs.Ytgmfmhlboehdoaa
