/- What the small functions of package caret and of its reference do, as walks through the translated text: which areas may be, which places fit, how far a move goes. Conditions: the integers fit their type. -/
import Derived.Test.YtdcbiknlihfhcaaCaret0
import Derived.Test.YtdcbiknlihfhcaaCell1
import Derived.Lib.MinMax
import Derived.Deep.DeepCutAuto
import Derived.Laws.ResultCell
namespace Go.Proofs.Ytdcbiknlihfhcaa
open Go.ChangeShapes Go.WideShapes Go.RowKit
def areaA (R C T B : Int) (o : Bool) : Value := .agg #[.int .i64 R, .int .i64 C, .int .i64 T, .int .i64 B, .bool o]
def caretA (r c : Int) (q : Bool) : Value := .agg #[.int .i64 r, .int .i64 c, .bool q]
set_option maxHeartbeats 1600000 in
theorem sized_c (n m : Int) (w : World) : Calls Try.prog 25 #[.int .i64 n, .int .i64 m] w fun en w' => en = .returned (.bool (decide (1 ≤ n ∧ n ≤ 60 ∧ 1 ≤ m ∧ m ≤ 132))) ∧ w = w' := by
  obtain ⟨B, hB⟩ : ∃ B, Hid (decide (1 ≤ n ∧ n ≤ 60 ∧ 1 ≤ m ∧ m ≤ 132) = B) := ⟨_, rfl⟩
  rw [hB.out]
  obtain ⟨b1, h1⟩ : ∃ b, decide (1 ≤ n) = b := ⟨_, rfl⟩
  obtain ⟨b2, h2⟩ : ∃ b, decide (n ≤ 60) = b := ⟨_, rfl⟩
  obtain ⟨b3, h3⟩ : ∃ b, decide (1 ≤ m) = b := ⟨_, rfl⟩
  obtain ⟨b4, h4⟩ : ∃ b, decide (m ≤ 132) = b := ⟨_, rfl⟩
  have hS : Hid ((b1 && b2 && b3 && b4) = B) := by
    show _ = _
    rw [← hB.out, ← h1, ← h2, ← h3, ← h4, Bool.eq_iff_iff]
    simp only [Bool.and_eq_true, decide_eq_true_eq, and_assoc]
  clear hB
  cases b1
  · go_enter Try.func25, Try.ntmps25
    go_wp2
    go_ret
    exact ⟨ret_bool hS.out, rfl⟩
  · cases b2
    · go_enter Try.func25, Try.ntmps25
      go_wp2
      go_ret
      exact ⟨ret_bool hS.out, rfl⟩
    · cases b3 <;> cases b4
      all_goals
        go_enter Try.func25, Try.ntmps25
        go_wp2
        go_ret
        exact ⟨ret_bool hS.out, rfl⟩
set_option maxHeartbeats 800000 in
theorem steps_c (n m : Int) (w : World) : Calls Try.prog 26 #[.int .i64 n, .int .i64 m] w fun en w' => en = .returned (.int .i64 (min (max n 1) m)) ∧ w' = w := by
  go_enter Try.func26, Try.ntmps26
  go_wp2
  go_ret
  exact ⟨rfl, rfl⟩
set_option maxHeartbeats 800000 in
theorem place_c (n m : Int) (w : World) (hn : n ≤ 9223372036854775807) : Calls Try.prog 27 #[.int .i64 n, .int .i64 m] w fun en w' => en = .returned (.int .i64 (min (max n 1 - 1) m)) ∧ w' = w := by
  obtain ⟨k, hk⟩ : ∃ k, max n 1 = k := ⟨_, rfl⟩
  have h1 : 1 ≤ k := by omega
  have h2 : k ≤ 9223372036854775807 := by omega
  go_enter Try.func27, Try.ntmps27
  go_wp2
  go_ret
  exact ⟨by rw [hk]; rfl, rfl⟩
set_option maxHeartbeats 800000 in
theorem refHold_c (n a b : Int) (w : World) : Calls Try.prog 19 #[.int .i64 n, .int .i64 a, .int .i64 b] w fun en w' => en = .returned (.int .i64 (holdZ n a b)) ∧ w' = w := by
  by_cases h1 : n < a
  · have hh : Hid (holdZ n a b = a) := by show _ = _; unfold holdZ; rw [if_pos h1]
    rw [hh.out]
    go_enter Try.func19, Try.ntmps19
    go_wp2
    go_ret
    exact ⟨rfl, rfl⟩
  · by_cases h2 : b < n
    · have hh : Hid (holdZ n a b = b) := by show _ = _; unfold holdZ; rw [if_neg h1, if_pos h2]
      rw [hh.out]
      go_enter Try.func19, Try.ntmps19
      go_wp2
      go_ret
      exact ⟨rfl, rfl⟩
    · have hh : Hid (holdZ n a b = n) := by show _ = _; unfold holdZ; rw [if_neg h1, if_neg h2]
      rw [hh.out]
      go_enter Try.func19, Try.ntmps19
      go_wp2
      go_ret
      exact ⟨rfl, rfl⟩
set_option maxHeartbeats 800000 in
theorem ref_c (R C T B : Int) (o : Bool) (w : World) : Calls Try.prog 9 #[areaA R C T B o] w fun en w' => en = .returned (areaA R C T B o) ∧ Below w.heap.size w w' := by
  unfold areaA
  go_enter Try.func9, Try.ntmps9
  go_wp2
  have hb : ∀ o', Blk ((w.alloc o').alloc (.cells #[.int .i64 R, .int .i64 C, .int .i64 T, .int .i64 B, .bool o] 29)) (w.heap.size + 1) 29 [.int .i64 R, .int .i64 C, .int .i64 T, .int .i64 B, .bool o] := fun o' => by
    have := Blk.new (w.alloc o') 29 [.int .i64 R, .int .i64 C, .int .i64 T, .int .i64 B, .bool o]
    rwa [World.size_alloc] at this
  refine bodyPost_ret (v := .agg #[.int .i64 R, .int .i64 C, .int .i64 T, .int .i64 B, .bool o]) ?_ rfl ⟨rfl, (alloc_below' w _).alloc (by simp) _⟩
  exact results_cell_row rfl _ _ (w.heap.size + 1) _ _ _ _ rfl (hb _) Try.underlying29 rfl (by kernel_rfl)
set_option maxHeartbeats 1600000 in
theorem refRight_c (R C T B : Int) (o : Bool) (w : World) : Calls Try.prog 8 #[areaA R C T B o] w (BoolPost w (areaOk R C T B)) := by
  unfold areaA
  obtain ⟨X, hX⟩ : ∃ X, Hid (areaOk R C T B = X) := ⟨_, rfl⟩
  rw [hX.out]
  obtain ⟨b1, h1⟩ : ∃ b, decide (1 ≤ R) = b := ⟨_, rfl⟩
  obtain ⟨b2, h2⟩ : ∃ b, decide (R ≤ 60) = b := ⟨_, rfl⟩
  obtain ⟨b3, h3⟩ : ∃ b, decide (1 ≤ C) = b := ⟨_, rfl⟩
  obtain ⟨b4, h4⟩ : ∃ b, decide (C ≤ 132) = b := ⟨_, rfl⟩
  obtain ⟨b5, h5⟩ : ∃ b, decide (0 ≤ T) = b := ⟨_, rfl⟩
  obtain ⟨b6, h6⟩ : ∃ b, decide (B < R) = b := ⟨_, rfl⟩
  obtain ⟨b7, h7⟩ : ∃ b, decide (T < B) = b := ⟨_, rfl⟩
  obtain ⟨b8, h8⟩ : ∃ b, (R == 1) = b := ⟨_, rfl⟩
  obtain ⟨b9, h9⟩ : ∃ b, (T == 0) = b := ⟨_, rfl⟩
  obtain ⟨b0, h0⟩ : ∃ b, (B == 0) = b := ⟨_, rfl⟩
  have hS : Hid (((b1 && b2 && b3 && b4) && ((b5 && b6 && b7) || (b8 && b9 && b0))) = X) := by
    show _ = _
    rw [← hX.out, ← h1, ← h2, ← h3, ← h4, ← h5, ← h6, ← h7, ← h8, ← h9, ← h0, Bool.eq_iff_iff, areaOk_iff]
    simp only [Bool.and_eq_true, Bool.or_eq_true, decide_eq_true_eq, beq_iff_eq, and_assoc]
  clear hX
  go_enter Try.func8, Try.ntmps8
  go_upto_region 1 with (fail)
  go_cut [3] (fun s wx => s = .bool (b1 && b2 && b3 && b4) ∧ w.alloc (.cells #[.int .i64 R, .int .i64 C, .int .i64 T, .int .i64 B, .bool o] 29) = wx)
  case first =>
    cases b1
    · go_wp2_with fail
      go_meet
      exact ⟨rfl, rfl⟩
    · cases b2
      · go_wp2_with fail
        go_meet
        exact ⟨rfl, rfl⟩
      · cases b3 <;> cases b4
        all_goals
          go_wp2_with fail
          go_meet
          exact ⟨rfl, rfl⟩
  case rest =>
    obtain ⟨rfl, rfl⟩ := hcut
    clear h1 h2 h3 h4
    generalize (b1 && b2 && b3 && b4) = bs at *
    go_upto_region 2 with (fail)
    go_cut [4] (fun s wx => s = .bool (b5 && b6 && b7) ∧ w.alloc (.cells #[.int .i64 R, .int .i64 C, .int .i64 T, .int .i64 B, .bool o] 29) = wx)
    case first =>
      cases b5
      · go_wp2_with fail
        go_meet
        exact ⟨rfl, rfl⟩
      · cases b6 <;> cases b7
        all_goals
          go_wp2_with fail
          go_meet
          exact ⟨rfl, rfl⟩
    case rest =>
      obtain ⟨rfl, rfl⟩ := hcut
      clear h5 h6 h7
      generalize (b5 && b6 && b7) = bt at *
      cases bs
      · go_wp2
        go_ret
        exact ⟨ret_bool hS.out, alloc_below' _ _⟩
      · cases bt
        · cases b8 <;> cases b9 <;> cases b0
          all_goals
            go_wp2
            go_ret
            exact ⟨ret_bool hS.out, alloc_below' _ _⟩
        · go_wp2
          go_ret
          exact ⟨ret_bool hS.out, alloc_below' _ _⟩
end Go.Proofs.Ytdcbiknlihfhcaa
