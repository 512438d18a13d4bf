/- What Right, Whole and Margins of package caret do, and the reference's steps, as walks through the translated text; and the chapter's example. Conditions: the area may be and the caret fits, as far as each needs it. -/
import Derived.Test.YtdcbiknlihfhcaaCaret3
namespace Go.Proofs.Ytdcbiknlihfhcaa
open Go.ChangeShapes Go.WideShapes Go.RowKit
set_option maxHeartbeats 1600000 in
theorem aright_c (R C T B : Int) (o : Bool) (w : World) : Calls Try.prog 11 #[areaA R C T B o] w (BoolPost w (areaOk R C T B)) := by
  unfold areaA
  obtain ⟨X, hX⟩ : ∃ X, Hid (areaOk R C T B = X) := ⟨_, rfl⟩
  rw [hX.out]
  obtain ⟨bs, hs⟩ : ∃ b, decide (1 ≤ R ∧ R ≤ 60 ∧ 1 ≤ C ∧ C ≤ 132) = b := ⟨_, rfl⟩
  obtain ⟨b5, h5⟩ : ∃ b, decide (0 ≤ T) = b := ⟨_, rfl⟩
  obtain ⟨b6, h6⟩ : ∃ b, decide (B < R) = b := ⟨_, rfl⟩
  obtain ⟨b7, h7⟩ : ∃ b, decide (T < B) = b := ⟨_, rfl⟩
  obtain ⟨b8, h8⟩ : ∃ b, (R == 1) = b := ⟨_, rfl⟩
  obtain ⟨b9, h9⟩ : ∃ b, (T == 0) = b := ⟨_, rfl⟩
  obtain ⟨b0, h0⟩ : ∃ b, (B == 0) = b := ⟨_, rfl⟩
  have HZ : Hid (∀ W, Calls Try.prog 25 #[.int .i64 R, .int .i64 C] W fun en w' => en = .returned (.bool bs) ∧ W = w') := fun W => by rw [← hs]; exact sized_c R C W
  have hS : Hid ((bs && (if b8 then b9 && b0 else b5 && b7 && b6)) = X) := by
    show _ = _
    rw [← hX.out, ← hs, ← h5, ← h6, ← h7, ← h8, ← h9, ← h0, Bool.eq_iff_iff, areaOk_iff]
    by_cases e : R = 1
    · subst e
      simp
      omega
    · have e' : (R == 1) = false := by simpa using e
      rw [e']
      simp
      omega
  clear hX hs
  cases bs
  · go_enter Try.func11, Try.ntmps11
    go_wp2_with ((go_at_call 25; refine (HZ.out _).mono ?_; rintro en w' ⟨rfl, rfl⟩))
    go_ret
    exact ⟨ret_bool hS.out, alloc_below' _ _⟩
  · cases b8
    · cases b5
      · go_enter Try.func11, Try.ntmps11
        go_wp2_with ((go_at_call 25; refine (HZ.out _).mono ?_; rintro en w' ⟨rfl, rfl⟩))
        go_ret
        exact ⟨ret_bool hS.out, alloc_below' _ _⟩
      · cases b7
        all_goals
          go_enter Try.func11, Try.ntmps11
          go_wp2_with ((go_at_call 25; refine (HZ.out _).mono ?_; rintro en w' ⟨rfl, rfl⟩))
          go_ret
          exact ⟨ret_bool hS.out, alloc_below' _ _⟩
    · cases b9
      all_goals
        go_enter Try.func11, Try.ntmps11
        go_wp2_with ((go_at_call 25; refine (HZ.out _).mono ?_; rintro en w' ⟨rfl, rfl⟩))
        go_ret
        exact ⟨ret_bool hS.out, alloc_below' _ _⟩
/-! ### Whole, Margins -/
def AreaPost (w : World) (R C T B : Int) (o : Bool) (x : Value) (en : Ending) (w' : World) : Prop := en = .returned (.tuple #[areaA R C T B o, x]) ∧ Below w.heap.size w w'
set_option maxHeartbeats 1600000 in
theorem whole_c (R C : Int) (w : World) (h : 1 ≤ R ∧ R ≤ 60 ∧ 1 ≤ C ∧ C ≤ 132) : Calls Try.prog 10 #[.int .i64 R, .int .i64 C] w (AreaPost w R C 0 (R - 1) false (.int .i64 0)) := by
  unfold AreaPost areaA
  have HZ : Hid (∀ W, Calls Try.prog 25 #[.int .i64 R, .int .i64 C] W fun en w' => en = .returned (.bool true) ∧ W = w') := fun W => by have := sized_c R C W; rwa [decide_eq_true h] at this
  have hw1 : IntKind.i64.wrap (R - 1) = R - 1 := IntWalk.i64_in _ (by omega)
  clear h
  go_enter Try.func10, Try.ntmps10
  go_wp2_with ((go_at_call 25; refine (HZ.out _).mono ?_; rintro en w' ⟨rfl, rfl⟩))
  refine bodyPost_ret (v := .tuple #[.agg #[.int .i64 R, .int .i64 C, .int .i64 0, .int .i64 (R - 1), .bool false], .int .i64 0]) ?_ rfl ⟨rfl, alloc_below' w _⟩
  exact results_cell_row2 rfl _ _ w.heap.size _ _ _ _ _ rfl rfl (Blk.new w _ [.int .i64 R, .int .i64 C, .int .i64 0, .int .i64 (R - 1), .bool false]) Try.underlying23 rfl (by kernel_rfl)
set_option maxHeartbeats 1600000 in
theorem whole_no (R C : Int) (w : World) (h : ¬ (1 ≤ R ∧ R ≤ 60 ∧ 1 ≤ C ∧ C ≤ 132)) : Calls Try.prog 10 #[.int .i64 R, .int .i64 C] w (AreaPost w 0 0 0 0 false (.int .i64 22)) := by
  unfold AreaPost areaA
  have HZ : Hid (∀ W, Calls Try.prog 25 #[.int .i64 R, .int .i64 C] W fun en w' => en = .returned (.bool false) ∧ W = w') := fun W => by have := sized_c R C W; rwa [decide_eq_false h] at this
  clear h
  go_enter Try.func10, Try.ntmps10
  go_wp2_with ((go_at_call 25; refine (HZ.out _).mono ?_; rintro en w' ⟨rfl, rfl⟩))
  refine bodyPost_ret (v := .tuple #[.agg #[.int .i64 0, .int .i64 0, .int .i64 0, .int .i64 0, .bool false], .int .i64 22]) ?_ rfl ⟨rfl, alloc_below' w _⟩
  exact results_cell_row2 rfl _ _ w.heap.size _ _ _ _ _ rfl rfl (Blk.new w _ [.int .i64 0, .int .i64 0, .int .i64 0, .int .i64 0, .bool false]) Try.underlying23 rfl (by kernel_rfl)
/-- The last row that Margins turns, counted from 1. -/
def botZ (R b : Int) : Int := min (if b ≤ 0 then R else b) R
set_option maxHeartbeats 1600000 in
theorem margins_c (R C T B : Int) (o : Bool) (a b : Int) (w : World) (hc : 1 ≤ R ∧ R ≤ 60) (h : min (max a 1) R < botZ R b) : Calls Try.prog 12 #[areaA R C T B o, .int .i64 a, .int .i64 b] w (AreaPost w R C (min (max a 1) R - 1) (botZ R b - 1) o (.bool true)) := by
  unfold AreaPost areaA
  obtain ⟨t, ht⟩ : ∃ t, min (max a 1) R = t := ⟨_, rfl⟩
  obtain ⟨m, hm⟩ : ∃ m, botZ R b = m := ⟨_, rfl⟩
  rw [ht, hm] at h ⊢
  have hd : decide (m ≤ t) = false := by rw [decide_eq_false_iff_not]; omega
  have hw1 : IntKind.i64.wrap (t - 1) = t - 1 := IntWalk.i64_in _ (by omega)
  have hw2 : IntKind.i64.wrap (m - 1) = m - 1 := IntWalk.i64_in _ (by unfold botZ at hm; split at hm <;> omega)
  by_cases hb : b ≤ 0
  · have hbm : min R R = m := by rw [← hm]; unfold botZ; rw [if_pos hb]
    clear h hm hc
    go_enter Try.func12, Try.ntmps12
    go_wp2
    refine bodyPost_ret (v := .tuple #[.agg #[.int .i64 R, .int .i64 C, .int .i64 (t - 1), .int .i64 (m - 1), .bool o], .bool true]) ?_ rfl ⟨rfl, below2 w _ _⟩
    exact results_cell_row2 rfl _ _ (w.heap.size + 1) _ _ _ _ _ rfl rfl (blk2 w _ _ [.int .i64 R, .int .i64 C, .int .i64 (t - 1), .int .i64 (m - 1), .bool o]) Try.underlying23 rfl (by kernel_rfl)
  · have hbd : decide (b ≤ 0) = false := by rw [decide_eq_false_iff_not]; exact hb
    have hbm : min b R = m := by rw [← hm]; unfold botZ; rw [if_neg hb]
    clear h hm hc
    go_enter Try.func12, Try.ntmps12
    go_wp2
    refine bodyPost_ret (v := .tuple #[.agg #[.int .i64 R, .int .i64 C, .int .i64 (t - 1), .int .i64 (m - 1), .bool o], .bool true]) ?_ rfl ⟨rfl, below2 w _ _⟩
    exact results_cell_row2 rfl _ _ (w.heap.size + 1) _ _ _ _ _ rfl rfl (blk2 w _ _ [.int .i64 R, .int .i64 C, .int .i64 (t - 1), .int .i64 (m - 1), .bool o]) Try.underlying23 rfl (by kernel_rfl)
set_option maxHeartbeats 1600000 in
theorem margins_no (R C T B : Int) (o : Bool) (a b : Int) (w : World) (h : ¬ min (max a 1) R < botZ R b) : Calls Try.prog 12 #[areaA R C T B o, .int .i64 a, .int .i64 b] w (AreaPost w R C T B o (.bool false)) := by
  unfold AreaPost areaA
  obtain ⟨t, ht⟩ : ∃ t, min (max a 1) R = t := ⟨_, rfl⟩
  obtain ⟨m, hm⟩ : ∃ m, botZ R b = m := ⟨_, rfl⟩
  rw [ht, hm] at h
  have hd : decide (m ≤ t) = true := by rw [decide_eq_true_eq]; omega
  by_cases hb : b ≤ 0
  · have hbm : min R R = m := by rw [← hm]; unfold botZ; rw [if_pos hb]
    clear h hm
    go_enter Try.func12, Try.ntmps12
    go_wp2
    refine bodyPost_ret (v := .tuple #[.agg #[.int .i64 R, .int .i64 C, .int .i64 T, .int .i64 B, .bool o], .bool false]) ?_ rfl ⟨rfl, below2 w _ _⟩
    exact results_cell_row2 rfl _ _ (w.heap.size + 1) _ _ _ _ _ rfl rfl (blk2 w _ _ [.int .i64 R, .int .i64 C, .int .i64 T, .int .i64 B, .bool o]) Try.underlying23 rfl (by kernel_rfl)
  · have hbd : decide (b ≤ 0) = false := by rw [decide_eq_false_iff_not]; exact hb
    have hbm : min b R = m := by rw [← hm]; unfold botZ; rw [if_neg hb]
    clear h hm
    go_enter Try.func12, Try.ntmps12
    go_wp2
    refine bodyPost_ret (v := .tuple #[.agg #[.int .i64 R, .int .i64 C, .int .i64 T, .int .i64 B, .bool o], .bool false]) ?_ rfl ⟨rfl, below2 w _ _⟩
    exact results_cell_row2 rfl _ _ (w.heap.size + 1) _ _ _ _ _ rfl rfl (blk2 w _ _ [.int .i64 R, .int .i64 C, .int .i64 T, .int .i64 B, .bool o]) Try.underlying23 rfl (by kernel_rfl)
/-! ### The reference's steps -/
theorem times_pos (n : Int) : 1 ≤ timesZ n ∧ timesZ n ≤ 300 ∧ min (max n 1) 300 = (timesZ n : Int) := by unfold timesZ; omega
theorem upZ_zero {T r : Int} (hr : 0 ≤ r) : upZ T r 0 = r := by unfold upZ; split <;> omega
theorem downZ_zero {R B r : Int} (hr : r < R) : downZ R B r 0 = r := by unfold downZ; split <;> omega
set_option maxHeartbeats 1600000 in
theorem stepUp_c (R C T B : Int) (o : Bool) (r n : Int) (w : World) (hT : 0 ≤ T) (hr : 0 ≤ r ∧ r < 60) : Calls Try.prog 18 #[areaA R C T B o, .int .i64 r, .int .i64 (-1), .int .i64 n] w fun en w' => en = .returned (.int .i64 (upZ T r (timesZ n))) ∧ Below w.heap.size w w' := by
  unfold areaA
  obtain ⟨m1, m2, hm⟩ := times_pos n
  generalize timesZ n = m at *
  obtain ⟨res, hres⟩ : ∃ x, Hid (upZ T r m = x) := ⟨_, rfl⟩
  rw [hres.out]
  go_enter Try.func18, Try.ntmps18
  go_upto_region 3 with (fail)
  clear hm
  go_loopw [1, 9] (fun s i wr => ∃ j : Nat, j ≤ m ∧ i = .int .i64 j ∧ s = .int .i64 (upZ T r j) ∧ Hid (Blk wr w.heap.size 29 [.int .i64 R, .int .i64 C, .int .i64 T, .int .i64 B, .bool o] ∧ Below w.heap.size w wr)) (fun _ i _ => m - (intOf i).toNat)
  case atStart => exact ⟨0, Nat.zero_le _, rfl, by rw [upZ_zero hr.1], Lib.hid ⟨Blk.new _ _ _, alloc_below' _ _⟩⟩
  case round =>
    obtain ⟨j, hj, rfl, rfl, HB⟩ := hrel
    have c2 : wr.cell? ⟨w.heap.size, 2, none⟩ = some (.int .i64 T) := HB.out.1.cell 2
    obtain ⟨l0, l1⟩ := upZ_low (n := j) hT hr.1
    by_cases hlt : j < m
    · have hlt2 : (j : Int) < (m : Int) := by omega
      have HU := Lib.hid (fun h1 h2 => upZ_succ (T := T) (r := r) (n := j) h1 h2)
      have HV := Lib.hid (fun h => upZ_stop (T := T) (r := r) (n := j) hT h m hj)
      generalize upZ T r j = x at *
      have hw : IntKind.i64.wrap (x + -1) = x - 1 := by rw [IntWalk.i64_in _ (by omega)]; rfl
      by_cases e1 : x = T
      · have d1 : (x == T) = true := by simpa using e1
        have HR := Lib.hid (HV.out (.inl e1))
        clear e1 HU HV l0 l1
        go_wp2
        go_ret
        exact ⟨by rw [← hres.out, HR.out]; rfl, HB.out.2⟩
      · have d1 : (x == T) = false := by simpa using e1
        by_cases e2 : x = 0
        · have d2 : (x == 0) = true := by simpa using e2
          have HR := Lib.hid (HV.out (.inr e2))
          clear e1 e2 HU HV l0 l1
          go_wp2
          go_ret
          exact ⟨by rw [← hres.out, HR.out]; rfl, HB.out.2⟩
        · have d2 : (x == 0) = false := by simpa using e2
          have HR := Lib.hid (HU.out e1 e2)
          clear e1 e2 HU HV
          go_wp2
          go_roundw
          case rel => exact ⟨j + 1, by omega, by go_num, by rw [HR.out], HB⟩
          case measure => simp [intOf]; omega
    · obtain rfl : j = m := by omega
      go_wp2
      go_ret
      exact ⟨by rw [← hres.out]; rfl, HB.out.2⟩
set_option maxHeartbeats 1600000 in
theorem stepDown_c (R C T B : Int) (o : Bool) (r n : Int) (w : World) (hB : B < R) (hR : R ≤ 60) (hr : 0 ≤ r ∧ r < R) : Calls Try.prog 18 #[areaA R C T B o, .int .i64 r, .int .i64 1, .int .i64 n] w fun en w' => en = .returned (.int .i64 (downZ R B r (timesZ n))) ∧ Below w.heap.size w w' := by
  unfold areaA
  obtain ⟨m1, m2, hm⟩ := times_pos n
  generalize timesZ n = m at *
  obtain ⟨res, hres⟩ : ∃ x, Hid (downZ R B r m = x) := ⟨_, rfl⟩
  rw [hres.out]
  have hw1 : IntKind.i64.wrap (R - 1) = R - 1 := IntWalk.i64_in _ (by omega)
  go_enter Try.func18, Try.ntmps18
  go_upto_region 3 with (fail)
  clear hm
  go_loopw [1, 9] (fun s i wr => ∃ j : Nat, j ≤ m ∧ i = .int .i64 j ∧ s = .int .i64 (downZ R B r j) ∧ Hid (Blk wr w.heap.size 29 [.int .i64 R, .int .i64 C, .int .i64 T, .int .i64 B, .bool o] ∧ Below w.heap.size w wr)) (fun _ i _ => m - (intOf i).toNat)
  case atStart => exact ⟨0, Nat.zero_le _, rfl, by rw [downZ_zero hr.2], Lib.hid ⟨Blk.new _ _ _, alloc_below' _ _⟩⟩
  case round =>
    obtain ⟨j, hj, rfl, rfl, HB⟩ := hrel
    have c0 : wr.cell? ⟨w.heap.size, 0, none⟩ = some (.int .i64 R) := HB.out.1.cell 0
    have c3 : wr.cell? ⟨w.heap.size, 3, none⟩ = some (.int .i64 B) := HB.out.1.cell 3
    obtain ⟨l0, l1⟩ := downZ_high (n := j) hB hr.2
    by_cases hlt : j < m
    · have hlt2 : (j : Int) < (m : Int) := by omega
      have HU := Lib.hid (fun h1 h2 => downZ_succ (R := R) (B := B) (r := r) (n := j) hB h1 h2)
      have HV := Lib.hid (fun h => downZ_stop (R := R) (B := B) (r := r) (n := j) hB h m hj)
      generalize downZ R B r j = x at *
      have hw : IntKind.i64.wrap (x + 1) = x + 1 := IntWalk.i64_in _ (by omega)
      by_cases e1 : x = B
      · have d1 : (x == B) = true := by simpa using e1
        have HR := Lib.hid (HV.out (.inl e1))
        clear e1 HU HV l0 l1
        go_wp2
        go_ret
        exact ⟨by rw [← hres.out, HR.out]; rfl, HB.out.2⟩
      · have d1 : (x == B) = false := by simpa using e1
        by_cases e2 : x = R - 1
        · have d2 : (x == R - 1) = true := by simpa using e2
          have HR := Lib.hid (HV.out (.inr e2))
          clear e1 e2 HU HV l0 l1
          go_wp2
          go_ret
          exact ⟨by rw [← hres.out, HR.out]; rfl, HB.out.2⟩
        · have d2 : (x == R - 1) = false := by simpa using e2
          have HR := Lib.hid (HU.out e1 e2)
          clear e1 e2 HU HV
          go_wp2
          go_roundw
          case rel => exact ⟨j + 1, by omega, by go_num, by rw [HR.out], HB⟩
          case measure => simp [intOf]; omega
    · obtain rfl : j = m := by omega
      go_wp2
      go_ret
      exact ⟨by rw [← hres.out]; rfl, HB.out.2⟩
/-! ### The chapter's example -/
theorem below_alloc {n : Nat} {w w1 w2 : World} {o : Obj} (h1 : Below n w w1) (hn : n ≤ w1.heap.size) (h2 : Below (w1.alloc o).heap.size (w1.alloc o) w2) : Below n w w2 := (h1.alloc hn o).trans (h2.mono (by simp; omega))
set_option maxHeartbeats 1600000 in
theorem awake14_c (w : World) : Calls Try.prog 7 #[] w fun en w' => en = .returned (.bool true) ∧ Below w.heap.size w w' := by
  have HF : Hid (∀ W, Calls Try.prog 22 #[areaA 3 4 0 2 false, caretA 2 1 false] W (FeedPost W 2 1 false 1)) := fun W => feed_c 3 4 0 2 false 2 1 false W (by decide)
  unfold FeedPost areaA caretA at HF
  go_enter Try.func7, Try.ntmps7
  go_wp2_with fail
  refine (whole_c 3 4 w (by decide)).mono ?_
  rintro en w1 ⟨rfl, hb1⟩
  unfold areaA
  go_wp2_with fail
  refine (HF.out _).mono ?_
  rintro en w2 ⟨rfl, hb2⟩
  go_wp2
  go_ret
  have h2 := below_alloc hb1 hb1.size hb2
  exact ⟨rfl, h2.alloc h2.size _⟩
end Go.Proofs.Ytdcbiknlihfhcaa
