/- What the further functions of package caret do, as walks through the translated text: Right, Fits, Whole, Margins, Feed, Back, Wrote, Hold; and the reference's steps. Conditions: the area may be and the caret fits, as far as each needs it. -/
import Derived.Test.YtdcbiknlihfhcaaCaret2
namespace Go.Proofs.Ytdcbiknlihfhcaa
open Go.ChangeShapes Go.WideShapes Go.RowKit
theorem results_cell_row2 {P : Program} {fn : Func} {p u : Tmp} {ty : TypeId} (h : fn.results = #[.cell p ty, .tmp u]) (tmps : Array Value) (w : World) (g : Nat) (t : TypeId) (cs : Array Value) (fr : Nat × Nat) (d : TypeDesc) (x : Value)
    (hp : tmps.getD p undef = .pointer (some ⟨g, 0, none⟩)) (hu' : tmps.getD u undef = x) (hg : w.heap[g]? = some (.cells cs t fr))
    (hu : P.underlying ty = some d) (hd : (match d with | .struct _ | .array _ _ => true | _ => false) = true) (hi : (P.info? ty).map (·.size) = some cs.size) :
    (results fn tmps).run P w = .ok (.tuple #[.agg cs, x]) w := by
  rw [results_cell_tmp h, hp, hu']
  simp [asAddr, Result.andThen, run_loadVar_row w g t ty cs fr d hg hu hd hi]
/-! ### Hold -/
set_option maxHeartbeats 1600000 in
theorem hold_c (R C T B : Int) (o : Bool) (r c : Int) (q : Bool) (w : World) (hc : 1 ≤ R ∧ R ≤ 60 ∧ 1 ≤ C ∧ C ≤ 132) : Calls Try.prog 21 #[areaA R C T B o, caretA r c q] w (CaretPost w (min (max r 0) (R - 1)) (min (max c 0) (C - 1)) (q && (c == C - 1))) := by
  unfold CaretPost areaA caretA
  have hw1 : IntKind.i64.wrap (C - 1) = C - 1 := IntWalk.i64_in _ (by omega)
  have hw2 : IntKind.i64.wrap (R - 1) = R - 1 := IntWalk.i64_in _ (by omega)
  cases q
  · go_enter Try.func21, Try.ntmps21
    go_wp2
    refine bodyPost_ret (v := .agg #[.int .i64 (min (max r 0) (R - 1)), .int .i64 (min (max c 0) (C - 1)), .bool false]) ?_ rfl ⟨rfl, below3 w _ _ _⟩
    exact results_cell_row rfl _ _ (w.heap.size + 1 + 1) _ _ _ _ rfl (blk3 w _ _ _ _) Try.underlying25 rfl (by kernel_rfl)
  · obtain ⟨e, he⟩ : ∃ e, (c == C - 1) = e := ⟨_, rfl⟩
    rw [he]
    go_enter Try.func21, Try.ntmps21
    go_wp2
    refine bodyPost_ret (v := .agg #[.int .i64 (min (max r 0) (R - 1)), .int .i64 (min (max c 0) (C - 1)), .bool e]) ?_ rfl ⟨rfl, below3 w _ _ _⟩
    exact results_cell_row rfl _ _ (w.heap.size + 1 + 1) _ _ _ _ rfl (blk3 w _ _ _ _) Try.underlying25 rfl (by kernel_rfl)
/-! ### Feed, Back, Wrote -/
def FeedPost (w : World) (r c : Int) (q : Bool) (k : Int) (en : Ending) (w' : World) : Prop := en = .returned (.tuple #[caretA r c q, .int .i64 k]) ∧ Below w.heap.size w w'
set_option maxHeartbeats 1600000 in
theorem feed_c (R C T B : Int) (o : Bool) (r c : Int) (q : Bool) (w : World) (hc : R ≤ 60 ∧ B < R ∧ 0 ≤ r ∧ r < R) : Calls Try.prog 22 #[areaA R C T B o, caretA r c q] w (FeedPost w (downZ R B r 1) c q (if r = B then 1 else 0)) := by
  unfold FeedPost areaA caretA
  by_cases h : r = B
  · subst h
    have hres : Hid (downZ R r r 1 = r) := by show _ = _; unfold downZ; split <;> omega
    rw [hres.out, if_pos rfl]
    go_enter Try.func22, Try.ntmps22
    go_wp2
    refine bodyPost_ret (v := .tuple #[.agg #[.int .i64 r, .int .i64 c, .bool q], .int .i64 1]) ?_ rfl ⟨rfl, below3 w _ _ _⟩
    exact results_cell_row2 rfl _ _ (w.heap.size + 1 + 1) _ _ _ _ _ rfl rfl (blk3 w _ _ _ _) Try.underlying25 rfl (by kernel_rfl)
  · have hd : (r == B) = false := by simpa using h
    have hres : Hid (downZ R B r 1 = min (r + 1) (R - 1)) := by show _ = _; unfold downZ; split <;> omega
    rw [hres.out, if_neg h]
    clear hres
    go_enter Try.func22, Try.ntmps22
    go_wp2
    refine bodyPost_ret (v := .tuple #[.agg #[.int .i64 (min (r + 1) (R - 1)), .int .i64 c, .bool q], .int .i64 0]) ?_ rfl ⟨rfl, below3 w _ _ _⟩
    exact results_cell_row2 rfl _ _ (w.heap.size + 1 + 1) _ _ _ _ _ rfl rfl (blk3 w _ _ _ _) Try.underlying25 rfl (by kernel_rfl)
set_option maxHeartbeats 1600000 in
theorem back_c (R C T B : Int) (o : Bool) (r c : Int) (q : Bool) (w : World) (hc : 0 ≤ T ∧ 0 ≤ r ∧ r < 60) : Calls Try.prog 23 #[areaA R C T B o, caretA r c q] w (FeedPost w (upZ T r 1) c q (if r = T then 1 else 0)) := by
  unfold FeedPost areaA caretA
  by_cases h : r = T
  · subst h
    have hres : Hid (upZ r r 1 = r) := by show _ = _; unfold upZ; split <;> omega
    rw [hres.out, if_pos rfl]
    go_enter Try.func23, Try.ntmps23
    go_wp2
    refine bodyPost_ret (v := .tuple #[.agg #[.int .i64 r, .int .i64 c, .bool q], .int .i64 1]) ?_ rfl ⟨rfl, below3 w _ _ _⟩
    exact results_cell_row2 rfl _ _ (w.heap.size + 1 + 1) _ _ _ _ _ rfl rfl (blk3 w _ _ _ _) Try.underlying25 rfl (by kernel_rfl)
  · have hd : (r == T) = false := by simpa using h
    have hres : Hid (upZ T r 1 = max (r - 1) 0) := by show _ = _; unfold upZ; split <;> omega
    rw [hres.out, if_neg h]
    clear hres
    go_enter Try.func23, Try.ntmps23
    go_wp2
    refine bodyPost_ret (v := .tuple #[.agg #[.int .i64 (max (r - 1) 0), .int .i64 c, .bool q], .int .i64 0]) ?_ rfl ⟨rfl, below3 w _ _ _⟩
    exact results_cell_row2 rfl _ _ (w.heap.size + 1 + 1) _ _ _ _ _ rfl rfl (blk3 w _ _ _ _) Try.underlying25 rfl (by kernel_rfl)
def wroteZ (C r c : Int) (b : Bool) : Int × Int × Bool := if c = C - 1 then (r, c, b) else (r, c + 1, false)
set_option maxHeartbeats 1600000 in
theorem wrote_c (R C T B : Int) (o : Bool) (r c : Int) (q b : Bool) (w : World) (hc : 0 ≤ c ∧ c < C ∧ C ≤ 132) : Calls Try.prog 24 #[areaA R C T B o, caretA r c q, .bool b] w (CaretPost w (wroteZ C r c b).1 (wroteZ C r c b).2.1 (wroteZ C r c b).2.2) := by
  unfold CaretPost areaA caretA
  by_cases h : c = C - 1
  · have hd : (c == C - 1) = true := by simpa using h
    have hres : Hid (wroteZ C r c b = (r, c, b)) := if_pos h
    rw [hres.out]
    clear hres h
    go_enter Try.func24, Try.ntmps24
    go_wp2
    refine bodyPost_ret (v := .agg #[.int .i64 r, .int .i64 c, .bool b]) ?_ rfl ⟨rfl, below3 w _ _ _⟩
    exact results_cell_row rfl _ _ (w.heap.size + 1 + 1) _ _ _ _ rfl (blk3 w _ _ _ _) Try.underlying25 rfl (by kernel_rfl)
  · have hd : (c == C - 1) = false := by simpa using h
    have hres : Hid (wroteZ C r c b = (r, c + 1, false)) := if_neg h
    rw [hres.out]
    clear hres h
    go_enter Try.func24, Try.ntmps24
    go_wp2
    refine bodyPost_ret (v := .agg #[.int .i64 r, .int .i64 (c + 1), .bool false]) ?_ rfl ⟨rfl, below3 w _ _ _⟩
    exact results_cell_row rfl _ _ (w.heap.size + 1 + 1) _ _ _ _ rfl (blk3 w _ _ _ _) Try.underlying25 rfl (by kernel_rfl)
/-! ### Fits -/
set_option maxHeartbeats 1600000 in
theorem fits_c (R C T B : Int) (o : Bool) (r c : Int) (q : Bool) (w : World) (hc : 1 ≤ C ∧ C ≤ 132) : Calls Try.prog 13 #[areaA R C T B o, caretA r c q] w (BoolPost w (fitsZ R C r c q)) := by
  unfold areaA caretA
  obtain ⟨X, hX⟩ : ∃ X, Hid (fitsZ R C r c q = X) := ⟨_, rfl⟩
  rw [hX.out]
  obtain ⟨b1, h1⟩ : ∃ b, decide (r < 0) = b := ⟨_, rfl⟩
  obtain ⟨b2, h2⟩ : ∃ b, decide (R ≤ r) = b := ⟨_, rfl⟩
  obtain ⟨b3, h3⟩ : ∃ b, decide (c < 0) = b := ⟨_, rfl⟩
  obtain ⟨b4, h4⟩ : ∃ b, decide (C ≤ c) = b := ⟨_, rfl⟩
  obtain ⟨b5, h5⟩ : ∃ b, (c == C - 1) = b := ⟨_, rfl⟩
  have hw1 : IntKind.i64.wrap (C - 1) = C - 1 := IntWalk.i64_in _ (by omega)
  have hS : Hid ((!b1 && !b2 && !b3 && !b4 && (!q || b5)) = X) := by
    show _ = _
    rw [← hX.out, ← h1, ← h2, ← h3, ← h4, ← h5, Bool.eq_iff_iff, fitsZ_iff]
    cases q <;> simp [and_assoc]
  clear hX hc
  cases b1
  · cases b2
    · cases b3
      · cases b4
        · cases q
          all_goals
            go_enter Try.func13, Try.ntmps13
            go_wp2
            go_ret
            exact ⟨ret_bool hS.out, below2 w _ _⟩
        · go_enter Try.func13, Try.ntmps13
          go_wp2
          go_ret
          exact ⟨ret_bool hS.out, below2 w _ _⟩
      · go_enter Try.func13, Try.ntmps13
        go_wp2
        go_ret
        exact ⟨ret_bool hS.out, below2 w _ _⟩
    · go_enter Try.func13, Try.ntmps13
      go_wp2
      go_ret
      exact ⟨ret_bool hS.out, below2 w _ _⟩
  · go_enter Try.func13, Try.ntmps13
    go_wp2
    go_ret
    exact ⟨ret_bool hS.out, below2 w _ _⟩
end Go.Proofs.Ytdcbiknlihfhcaa
