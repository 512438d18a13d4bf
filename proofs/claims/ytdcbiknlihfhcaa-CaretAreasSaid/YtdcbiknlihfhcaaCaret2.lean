/- What the moves of package caret do, as walks through the translated text: Up, Down, Left, Ahead, Goto, Hold. Conditions: the area may be and the caret fits, as far as the move needs it. -/
import Derived.Test.YtdcbiknlihfhcaaCaret1
namespace Go.Proofs.Ytdcbiknlihfhcaa
open Go.ChangeShapes Go.WideShapes Go.RowKit
def CaretPost (w : World) (r c : Int) (q : Bool) (en : Ending) (w' : World) : Prop := en = .returned (caretA r c q) ∧ Below w.heap.size w w'
theorem below2 (w : World) (o1 o2 : Obj) : Below w.heap.size w ((w.alloc o1).alloc o2) := (alloc_below' w o1).alloc (by simp) o2
theorem below3 (w : World) (o1 o2 o3 : Obj) : Below w.heap.size w (((w.alloc o1).alloc o2).alloc o3) := (below2 w o1 o2).alloc (by simp; omega) o3
theorem blk3 (w : World) (o1 o2 : Obj) (t : TypeId) (cs : List Value) : Blk (((w.alloc o1).alloc o2).alloc (.cells cs.toArray t)) (w.heap.size + 1 + 1) t cs := by
  have := Blk.new ((w.alloc o1).alloc o2) t cs
  rwa [World.size_alloc, World.size_alloc] at this
theorem blk2 (w : World) (o1 : Obj) (t : TypeId) (cs : List Value) : Blk ((w.alloc o1).alloc (.cells cs.toArray t)) (w.heap.size + 1) t cs := by
  have := Blk.new (w.alloc o1) t cs
  rwa [World.size_alloc] at this
theorem sizeCaret : (Try.prog.info? 25).map (·.size) = some 3 := by kernel_rfl
theorem one_caretV (r c : Int) (q : Bool) : ∀ v ∈ [Value.int .i64 r, .int .i64 c, .bool q], v.oneCell' = true := by
  intro v hv
  simp only [List.mem_cons, List.not_mem_nil, or_false] at hv
  rcases hv with rfl | rfl | rfl <;> rfl
theorem sizeArea : (Try.prog.info? 23).map (·.size) = some 5 := by kernel_rfl
theorem one_areaV (R C T B : Int) (o : Bool) : ∀ v ∈ [Value.int .i64 R, .int .i64 C, .int .i64 T, .int .i64 B, .bool o], v.oneCell' = true := by
  intro v hv
  simp only [List.mem_cons, List.not_mem_nil, or_false] at hv
  rcases hv with rfl | rfl | rfl | rfl | rfl <;> rfl
/-- How often, as the reference counts. -/
def timesZ (n : Int) : Nat := (min (max n 1) 300).toNat
set_option maxHeartbeats 1600000 in
theorem left_c (R C T B : Int) (o : Bool) (r c : Int) (q : Bool) (n : Int) (w : World) (hc : 0 ≤ c ∧ c ≤ 132) : Calls Try.prog 16 #[areaA R C T B o, caretA r c q, .int .i64 n] w (CaretPost w r (c - min (max n 1) c) false) := by
  unfold CaretPost areaA caretA
  obtain ⟨k, hk⟩ : ∃ k, min (max n 1) (c) = k := ⟨_, rfl⟩
  have HS : Hid (∀ W, Calls Try.prog 26 #[.int .i64 n, .int .i64 (c)] W fun en w' => en = .returned (.int .i64 k) ∧ w' = W) := fun W => by rw [← hk]; exact steps_c n (c) W
  have hw0 : IntKind.i64.wrap (c - k) = c - k := IntWalk.i64_in _ (by omega)
  rw [hk]
  clear hk hc
  go_enter Try.func16, Try.ntmps16
  go_upto_region 1 with (fail)
  refine wp_region_still_tail 9 (by kernel_rfl) (by kernel_rfl) ?_
  simp only [List.take_succ_cons, List.take_zero, List.drop_succ_cons, List.drop_zero]
  change wpStill _ _ (World.drew _) (fun a' => wpList _ _ _ _ a' (World.drew _)) _ _
  repeat still_step
  still_call (HS.out _)
  repeat still_step
  try refine wpStill_nil ?_
  change wpList _ _ _ _ _ (World.drew _)
  go_wp2
  refine bodyPost_ret (v := .agg #[.int .i64 r, .int .i64 (c - k), .bool false]) ?_ rfl ⟨rfl, (below3 w _ _ _).drew⟩
  exact results_cell_row rfl _ _ (w.heap.size + 1 + 1) _ _ _ _ rfl (blk3 w _ _ _ _).drew Try.underlying25 rfl (by kernel_rfl)
set_option maxHeartbeats 1600000 in
theorem ahead_c (R C T B : Int) (o : Bool) (r c : Int) (q : Bool) (n : Int) (w : World) (hc : 0 ≤ c ∧ c < C ∧ C ≤ 132) : Calls Try.prog 17 #[areaA R C T B o, caretA r c q, .int .i64 n] w (CaretPost w r (c + min (max n 1) (C - 1 - c)) false) := by
  unfold CaretPost areaA caretA
  obtain ⟨k, hk⟩ : ∃ k, min (max n 1) (C - 1 - c) = k := ⟨_, rfl⟩
  have HS : Hid (∀ W, Calls Try.prog 26 #[.int .i64 n, .int .i64 (C - 1 - c)] W fun en w' => en = .returned (.int .i64 k) ∧ w' = W) := fun W => by rw [← hk]; exact steps_c n (C - 1 - c) W
  have hw0 : IntKind.i64.wrap (C - 1) = C - 1 := IntWalk.i64_in _ (by omega)
  have hw1 : IntKind.i64.wrap (C - 1 - c) = C - 1 - c := IntWalk.i64_in _ (by omega)
  have hw2 : IntKind.i64.wrap (c + k) = c + k := IntWalk.i64_in _ (by omega)
  rw [hk]
  clear hk hc
  go_enter Try.func17, Try.ntmps17
  go_upto_region 1 with (fail)
  refine wp_region_still_tail 13 (by kernel_rfl) (by kernel_rfl) ?_
  simp only [List.take_succ_cons, List.take_zero, List.drop_succ_cons, List.drop_zero]
  change wpStill _ _ (World.drew _) (fun a' => wpList _ _ _ _ a' (World.drew _)) _ _
  repeat still_step
  still_call (HS.out _)
  repeat still_step
  try refine wpStill_nil ?_
  change wpList _ _ _ _ _ (World.drew _)
  go_wp2
  refine bodyPost_ret (v := .agg #[.int .i64 r, .int .i64 (c + k), .bool false]) ?_ rfl ⟨rfl, (below3 w _ _ _).drew⟩
  exact results_cell_row rfl _ _ (w.heap.size + 1 + 1) _ _ _ _ rfl (blk3 w _ _ _ _).drew Try.underlying25 rfl (by kernel_rfl)
set_option maxHeartbeats 1600000 in
theorem up_c (R C T B : Int) (o : Bool) (r c : Int) (q : Bool) (n : Int) (w : World) (hc : 0 ≤ T ∧ 0 ≤ r ∧ r < 60) : Calls Try.prog 14 #[areaA R C T B o, caretA r c q, .int .i64 n] w (CaretPost w (upZ T r (timesZ n)) c false) := by
  unfold CaretPost areaA caretA
  by_cases h : T ≤ r
  · obtain ⟨k, hk⟩ : ∃ k, min (max n 1) (r - T) = k := ⟨_, rfl⟩
    have HS : Hid (∀ W, Calls Try.prog 26 #[.int .i64 n, .int .i64 (r - T)] W fun en w' => en = .returned (.int .i64 k) ∧ w' = W) := fun W => by rw [← hk]; exact steps_c n (r - T) W
    have hres : Hid (upZ T r (timesZ n) = r - k) := by show _ = _; rw [← hk]; unfold upZ timesZ; split <;> omega
    have hw0 : IntKind.i64.wrap (r - T) = r - T := IntWalk.i64_in _ (by omega)
    have hw1 : IntKind.i64.wrap (r - k) = r - k := IntWalk.i64_in _ (by omega)
    rw [hres.out]
    clear hk hc hres
    go_enter Try.func14, Try.ntmps14
    go_upto_region 4 with (fail)
    refine wp_region_still_tail 11 (by kernel_rfl) (by kernel_rfl) ?_
    simp only [List.take_succ_cons, List.take_zero, List.drop_succ_cons, List.drop_zero]
    change wpStill _ _ (World.drew _) (fun a' => wpList _ _ _ _ a' (World.drew _)) _ _
    repeat still_step
    still_call (HS.out _)
    repeat still_step
    try refine wpStill_nil ?_
    change wpList _ _ _ _ _ (World.drew _)
    go_wp2
    refine bodyPost_ret (v := .agg #[.int .i64 (r - k), .int .i64 c, .bool false]) ?_ rfl ⟨rfl, (below3 w _ _ _).drew⟩
    exact results_cell_row rfl _ _ (w.heap.size + 1 + 1) _ _ _ _ rfl (blk3 w _ _ _ _).drew Try.underlying25 rfl (by kernel_rfl)
  · obtain ⟨k, hk⟩ : ∃ k, min (max n 1) (r) = k := ⟨_, rfl⟩
    have HS : Hid (∀ W, Calls Try.prog 26 #[.int .i64 n, .int .i64 (r)] W fun en w' => en = .returned (.int .i64 k) ∧ w' = W) := fun W => by rw [← hk]; exact steps_c n (r) W
    have hres : Hid (upZ T r (timesZ n) = r - k) := by show _ = _; rw [← hk]; unfold upZ timesZ; split <;> omega
    have hw0 : IntKind.i64.wrap (r) = r := IntWalk.i64_in _ (by omega)
    have hw1 : IntKind.i64.wrap (r - k) = r - k := IntWalk.i64_in _ (by omega)
    have hd : decide (T ≤ r) = false := by rw [decide_eq_false_iff_not]; exact h
    rw [hres.out]
    clear hk hc hres
    go_enter Try.func14, Try.ntmps14
    go_upto_region 4 with (fail)
    refine wp_region_still_tail 11 (by kernel_rfl) (by kernel_rfl) ?_
    simp only [List.take_succ_cons, List.take_zero, List.drop_succ_cons, List.drop_zero]
    change wpStill _ _ (World.drew _) (fun a' => wpList _ _ _ _ a' (World.drew _)) _ _
    repeat still_step
    still_call (HS.out _)
    repeat still_step
    try refine wpStill_nil ?_
    change wpList _ _ _ _ _ (World.drew _)
    go_wp2
    refine bodyPost_ret (v := .agg #[.int .i64 (r - k), .int .i64 c, .bool false]) ?_ rfl ⟨rfl, (below3 w _ _ _).drew⟩
    exact results_cell_row rfl _ _ (w.heap.size + 1 + 1) _ _ _ _ rfl (blk3 w _ _ _ _).drew Try.underlying25 rfl (by kernel_rfl)
set_option maxHeartbeats 1600000 in
theorem down_c (R C T B : Int) (o : Bool) (r c : Int) (q : Bool) (n : Int) (w : World) (hc : B < R ∧ R ≤ 60 ∧ 0 ≤ r ∧ r < R) : Calls Try.prog 15 #[areaA R C T B o, caretA r c q, .int .i64 n] w (CaretPost w (downZ R B r (timesZ n)) c false) := by
  unfold CaretPost areaA caretA
  by_cases h : r ≤ B
  · obtain ⟨k, hk⟩ : ∃ k, min (max n 1) (B - r) = k := ⟨_, rfl⟩
    have HS : Hid (∀ W, Calls Try.prog 26 #[.int .i64 n, .int .i64 (B - r)] W fun en w' => en = .returned (.int .i64 k) ∧ w' = W) := fun W => by rw [← hk]; exact steps_c n (B - r) W
    have hres : Hid (downZ R B r (timesZ n) = r + k) := by show _ = _; rw [← hk]; unfold downZ timesZ; split <;> omega
    have hw0 : IntKind.i64.wrap (R - 1) = R - 1 := IntWalk.i64_in _ (by omega)
    have hw1 : IntKind.i64.wrap (B - r) = B - r := IntWalk.i64_in _ (by omega)
    have hw2 : IntKind.i64.wrap (r + k) = r + k := IntWalk.i64_in _ (by omega)
    rw [hres.out]
    clear hk hc hres
    go_enter Try.func15, Try.ntmps15
    go_upto_region 4 with (fail)
    refine wp_region_still_tail 11 (by kernel_rfl) (by kernel_rfl) ?_
    simp only [List.take_succ_cons, List.take_zero, List.drop_succ_cons, List.drop_zero]
    change wpStill _ _ (World.drew _) (fun a' => wpList _ _ _ _ a' (World.drew _)) _ _
    repeat still_step
    still_call (HS.out _)
    repeat still_step
    try refine wpStill_nil ?_
    change wpList _ _ _ _ _ (World.drew _)
    go_wp2
    refine bodyPost_ret (v := .agg #[.int .i64 (r + k), .int .i64 c, .bool false]) ?_ rfl ⟨rfl, (below3 w _ _ _).drew⟩
    exact results_cell_row rfl _ _ (w.heap.size + 1 + 1) _ _ _ _ rfl (blk3 w _ _ _ _).drew Try.underlying25 rfl (by kernel_rfl)
  · obtain ⟨k, hk⟩ : ∃ k, min (max n 1) (R - 1 - r) = k := ⟨_, rfl⟩
    have HS : Hid (∀ W, Calls Try.prog 26 #[.int .i64 n, .int .i64 (R - 1 - r)] W fun en w' => en = .returned (.int .i64 k) ∧ w' = W) := fun W => by rw [← hk]; exact steps_c n (R - 1 - r) W
    have hres : Hid (downZ R B r (timesZ n) = r + k) := by show _ = _; rw [← hk]; unfold downZ timesZ; split <;> omega
    have hw0 : IntKind.i64.wrap (R - 1) = R - 1 := IntWalk.i64_in _ (by omega)
    have hw1 : IntKind.i64.wrap (R - 1 - r) = R - 1 - r := IntWalk.i64_in _ (by omega)
    have hw2 : IntKind.i64.wrap (r + k) = r + k := IntWalk.i64_in _ (by omega)
    have hd : decide (r ≤ B) = false := by rw [decide_eq_false_iff_not]; exact h
    rw [hres.out]
    clear hk hc hres
    go_enter Try.func15, Try.ntmps15
    go_upto_region 4 with (fail)
    refine wp_region_still_tail 11 (by kernel_rfl) (by kernel_rfl) ?_
    simp only [List.take_succ_cons, List.take_zero, List.drop_succ_cons, List.drop_zero]
    change wpStill _ _ (World.drew _) (fun a' => wpList _ _ _ _ a' (World.drew _)) _ _
    repeat still_step
    still_call (HS.out _)
    repeat still_step
    try refine wpStill_nil ?_
    change wpList _ _ _ _ _ (World.drew _)
    go_wp2
    refine bodyPost_ret (v := .agg #[.int .i64 (r + k), .int .i64 c, .bool false]) ?_ rfl ⟨rfl, (below3 w _ _ _).drew⟩
    exact results_cell_row rfl _ _ (w.heap.size + 1 + 1) _ _ _ _ rfl (blk3 w _ _ _ _).drew Try.underlying25 rfl (by kernel_rfl)
/-- Where Goto leads. -/
def gotoZ (o : Bool) (R T B a : Int) : Int := if o then T + min (max a 1 - 1) (B - T) else min (max a 1 - 1) (R - 1)
set_option maxHeartbeats 1600000 in
theorem goto_c (R C T B : Int) (o : Bool) (a b : Int) (w : World) (hc : 1 ≤ R ∧ R ≤ 60 ∧ 1 ≤ C ∧ C ≤ 132 ∧ 0 ≤ T ∧ T ≤ B ∧ B < R) (ha : a ≤ 9223372036854775807) (hb : b ≤ 9223372036854775807) : Calls Try.prog 20 #[areaA R C T B o, .int .i64 a, .int .i64 b] w (CaretPost w (gotoZ o R T B a) (min (max b 1 - 1) (C - 1)) false) := by
  unfold CaretPost areaA caretA
  obtain ⟨y, hy⟩ : ∃ k, min (max b 1 - 1) (C - 1) = k := ⟨_, rfl⟩
  have HSC : Hid (∀ W, Calls Try.prog 27 #[.int .i64 b, .int .i64 (C - 1)] W fun en w' => en = .returned (.int .i64 y) ∧ w' = W) := fun W => by rw [← hy]; exact place_c b (C - 1) W hb
  have hw1 : IntKind.i64.wrap (C - 1) = C - 1 := IntWalk.i64_in _ (by omega)
  have hw2 : IntKind.i64.wrap (R - 1) = R - 1 := IntWalk.i64_in _ (by omega)
  rw [hy]
  clear hy hb
  cases o
  · obtain ⟨x, hx⟩ : ∃ k, min (max a 1 - 1) (R - 1) = k := ⟨_, rfl⟩
    have HSR : Hid (∀ W, Calls Try.prog 27 #[.int .i64 a, .int .i64 (R - 1)] W fun en w' => en = .returned (.int .i64 x) ∧ w' = W) := fun W => by rw [← hx]; exact place_c a (R - 1) W ha
    have hres : Hid (gotoZ false R T B a = x) := by show _ = _; rw [← hx]; rfl
    have hw3 : IntKind.i64.wrap (R - 1) = R - 1 := IntWalk.i64_in _ (by omega)
    have hw4 : IntKind.i64.wrap (x) = x := IntWalk.i64_in _ (by omega)
    rw [hres.out]
    clear hx hc hres ha
    go_enter Try.func20, Try.ntmps20
    go_upto_region 1 with (fail)
    go_quiet (fail)
    go_upto_region 4 with (fail)
    refine name_wp (fun w3 => Blk w3 w.heap.size 23 [.int .i64 R, .int .i64 C, .int .i64 T, .int .i64 B, .bool false] ∧ Blk w3 (w.heap.size + 1) 25 [.int .i64 0, .int .i64 0, .bool false] ∧ Below w.heap.size w w3) ⟨?_, ?_, ?_⟩ ?_
    · exact ((Blk.new w _ _).alloc _).drewN _
    · exact (blk2 w _ _ _).drewN _
    · exact belowDrewN (below2 w _ _) _
    rintro w3 ⟨hb1, hb2, hbel⟩
    have HB2 := Lib.hid hb2.drew
    have HBl := Lib.hid hbel.drew
    have c1 : w3.drew.cell? ⟨w.heap.size, 1, none⟩ = some (.int .i64 C) := hb1.drew.cell 1
    clear hb1 hb2 hbel
    generalize hz : w.heap.size = z at *
    have HZ := Lib.hid hz
    clear hz
    refine wp_region_still_tail 13 (by kernel_rfl) (by kernel_rfl) ?_
    simp only [List.take_succ_cons, List.take_zero, List.drop_succ_cons, List.drop_zero]
    change wpStill _ _ (World.drew _) (fun a' => wpList _ _ _ _ a' (World.drew _)) _ _
    generalize w3.drew = w4 at *
    repeat still_step
    still_call (HSR.out _)
    repeat still_step
    still_call (HSC.out _)
    repeat still_step
    try refine wpStill_nil ?_
    change wpList _ _ _ _ _ w4
    go_wp2_with ((with_reducible refine at_store 25 ?_); refine wpList_store_at rfl rfl 25 (.tmp 6) (.tmp 30) rfl (z + 1) 0 rfl [.int .i64 (x), .int .i64 y, .bool false] rfl _ _ HB2.out (Nat.le_refl 3) (one_caretV _ _ _) sizeCaret ?_; intro w8 hb8 hg8; rw [splice_all _ _ (by rfl)] at hb8; have HB8 := Lib.hid hb8; have HG8 := Lib.hid hg8; clear hb8 hg8)
    refine bodyPost_ret (v := .agg #[.int .i64 (x), .int .i64 y, .bool false]) ?_ rfl ⟨rfl, ?_⟩
    · exact results_cell_row rfl _ _ (z + 1) _ _ _ _ rfl HB8.out Try.underlying25 rfl (by kernel_rfl)
    · rw [HZ.out]; exact HBl.out.grown HG8.out (by have := HBl.out.size; have := HB2.out.lt; omega) (fun x hx => by cases hx; omega)
  · obtain ⟨x, hx⟩ : ∃ k, min (max a 1 - 1) (B - T) = k := ⟨_, rfl⟩
    have HSR : Hid (∀ W, Calls Try.prog 27 #[.int .i64 a, .int .i64 (B - T)] W fun en w' => en = .returned (.int .i64 x) ∧ w' = W) := fun W => by rw [← hx]; exact place_c a (B - T) W ha
    have hres : Hid (gotoZ true R T B a = T + x) := by show _ = _; rw [← hx]; rfl
    have hw3 : IntKind.i64.wrap (B - T) = B - T := IntWalk.i64_in _ (by omega)
    have hw4 : IntKind.i64.wrap (T + x) = T + x := IntWalk.i64_in _ (by omega)
    rw [hres.out]
    clear hx hc hres ha
    go_enter Try.func20, Try.ntmps20
    go_upto_region 1 with (fail)
    go_quiet (fail)
    go_upto_region 3 with (fail)
    go_quiet (fail)
    go_upto_region 4 with (fail)
    refine name_wp (fun w3 => Blk w3 w.heap.size 23 [.int .i64 R, .int .i64 C, .int .i64 T, .int .i64 B, .bool true] ∧ Blk w3 (w.heap.size + 1) 25 [.int .i64 0, .int .i64 0, .bool false] ∧ Below w.heap.size w w3) ⟨?_, ?_, ?_⟩ ?_
    · exact (((Blk.new w _ _).alloc _).drewN _).drewN _
    · exact ((blk2 w _ _ _).drewN _).drewN _
    · exact belowDrewN (belowDrewN (below2 w _ _) _) _
    rintro w3 ⟨hb1, hb2, hbel⟩
    have HB2 := Lib.hid hb2.drew
    have HBl := Lib.hid hbel.drew
    have c1 : w3.drew.cell? ⟨w.heap.size, 1, none⟩ = some (.int .i64 C) := hb1.drew.cell 1
    clear hb1 hb2 hbel
    generalize hz : w.heap.size = z at *
    have HZ := Lib.hid hz
    clear hz
    refine wp_region_still_tail 13 (by kernel_rfl) (by kernel_rfl) ?_
    simp only [List.take_succ_cons, List.take_zero, List.drop_succ_cons, List.drop_zero]
    change wpStill _ _ (World.drew _) (fun a' => wpList _ _ _ _ a' (World.drew _)) _ _
    generalize w3.drew = w4 at *
    repeat still_step
    still_call (HSR.out _)
    repeat still_step
    still_call (HSC.out _)
    repeat still_step
    try refine wpStill_nil ?_
    change wpList _ _ _ _ _ w4
    go_wp2_with ((with_reducible refine at_store 25 ?_); refine wpList_store_at rfl rfl 25 (.tmp 6) (.tmp 30) rfl (z + 1) 0 rfl [.int .i64 (T + x), .int .i64 y, .bool false] rfl _ _ HB2.out (Nat.le_refl 3) (one_caretV _ _ _) sizeCaret ?_; intro w8 hb8 hg8; rw [splice_all _ _ (by rfl)] at hb8; have HB8 := Lib.hid hb8; have HG8 := Lib.hid hg8; clear hb8 hg8)
    refine bodyPost_ret (v := .agg #[.int .i64 (T + x), .int .i64 y, .bool false]) ?_ rfl ⟨rfl, ?_⟩
    · exact results_cell_row rfl _ _ (z + 1) _ _ _ _ rfl HB8.out Try.underlying25 rfl (by kernel_rfl)
    · rw [HZ.out]; exact HBl.out.grown HG8.out (by have := HBl.out.size; have := HB2.out.lt; omega) (fun x hx => by cases hx; omega)
end Go.Proofs.Ytdcbiknlihfhcaa
