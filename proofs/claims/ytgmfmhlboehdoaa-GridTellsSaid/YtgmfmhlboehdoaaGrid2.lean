/- What the functions of package grid on parts of a board do: rows as a slice, cells filled and moved, as walks through the translated text. Conditions: the board lies in memory of its own, the parts lie in it. -/
import Derived.Test.YtgmfmhlboehdoaaGrid1
namespace Go.Proofs.Ytgmfmhlboehdoaa
open Go.ChangeShapes Go.WideShapes Go.RowKit
set_option maxHeartbeats 800000 in
theorem moves_c (n : Int) (c : CellV) (w : World) : Calls Try.prog 49 #[.int .i64 n, .agg (cellV c).toArray] w (BoolPost w (movesB n c)) := by
  by_cases h1 : 1 ≤ n
  · have hB : Hid (movesB n c = okC c) := by show _ = _; simp [movesB, h1]
    obtain ⟨B, hO⟩ : ∃ B, Hid (okC c = B) := ⟨_, rfl⟩
    rw [hB.out, hO.out]
    simp only [cellV]
    go_enter Try.func49, Try.ntmps49
    go_wp2_with fail
    refine name_Calls (fun w5 => Below w.heap.size w w5) (alloc_below' _ _) ?_
    intro w5 hb5
    refine (right_c c w5).mono ?_
    rw [hO.out]
    rintro en w6 ⟨rfl, hb6⟩
    have HB := Lib.hid (hb5.trans (hb6.mono hb5.size))
    clear hb5 hb6
    go_wp2
    go_ret
    exact ⟨rfl, HB.out⟩
  · have hB : Hid (movesB n c = false) := by show _ = _; simp [movesB, h1]
    rw [hB.out]
    have g1 : decide (1 ≤ n) = false := by simpa using h1
    simp only [cellV]
    go_enter Try.func49, Try.ntmps49
    go_wp2
    go_ret
    exact ⟨rfl, alloc_below' _ _⟩
set_option maxHeartbeats 800000 in
theorem cellsOf_c (b g R C : Nat) (f : Nat → CellV) (n : Int) (t d : Nat) (w : World) (h : BAt w b g R C f) (hn : 1 ≤ n) (ht : t ≤ d) (hd : d < R) : Calls Try.prog 52 #[.pointer (some ⟨b, 0, none⟩), .int .i64 n, .int .i64 t, .int .i64 d] w fun en w' => en = .returned (.int .i64 ((min n.toNat (d + 1 - t) * C : Nat) : Int)) ∧ w = w' := by
  obtain ⟨cap, _, _, c0, c1, c2⟩ := h.three
  obtain ⟨hr1, hr2⟩ := h.rows
  obtain ⟨hc1, hc2⟩ := h.cols
  obtain ⟨k, hk⟩ : ∃ k, Hid (min n.toNat (d + 1 - t) = k) := ⟨_, Lib.hid rfl⟩
  rw [hk.out]
  have hkb : k ≤ 60 := by have := hk.out; omega
  have hp : k * C ≤ 60 * 132 := Nat.mul_le_mul hkb hc2
  have e1 : min n (((d : Int) - (t : Int)) + 1) = (k : Int) := by have := hk.out; omega
  have w1 : IntKind.i64.wrap ((d : Int) - (t : Int)) = (d : Int) - (t : Int) := by rw [IntKind.wrap_i64]; omega
  have w2 : IntKind.i64.wrap ((d : Int) - (t : Int) + 1) = (d : Int) - (t : Int) + 1 := by rw [IntKind.wrap_i64]; omega
  have w3 : IntKind.i64.wrap ((k : Int) * (C : Int)) = ((k * C : Nat) : Int) := by rw [← Int.natCast_mul, IntKind.wrap_i64]; omega
  clear h hk
  go_enter Try.func52, Try.ntmps52
  go_wp2
  go_ret
  exact ⟨by rw [Int.natCast_mul]; rfl, rfl⟩
set_option maxHeartbeats 800000 in
theorem lines_c (b g R C : Nat) (f : Nat → CellV) (t d : Nat) (w : World) (h : BAt w b g R C f) (ht : t ≤ d) (hd : d < R) : Calls Try.prog 51 #[.pointer (some ⟨b, 0, none⟩), .int .i64 t, .int .i64 d] w fun en w' => ∃ cc, en = .returned (.slice (some ⟨g, t * C * 4, none⟩) ((d + 1 - t) * C) cc) ∧ (d + 1 - t) * C ≤ cc ∧ cc ≤ maxLen ∧ ∃ k, w' = w.drewN k := by
  obtain ⟨cap, hcap1, hcap2, c0, c1, c2⟩ := h.three
  obtain ⟨hr1, hr2⟩ := h.rows
  obtain ⟨hc1, hc2⟩ := h.cols
  obtain ⟨_, hsz⟩ := h.size
  obtain ⟨T, hT⟩ : ∃ T, Hid (t * C = T) := ⟨_, Lib.hid rfl⟩
  obtain ⟨m, hm⟩ : ∃ m, Hid ((d + 1 - t) * C = m) := ⟨_, Lib.hid rfl⟩
  obtain ⟨N, hN⟩ : ∃ N, Hid (R * C = N) := ⟨_, Lib.hid rfl⟩
  have hTm : (d + 1) * C = T + m := by rw [← hT.out, ← hm.out, ← Nat.add_mul]; congr 1; omega
  have hle : T + m ≤ N := by rw [← hTm, ← hN.out]; exact Nat.mul_le_mul_right _ (by omega)
  have hm1 : 1 ≤ m := by rw [← hm.out]; exact Nat.mul_pos (by omega) hc1
  rw [hN.out] at hcap1 c2 hsz
  rw [hm.out, hT.out]
  have w1 : IntKind.i64.wrap ((t : Int) * (C : Int)) = (T : Int) := by rw [← Int.natCast_mul, hT.out, IntKind.wrap_i64]; omega
  have w2 : IntKind.i64.wrap ((d : Int) + 1) = ((d + 1 : Nat) : Int) := by rw [IntKind.wrap_i64]; omega
  obtain ⟨E, hE⟩ : ∃ E, E = T + m := ⟨_, rfl⟩
  have w3 : IntKind.i64.wrap (((d : Int) + 1) * (C : Int)) = (E : Int) := by rw [show ((d : Int) + 1) * (C : Int) = (E : Int) by rw [hE, ← hTm]; simp, IntKind.wrap_i64]; omega
  unfold maxLen at hcap2
  have hTc : T < cap := by omega
  have hTE : (T : Int) ≤ (E : Int) := by omega
  have hEc : (E : Int) ≤ (cap : Int) := by omega
  have hT0 : (0 : Int) ≤ (T : Int) := by omega
  have hEm : E - T = m := by omega
  have HE := Lib.hid hE
  clear h hTm hr1 hr2 hc1 hc2 hE
  go_enter Try.func51, Try.ntmps51
  go_wp2_with fail
  go_quiet (fail)
  go_wp2
  go_ret
  exact ⟨_, rfl, by omega, by unfold maxLen; omega, _, rfl⟩
set_option maxHeartbeats 800000 in
theorem line_c (b g R C : Nat) (f : Nat → CellV) (r : Nat) (w : World) (h : BAt w b g R C f) (hr : r < R) : Calls Try.prog 45 #[.pointer (some ⟨b, 0, none⟩), .int .i64 r] w fun en w' => ∃ cc, en = .returned (.slice (some ⟨g, r * C * 4, none⟩) C cc) ∧ C ≤ cc ∧ cc ≤ maxLen ∧ ∃ k, w' = w.drewN k := by
  have hl := Lib.hid (lines_c b g R C f r r w h (Nat.le_refl _) hr)
  rw [show (r + 1 - r) * C = C by rw [show r + 1 - r = 1 by omega, Nat.one_mul]] at hl
  clear h
  go_enter Try.func45, Try.ntmps45
  go_wp2_with fail
  refine hl.out.mono ?_
  rintro en w' ⟨cc, rfl, h1, h2, k, rfl⟩
  go_wp2
  go_ret
  exact ⟨_, rfl, h1, h2, _, rfl⟩
section
variable {P : Program} {ops : Array Oper} {rest : List Oper} {o : Oper} {a : Act} {w : World} {Q : Exit → Act → World → Prop}
theorem run_store_cell (ty : TypeId) (g d off M : Nat) (t : TypeId) (f : Nat → CellV) (c : CellV) (hoff : off = d * 4) (hR : RowAt w g t M f) (hd : d < M) (hi : (P.info? ty).map (·.size) = some 4) :
    ∃ w', (storeVar ty ⟨g, off, none⟩ (.agg (cellV c).toArray)).run P w = .ok () w' ∧ RowAt w' g t M (fun i => if i = d then c else f i) ∧ w.grownBy w' (some g) := by
  subst hoff
  obtain ⟨cur, hb, h1, h2⟩ := hR
  refine ⟨_, run_storeVar_at w g (d * 4) ty t cur (cellV c) hb (by rw [length_cellV]; omega) (one_cellV c) hi, ?_, only_setRow (World.grownBy.refl w _) _⟩
  have h3 : cellV c = (tab 1 fun _ => c).flatMap cellV := by simp [tab]
  refine (RowAt.lay h1 h2 d 1 (fun _ => c) (by omega) ?_).congr fun i _ => ?_
  · rw [← h3]; exact hb.splice_ _
  · by_cases e : i = d
    · rw [if_pos (by omega), if_pos e]
    · rw [if_neg (by omega), if_neg e]
/-- One cell is stored into a block that holds cells. -/
theorem wpList_storeK (hgd : o.guard = none) (hdst : o.dst = none) (ty : TypeId) (p x : Operand) (ho : o.op = .store ty p x) (g d off M : Nat) (t : TypeId) (f : Nat → CellV) (c : CellV) (hp : a.eval p = .pointer (some ⟨g, off, none⟩)) (hx : a.eval x = .agg (cellV c).toArray) (hoff : off = d * 4)
    (hR : RowAt w g t M f) (hd : d < M) (hi : (P.info? ty).map (·.size) = some 4)
    (h : ∀ w', RowAt w' g t M (fun i => if i = d then c else f i) → w.grownBy w' (some g) → wpList P ops Q rest a w') : wpList P ops Q (o :: rest) a w :=
  wpList_plain hgd fun K hK => by
    obtain ⟨w', hrun, h1, h2⟩ := run_store_cell (P := P) ty g d off M t f c hoff hR hd hi
    have := hK a _ (h _ h1 h2)
    unfold Oper.wp execOp
    simp only [ho, hx, hp, Instr.storeAt, Instr.sureAddr, Sem.run_bind, Sem.run_pure, Result.andThen_ok, hrun, Oper.upon_skip, hdst]
    exact this
theorem step_storeK {K : Act → World → Prop} {E : Prop} (hgd : o.guard = none) (hdst : o.dst = none) (ty : TypeId) (p x : Operand) (ho : o.op = .store ty p x) (g d off M : Nat) (t : TypeId) (f : Nat → CellV) (c : CellV) (hp : a.eval p = .pointer (some ⟨g, off, none⟩)) (hx : a.eval x = .agg (cellV c).toArray) (hoff : off = d * 4)
    (hR : RowAt w g t M f) (hd : d < M) (hi : (P.info? ty).map (·.size) = some 4)
    (h : ∀ w', RowAt w' g t M (fun i => if i = d then c else f i) → w.grownBy w' (some g) → K a w') : if Region.wanted o (yielded ops a.tmps) = true then Oper.wp P o a w K Q else E := by
  have hw : Region.wanted o (yielded ops a.tmps) = true := by simp [Region.wanted, hgd]
  rw [if_pos hw]
  obtain ⟨w', hrun, h1, h2⟩ := run_store_cell (P := P) ty g d off M t f c hoff hR hd hi
  have := h _ h1 h2
  unfold Oper.wp execOp
  simp only [ho, hx, hp, Instr.storeAt, Instr.sureAddr, Sem.run_bind, Sem.run_pure, Result.andThen_ok, hrun, Oper.upon_skip, hdst]
  exact this
end
section
variable {P : Program} {t e : TypeId}
theorem run_size4 {P : Program} {e : TypeId} (hs : (P.info? e).map (·.size) = some 4) (w : World) : (sizeOf e).run P w = .ok 4 w := by
  cases hq : P.info? e with
  | none => simp [hq] at hs
  | some i =>
    have : i.size = 4 := by simpa [hq] using hs
    simp [sizeOf, typeInfo, hq, this]
theorem run_cutK_l (hu : P.underlying t = some (.slice e)) (hs : (P.info? e).map (·.size) = some 4) (g p N C : Nat) (kl : IntKind) (i : Nat) (vi : Int) (e1 : vi = (i : Int)) (hm : i ≤ N) (hNC : N ≤ C) (w : World) :
    ∃ A', (Instr.sliceAt t (.slice (some ⟨g, p * 4, none⟩) N C) (some (.int kl vi)) none none).run P w = .ok (.slice A' (N - i) (C - i)) w ∧ (0 < N - i → A' = some ⟨g, (p + i) * 4, none⟩) := by
  have ht : P.underlying t = some (.slice (P.elem t)) := by rw [elem_of hu]; exact hu
  subst e1
  refine ⟨if C = i then some ⟨g, p * 4, none⟩ else (some (⟨g, p * 4, none⟩ : Addr)).map fun x => x.add (i * 4), ?_, ?_⟩
  · rw [run_sliceAt_slice (P := P) w t _ _ _ _ ht, run_slice_l (P := P) w t _ N C ht kl (i : Int) (by omega) (by omega), elem_of hu, run_size4 hs]
    simp [Result.andThen, sliced]
  · intro h
    rw [if_neg (by omega), Option.map_some, add_mk, Nat.add_mul]
end
section
variable {P : Program} {ops : Array Oper} {rest : List Oper} {o : Oper} {a : Act} {w : World} {Q : Exit → Act → World → Prop} {t e : TypeId}
theorem wpList_cutK_l (hgd : o.guard = none) (x lo : Operand) (ho : o.op = .slice t x (some lo) none none) (hu : P.underlying t = some (.slice e)) (hs : (P.info? e).map (·.size) = some 4)
    (g p N C : Nat) (hx : a.eval x = .slice (some ⟨g, p * 4, none⟩) N C) (kl : IntKind) (i : Nat) (vi : Int) (hlo : a.eval lo = .int kl vi) (e1 : vi = (i : Int)) (hm : i ≤ N) (hNC : N ≤ C)
    (h : ∀ A', (0 < N - i → A' = some ⟨g, (p + i) * 4, none⟩) → wpList P ops Q rest (a.put o.dst (.slice A' (N - i) (C - i))) w) : wpList P ops Q (o :: rest) a w :=
  wpList_plain hgd fun K hK => by
    obtain ⟨A', hrun, hr'⟩ := run_cutK_l (P := P) (t := t) hu hs g p N C kl i vi e1 hm hNC w
    unfold Oper.wp execOp
    simp only [ho, Option.map_some, Option.map_none, hx, hlo, hrun, Sem.run_bind, Sem.run_pure, Result.andThen_ok]
    exact hK _ _ (h A' hr')
end
theorem sizeC : (Try.prog.info? 38).map (·.size) = some 4 := by kernel_rfl
theorem fourB' {w : World} {g : Nat} {t : TypeId} {x : CellV} (h : Blk w g t (cellV x)) :
    w.cell? ⟨g, 0, none⟩ = some (.int .i32 x.1) ∧ w.cell? ⟨g, 1, none⟩ = some (.int .i64 x.2.1) ∧ w.cell? ⟨g, 2, none⟩ = some (.int .i64 x.2.2.1) ∧ w.cell? ⟨g, 3, none⟩ = some (.int .i64 x.2.2.2) :=
  ⟨h.cell 0, h.cell 1, h.cell 2, h.cell 3⟩
/-- It has no result; block g holds the cells f, and nothing but it has turned. -/
def RPost (w : World) (g M : Nat) (f : Nat → CellV) (en : Ending) (w' : World) : Prop := (∃ v, en = .returned v) ∧ RowAt w' g 38 M f ∧ Chg (fun i => i = g) w w'
/-- The loop's. -/
structure Filled (w wr : World) (z g M : Nat) (c : CellV) (f : Nat → CellV) : Prop where
  row : RowAt wr g 38 M f
  blk : Blk wr z 38 (cellV c)
  chg : Chg (fun i => i = g) w wr
set_option maxHeartbeats 1600000 in
theorem fill_c (g o n cc M : Nat) (A : Option Addr) (f : Nat → CellV) (c : CellV) (w : World) (hR : RowAt w g 38 M f) (ho : o + n ≤ M) (hA : 0 < n → A = some ⟨g, o * 4, none⟩) (hn : n ≤ 1099511627776) :
    Calls Try.prog 54 #[.slice A n cc, .agg (cellV c).toArray] w (RPost w g M (fun i => if o ≤ i ∧ i < o + n then c else f i)) := by
  have hF0 : Filled w (w.alloc (.cells (cellV c).toArray 38)) w.heap.size g M c f := ⟨hR.below (alloc_below' _ _), Blk.new _ _ _, Chg.of_below (alloc_below' _ _)⟩
  have hg := hR.lt
  have HF0 := Lib.hid hF0
  have HA := Lib.hid hA
  clear hF0 hR hA
  simp only [cellV]
  go_enter Try.func54, Try.ntmps54
  go_wp2
  go_loopw [7] (fun i wr => ∃ j : Nat, j ≤ n ∧ i = .int .i64 j ∧ Hid (Filled w wr w.heap.size g M c (fun i => if o ≤ i ∧ i < o + j then c else f i))) (fun i _ => n - (intOf i).toNat)
  case atStart => exact ⟨0, Nat.zero_le _, rfl, ⟨HF0.out.row.congr (fun i _ => by rw [if_neg (by omega)]), HF0.out.blk, HF0.out.chg⟩⟩
  case round =>
    obtain ⟨j, hj, rfl, hM⟩ := hrel
    by_cases hlt : j < n
    · have hjd : (j : Int) < (n : Int) := by omega
      have hj0 : (0 : Int) ≤ (j : Int) := by omega
      obtain ⟨a0, a1, a2, a3⟩ := fourB' hM.out.blk
      have hA1 := HA.out (by omega)
      subst hA1
      go_wp2_with ((with_reducible refine at_store 38 ?_); refine wpList_storeK rfl rfl 38 (.tmp 13) (.tmp 12) rfl g (o + j) _ M 38 _ c rfl rfl (by omega) hM.out.row (by omega) sizeC ?_; intro w2 hb2 hg2)
      go_roundw
      case rel =>
        refine ⟨j + 1, by omega, by go_num, hb2.congr (fun i _ => ?_), hM.out.blk.grown hg2 (fun e => ?_), hM.out.chg.trans' (Chg.of_only hg2 (fun i hi => (Option.some.inj hi).symm))⟩
        · by_cases e : i = o + j
          · rw [if_pos e, if_pos (by omega)]
          · rw [if_neg e]
            by_cases e2 : o ≤ i ∧ i < o + j
            · rw [if_pos e2, if_pos (by omega)]
            · rw [if_neg e2, if_neg (by omega)]
        · cases e; omega
      case measure => simp [intOf]; omega
    · obtain rfl : j = n := by omega
      go_wp2
      go_end0
      exact ⟨⟨_, rfl⟩, hM.out.row, hM.out.chg⟩
set_option maxHeartbeats 1600000 in
theorem ahead_c (g o n m cc M : Nat) (A : Option Addr) (f : Nat → CellV) (c : CellV) (w : World) (hR : RowAt w g 38 M f) (ho : o + n ≤ M) (hA : A = some ⟨g, o * 4, none⟩) (hm1 : 1 ≤ m) (hm : m ≤ n) (hn : n ≤ 1099511627776) (hnc : n ≤ cc) (hcc : cc ≤ maxLen) :
    Calls Try.prog 50 #[.slice A n cc, .int .i64 m, .agg (cellV c).toArray] w (RPost w g M (fun i => if o ≤ i ∧ i < o + n then (if i + m < o + n then f (i + m) else c) else f i)) := by
  subst hA
  have hg := hR.lt
  have hR1 := Lib.hid (hR.below (alloc_below' w (.cells (cellV c).toArray 38)))
  have hB1 : Hid (Blk (w.alloc (.cells (cellV c).toArray 38)) w.heap.size 38 (cellV c)) := Blk.new _ _ _
  have hC1 : Hid (Chg (fun i => i = g) w (w.alloc (.cells (cellV c).toArray 38))) := Chg.of_below (alloc_below' _ _)
  clear hR
  unfold maxLen at hcc
  have hm0 : (0 : Int) ≤ (m : Int) := by omega
  have hmn : (m : Int) ≤ (n : Int) := by omega
  simp only [cellV]
  go_enter Try.func50, Try.ntmps50
  go_wp2_with (first
    | ((with_reducible refine at_slice_l 29 ?_); refine wpList_cutK_l rfl (.tmp 7) (.tmp 8) rfl Try.underlying29 sizeC g o n cc rfl .i64 m _ rfl rfl hm hnc ?_; intro A1 hA1; have HA1 := Lib.hid hA1; clear hA1)
    | ((with_reducible refine at_copy ?_); refine wpList_copyK rfl (.tmp 6) (.tmp 9) 29 29 rfl 38 Try.underlying29 sizeC (some ⟨g, o * 4, none⟩) A1 n cc (n - m) (cc - m) (n - m) rfl rfl (by show _ = min _ _; omega) g o M 38 f (fun i => f (o + m + i)) hR1.out (by omega) (fun _ => rfl) (hR1.out.reads (o + m) (n - m) (cc - m) (by omega) (by omega) (by unfold maxLen; omega) HA1.out) ?_; intro w2 hb2 hg2; have HB2 := Lib.hid hb2; have HG2 := Lib.hid hg2; clear hb2 hg2))
  have hbk := hB1.out.grown HG2.out (fun e => by cases e; omega)
  obtain ⟨a0, a1, a2, a3⟩ := fourB' hbk
  have HBK := Lib.hid hbk
  clear hbk
  obtain ⟨q, hq⟩ : ∃ q, n = q + m := ⟨n - m, by omega⟩
  have w1 : IntKind.i64.wrap ((n : Int) - (m : Int)) = (q : Int) := by rw [IntKind.wrap_i64]; omega
  have w2' : IntKind.i64.wrap (q : Int) = (q : Int) := by rw [IntKind.wrap_i64]; omega
  have hs : ((n : Int) - (m : Int)) = (q : Int) := by omega
  have q0 : (0 : Int) ≤ (q : Int) := by omega
  have q1 : (q : Int) ≤ (n : Int) := by omega
  have q2 : ¬ cc = q := by omega
  have q3 : n - q = m := by omega
  have HQ := Lib.hid hq
  clear hq
  go_still_tail 7, (by kernel_rfl)
  refine name_wpList (fun w3 => w3.heap = w2.heap ∧ Chg (fun i => i = g) w w3) ⟨rfl, (hC1.out.trans' (Chg.of_only HG2.out (fun i hi => (Option.some.inj hi).symm))).trans' (Chg.of_below (Below.refl _ _).drew)⟩ ?_
  rintro w3 ⟨hheap, hC3⟩
  have HC3 := Lib.hid hC3
  have hR3 := Lib.hid (HB2.out.of_heap hheap)
  clear hC3 hheap a0 a1 a2 a3 HBK HB2
  go_wp2_with fail
  refine (fill_c g (o + q) m _ M _ _ c w3 hR3.out (by omega) (fun _ => by rw [Nat.add_mul]) (by omega)).mono ?_
  rintro en w4 ⟨⟨v, rfl⟩, hR4, hC4⟩
  have HR4 := Lib.hid hR4
  have HC4 := Lib.hid hC4
  clear hR4 hC4
  go_wp2
  go_end0
  have e := HQ.out
  refine ⟨⟨_, rfl⟩, HR4.out.congr (fun i _ => ?_), HC3.out.trans' HC4.out⟩
  by_cases h1 : o ≤ i ∧ i < o + n
  · rw [if_pos h1]
    by_cases h2 : i + m < o + n
    · rw [if_neg (by omega), if_pos (by omega), if_pos h2]; congr 1; omega
    · rw [if_pos (by omega), if_neg h2]
  · rw [if_neg h1, if_neg (by omega), if_neg (by omega)]
set_option maxHeartbeats 1600000 in
theorem behind_c (g o n m cc M : Nat) (A : Option Addr) (f : Nat → CellV) (c : CellV) (w : World) (hR : RowAt w g 38 M f) (ho : o + n ≤ M) (hA : A = some ⟨g, o * 4, none⟩) (hm1 : 1 ≤ m) (hm : m ≤ n) (hn : n ≤ 1099511627776) (hnc : n ≤ cc) (hcc : cc ≤ maxLen) :
    Calls Try.prog 55 #[.slice A n cc, .int .i64 m, .agg (cellV c).toArray] w (RPost w g M (fun i => if o ≤ i ∧ i < o + n then (if o + m ≤ i then f (i - m) else c) else f i)) := by
  subst hA
  have hg := hR.lt
  have hR1 := Lib.hid (hR.below (alloc_below' w (.cells (cellV c).toArray 38)))
  have hB1 : Hid (Blk (w.alloc (.cells (cellV c).toArray 38)) w.heap.size 38 (cellV c)) := Blk.new _ _ _
  have hC1 : Hid (Chg (fun i => i = g) w (w.alloc (.cells (cellV c).toArray 38))) := Chg.of_below (alloc_below' _ _)
  clear hR
  unfold maxLen at hcc
  have hm0 : (0 : Int) ≤ (m : Int) := by omega
  have hmn : (m : Int) ≤ (n : Int) := by omega
  simp only [cellV]
  go_enter Try.func55, Try.ntmps55
  go_wp2_with (first
    | ((with_reducible refine at_slice_l 29 ?_); refine wpList_cutK_l rfl (.tmp 6) (.tmp 7) rfl Try.underlying29 sizeC g o n cc rfl .i64 m _ rfl rfl hm hnc ?_; intro A1 hA1; have HA1 := Lib.hid hA1; clear hA1)
    | ((with_reducible refine at_copy ?_); refine wpList_copyK rfl (.tmp 8) (.tmp 9) 29 29 rfl 38 Try.underlying29 sizeC A1 (some ⟨g, o * 4, none⟩) (n - m) (cc - m) n cc (n - m) rfl rfl (by show _ = min _ _; omega) g (o + m) M 38 f (fun i => f (o + i)) hR1.out (by omega) HA1.out (hR1.out.reads o (n - m) cc (by omega) (by omega) (by unfold maxLen; omega) (fun _ => rfl)) ?_; intro w2 hb2 hg2; have HB2 := Lib.hid hb2; have HG2 := Lib.hid hg2; clear hb2 hg2))
  have hbk := hB1.out.grown HG2.out (fun e => by cases e; omega)
  obtain ⟨a0, a1, a2, a3⟩ := fourB' hbk
  have HBK := Lib.hid hbk
  clear hbk
  have q1 : (m : Int) ≤ (cc : Int) := by omega
  go_still_tail 4, (by kernel_rfl)
  refine name_wpList (fun w3 => w3.heap = w2.heap ∧ Chg (fun i => i = g) w w3) ⟨rfl, (hC1.out.trans' (Chg.of_only HG2.out (fun i hi => (Option.some.inj hi).symm))).trans' (Chg.of_below (Below.refl _ _).drew)⟩ ?_
  rintro w3 ⟨hheap, hC3⟩
  have HC3 := Lib.hid hC3
  have hR3 := Lib.hid (HB2.out.of_heap hheap)
  clear hC3 hheap a0 a1 a2 a3 HBK HB2
  go_wp2_with fail
  refine (fill_c g o m _ M _ _ c w3 hR3.out (by omega) (fun _ => rfl) (by omega)).mono ?_
  rintro en w4 ⟨⟨v, rfl⟩, hR4, hC4⟩
  have HR4 := Lib.hid hR4
  have HC4 := Lib.hid hC4
  clear hR4 hC4
  go_wp2
  go_end0
  refine ⟨⟨_, rfl⟩, HR4.out.congr (fun i _ => ?_), HC3.out.trans' HC4.out⟩
  by_cases h1 : o ≤ i ∧ i < o + n
  · rw [if_pos h1]
    by_cases h2 : o + m ≤ i
    · rw [if_neg (by omega), if_pos (by omega), if_pos h2]; congr 1; omega
    · rw [if_pos (by omega), if_neg h2]
  · rw [if_neg h1, if_neg (by omega), if_neg (by omega)]
end Go.Proofs.Ytgmfmhlboehdoaa
