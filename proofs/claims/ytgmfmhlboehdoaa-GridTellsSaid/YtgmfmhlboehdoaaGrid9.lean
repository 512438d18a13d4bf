/- What a board's Put, Fill, Up and Down of package grid do, as walks through the translated text. Conditions: the board lies in memory of its own. -/
import Derived.Test.YtgmfmhlboehdoaaGrid8
import Derived.Test.YtgmfmhlboehdoaaRely2
namespace Go.Proofs.Ytgmfmhlboehdoaa
open Go.ChangeShapes Go.WideShapes Go.RowKit
theorem stable_of (p : Value → Prop) : Stable (fun v _ => p v) := fun _ _ _ h _ => h
def putF (C q p : Nat) (y : CellV) (f : Nat → CellV) : Nat → CellV := fun i => if i = q * C + p then y else f i
def fillF (C q a z : Nat) (y : CellV) (f : Nat → CellV) : Nat → CellV := fun i => if q * C + a ≤ i ∧ i < q * C + z then y else f i
def upF (C t d m : Nat) (y : CellV) (f : Nat → CellV) : Nat → CellV := fun i => if t * C ≤ i ∧ i < (d + 1) * C then (if i + m * C < (d + 1) * C then f (i + m * C) else y) else f i
def downF (C t d m : Nat) (y : CellV) (f : Nat → CellV) : Nat → CellV := fun i => if t * C ≤ i ∧ i < (d + 1) * C then (if t * C + m * C ≤ i then f (i - m * C) else y) else f i
theorem putF_ok {N C q p : Nat} {y : CellV} {f : Nat → CellV} (hy : okC y = true) (h : ∀ i, i < N → okC (f i) = true) : ∀ i, i < N → okC (putF C q p y f i) = true := by
  intro i hi
  unfold putF
  split
  · exact hy
  · exact h _ hi
theorem fillF_ok {N C q a z : Nat} {y : CellV} {f : Nat → CellV} (hy : okC y = true) (h : ∀ i, i < N → okC (f i) = true) : ∀ i, i < N → okC (fillF C q a z y f i) = true := by
  intro i hi
  unfold fillF
  split
  · exact hy
  · exact h _ hi
theorem rows_le {R C d : Nat} (h : d < R) : (d + 1) * C ≤ R * C := Nat.mul_le_mul_right _ (by omega)
theorem upF_ok {R C t d m : Nat} {y : CellV} {f : Nat → CellV} (hd : d < R) (hy : okC y = true) (h : ∀ i, i < R * C → okC (f i) = true) : ∀ i, i < R * C → okC (upF C t d m y f i) = true := by
  intro i hi
  have := rows_le (C := C) hd
  unfold upF
  split
  · split
    · exact h _ (by omega)
    · exact hy
  · exact h _ hi
theorem downF_ok {N C t d m : Nat} {y : CellV} {f : Nat → CellV} (hy : okC y = true) (h : ∀ i, i < N → okC (f i) = true) : ∀ i, i < N → okC (downF C t d m y f i) = true := by
  intro i hi
  unfold downF
  split
  · split
    · exact h _ (by omega)
    · exact hy
  · exact h _ hi
theorem spans_parts {R : Nat} {t d : Int} (h : spansB R t d = true) : ∃ a b : Nat, t = a ∧ d = b ∧ a ≤ b ∧ b < R := by
  have h1 := of_decide_eq_true h
  exact ⟨t.toNat, d.toNat, by omega, by omega, by omega, by omega⟩
def PutPost (w : World) (b g R C : Nat) (r c : Int) (y : CellV) (f : Nat → CellV) (en : Ending) (w' : World) : Prop :=
  en = .returned (.int .i64 (if hasB R C r c && okC y then 0 else 1)) ∧ BAt w' b g R C (if hasB R C r c && okC y then putF C r.toNat c.toNat y f else f) ∧ Chg (fun i => i = g) w w'
set_option maxRecDepth 100000 in
set_option maxHeartbeats 1600000 in
theorem put_c (b g R C : Nat) (f : Nat → CellV) (r c : Int) (y : CellV) (w : World) (h : BAt w b g R C f) :
    Calls Try.prog 24 #[.pointer (some ⟨b, 0, none⟩), .int .i64 r, .int .i64 c, .agg (cellV y).toArray] w (PutPost w b g R C r c y f) := by
  have H := Lib.hid h
  have hz : b < w.heap.size := h.blt
  have hz2 : g < w.heap.size := h.glt
  clear h
  cases hB : hasB R C r c with
  | false =>
    have HB := Lib.hid hB
    have HP : Hid (∀ en w', en = .returned (.int .i64 1) ∧ BAt w' b g R C f ∧ Chg (fun i => i = g) w w' → PutPost w b g R C r c y f en w') := by intro en w' h; rw [PutPost, hB, Bool.false_and, if_neg (by decide), if_neg (by decide)]; exact h
    clear hB
    simp only [cellV]
    go_enter Try.func24, Try.ntmps24
    go_upto_region 1 with (fail)
    refine name_wp (fun w1 => Blk w1 w.heap.size 38 (cellV y) ∧ Below w.heap.size w w1) ⟨Blk.new _ _ _, alloc_below' _ _⟩ ?_
    rintro w1 ⟨hb1, hbel1⟩
    have HBel := Lib.hid hbel1
    have HB1 := Lib.hid hb1
    obtain ⟨a0, a1, a2, a3⟩ := fourB' hb1
    have H1 := Lib.hid (has_c b g R C f r c w1 (H.out.below hbel1))
    rw [HB.out] at H1
    clear hb1 hbel1
    go_wp2_with fail
    refine H1.out.mono ?_
    rintro en w2 ⟨rfl, rfl⟩
    go_wp2
    go_ret
    exact HP.out _ _ ⟨rfl, H.out.below HBel.out, Chg.of_below HBel.out⟩
  | true =>
    obtain ⟨q, p, rfl, rfl, hq, hp⟩ := has_parts hB
    have HB := Lib.hid hB
    cases hM : okC y with
    | false =>
      have HM := Lib.hid hM
      have HP : Hid (∀ en w', en = .returned (.int .i64 1) ∧ BAt w' b g R C f ∧ Chg (fun i => i = g) w w' → PutPost w b g R C q p y f en w') := by intro en w' h; rw [PutPost, hM, Bool.and_false, if_neg (by decide), if_neg (by decide)]; exact h
      clear hM hB
      simp only [cellV]
      go_enter Try.func24, Try.ntmps24
      go_upto_region 1 with (fail)
      refine name_wp (fun w1 => Blk w1 w.heap.size 38 (cellV y) ∧ Below w.heap.size w w1) ⟨Blk.new _ _ _, alloc_below' _ _⟩ ?_
      rintro w1 ⟨hb1, hbel1⟩
      have HBel := Lib.hid hbel1
      have HB1 := Lib.hid hb1
      obtain ⟨a0, a1, a2, a3⟩ := fourB' hb1
      have H1 := Lib.hid (has_c b g R C f q p w1 (H.out.below hbel1))
      rw [HB.out] at H1
      clear hb1 hbel1
      go_wp2_with fail
      refine H1.out.mono ?_
      rintro en w2 ⟨rfl, rfl⟩
      go_wp2_with fail
      refine (right_c y _).mono ?_
      rw [HM.out]
      rintro en w2 ⟨rfl, hb2⟩
      have HB2 := Lib.hid (HBel.out.trans (hb2.mono HBel.out.size))
      clear hb2 a0 a1 a2 a3
      go_wp2
      go_ret
      exact HP.out _ _ ⟨rfl, H.out.below HB2.out, Chg.of_below HB2.out⟩
    | true =>
      have HM := Lib.hid hM
      have HP : Hid (∀ en w', en = .returned (.int .i64 0) ∧ BAt w' b g R C (putF C q p y f) ∧ Chg (fun i => i = g) w w' → PutPost w b g R C q p y f en w') := by intro en w' h; rw [PutPost, hB, hM, Bool.and_true, if_pos rfl, if_pos rfl]; exact h
      clear hM hB
      have hp0 : (0 : Int) ≤ (p : Int) := by omega
      have hpC : (p : Int) < (C : Int) := by omega
      simp only [cellV]
      go_enter Try.func24, Try.ntmps24
      go_upto_region 1 with (fail)
      refine name_wp (fun w1 => Blk w1 w.heap.size 38 (cellV y) ∧ Below w.heap.size w w1) ⟨Blk.new _ _ _, alloc_below' _ _⟩ ?_
      rintro w1 ⟨hb1, hbel1⟩
      have HBel := Lib.hid hbel1
      have HB1 := Lib.hid hb1
      obtain ⟨a0, a1, a2, a3⟩ := fourB' hb1
      have H1 := Lib.hid (has_c b g R C f q p w1 (H.out.below hbel1))
      rw [HB.out] at H1
      clear hb1 hbel1
      go_wp2_with fail
      refine H1.out.mono ?_
      rintro en w2 ⟨rfl, rfl⟩
      go_wp2_with fail
      refine (right_c y _).mono ?_
      rw [HM.out]
      rintro en w2 ⟨rfl, hb2⟩
      have HB2 := Lib.hid (HBel.out.trans (hb2.mono HBel.out.size))
      have HBD : Hid (Blk w2.drew w.heap.size 38 (cellV y)) := (HB1.out.below hb2 HB1.out.lt).drew
      have HD : Hid (BAt w2.drew b g R C f) := (H.out.below HB2.out).of_heap rfl
      have HLt := Lib.hid hb2.size
      clear hb2 a0 a1 a2 a3
      go_upto_region 3 with (fail)
      refine wp_region_any (by kernel_rfl) ?_
      change wpAny _ _ _ _ _ _ _ (World.drew _)
      refine wpAny_relyG (g := 1) [(0, 19), (1, 20), (2, 21), (3, 22), (4, 23), (5, 24)] (condAt [fun v _ => v = .pointer (some ⟨b, 0, none⟩), fun v _ => v = .int .i64 q, fun v _ => ∃ cc, v = .slice (some ⟨g, q * C * 4, none⟩) C cc ∧ C ≤ cc ∧ cc ≤ maxLen, fun v _ => v = .int .i64 p, fun v _ => v = .agg (cellV y).toArray, fun v _ => v = .pointer (some ⟨g, q * C * 4 + p * 4, none⟩)]) [] (by kernel_rfl) rfl (condAt_keep (stable_cons (stable_eq _) (stable_cons (stable_eq _) (stable_cons (stable_of _) (stable_cons (stable_eq _) (stable_cons (stable_eq _) (stable_cons (stable_eq _) stable_nil))))))) ?hstep ?hend
      case hstep =>
        intro p hp o ho x W hbel hdep K hK
        simp only [List.mem_cons, List.not_mem_nil, or_false] at hp
        rcases hp with rfl | rfl | rfl | rfl | rfl | rfl
        · cases Option.some.inj ho
          simp only [frm, List.foldl_cons, List.foldl_nil, Act.put, List.setIfInBounds_toArray, List.set_cons_zero, List.set_cons_succ] at hK ⊢
          clear hdep ho
          rw [if_pos (by rfl)]
          go_simp
          exact hK _ _ rfl (Below.refl _ _) (by simp)
        · cases Option.some.inj ho
          simp only [frm, List.foldl_cons, List.foldl_nil, Act.put, List.setIfInBounds_toArray, List.set_cons_zero, List.set_cons_succ] at hK ⊢
          clear hdep ho
          rw [if_pos (by rfl)]
          go_simp
          exact hK _ _ rfl (Below.refl _ _) (by simp)
        · cases Option.some.inj ho
          have d0 : x 0 = .pointer (some ⟨b, 0, none⟩) := hdep ⟨0, .data⟩ (by simp) rfl rfl
          have d1 : x 1 = .int .i64 q := hdep ⟨1, .data⟩ (by simp) rfl rfl
          simp only [frm, List.foldl_cons, List.foldl_nil, Act.put, List.setIfInBounds_toArray, List.set_cons_zero, List.set_cons_succ] at hK ⊢
          clear hdep ho
          rw [d0, d1] at hK ⊢
          clear d0 d1
          rw [if_pos (by rfl)]
          go_simp
          refine (line_c b g R C f q W (HD.out.below hbel) hq).mono ?_
          rintro e w' ⟨cc, rfl, h1, h2, k, rfl⟩
          exact hK _ _ ⟨cc, rfl, h1, h2⟩ (belowDrewN (Below.refl _ _) _) (by simp)
        · cases Option.some.inj ho
          simp only [frm, List.foldl_cons, List.foldl_nil, Act.put, List.setIfInBounds_toArray, List.set_cons_zero, List.set_cons_succ] at hK ⊢
          clear hdep ho
          rw [if_pos (by rfl)]
          go_simp
          exact hK _ _ rfl (Below.refl _ _) (by simp)
        · cases Option.some.inj ho
          simp only [frm, List.foldl_cons, List.foldl_nil, Act.put, List.setIfInBounds_toArray, List.set_cons_zero, List.set_cons_succ] at hK ⊢
          clear hdep ho
          rw [if_pos (by rfl)]
          exact wp_load_all 38 (.tmp 7) rfl _ rfl _ _ (HBD.out.below hbel HBD.out.lt) _ Try.underlying38 rfl sizeC (hK _ _ rfl (Below.refl _ _) (by simp))
        · cases Option.some.inj ho
          have h2 : ∃ cc, (x 2) = .slice (some ⟨g, q * C * 4, none⟩) C cc ∧ C ≤ cc ∧ cc ≤ maxLen := hdep ⟨2, .data⟩ (by simp) rfl rfl
          have d3 : x 3 = .int .i64 p := hdep ⟨3, .data⟩ (by simp) rfl rfl
          simp only [frm, List.foldl_cons, List.foldl_nil, Act.put, List.setIfInBounds_toArray, List.set_cons_zero, List.set_cons_succ] at hK ⊢
          clear hdep ho
          rw [d3] at hK ⊢
          clear d3
          rw [if_pos (by rfl)]
          obtain ⟨cc, d2, hcc1, hcc2⟩ := h2
          rw [d2] at hK ⊢
          clear d2
          go_simp
          exact hK _ _ rfl (Below.refl _ _) (by simp)
      case hend =>
        intro x W hbel hall _
        have d4 : x 4 = .agg (cellV y).toArray := hall (4, 23) (by simp)
        have d5 : x 5 = .pointer (some ⟨g, q * C * 4 + p * 4, none⟩) := hall (5, 24) (by simp)
        simp only [frm, List.foldl_cons, List.foldl_nil, Act.put, List.setIfInBounds_toArray, List.set_cons_zero, List.set_cons_succ]
        rw [d4, d5]
        clear hall d4 d5
        generalize x 0 = z0
        generalize x 1 = z1
        generalize x 2 = z2
        generalize x 3 = z3
        refine wpAny_ready (rs := [6]) (by kernel_rfl) (by simp) (AllReady.cons (o := ⟨none, .store 38 (.tmp 24) (.tmp 23), _, _, _, _⟩) rfl (fun K hK => ?_) AllReady.nil)
        refine step_storeK rfl rfl 38 (.tmp 24) (.tmp 23) rfl g (q * C + p) _ (R * C) 38 f y rfl rfl (by rw [Nat.add_mul]) (HD.out.row.below hbel) (place_lt hq hp) sizeC ?_
        intro w4 hb4 hg4
        refine hK _ _ ?_
        clear hK K
        try simp only [Act.put, List.setIfInBounds_toArray, List.set_cons_zero, List.set_cons_succ]
        refine wpAny_done (by kernel_rfl) ?_ _
        have hch : Chg (fun i => i = g) w w4 := ((Chg.of_below HB2.out).trans' (Chg.of_below ((Below.refl _ _).drew.trans (hbel.mono (Nat.le_refl _))))).trans' (Chg.of_only hg4 (fun i hi => (Option.some.inj hi).symm))
        have HF := Lib.hid (H.out.turn hch hb4 (putF_ok HM.out H.out.ok))
        have HCH := Lib.hid hch
        clear hb4 hg4 hch hbel
        go_wp2
        go_ret
        exact HP.out _ _ ⟨rfl, HF.out, HCH.out⟩
set_option maxRecDepth 100000 in
set_option maxHeartbeats 1600000 in
theorem up_c (b g R C : Nat) (f : Nat → CellV) (r c n : Int) (y : CellV) (w : World) (h : BAt w b g R C f) :
    Calls Try.prog 25 #[.pointer (some ⟨b, 0, none⟩), .int .i64 r, .int .i64 c, .int .i64 n, .agg (cellV y).toArray] w (MPost w b g R C (if spansB R r c && movesB n y then upF C r.toNat c.toNat (min n.toNat (c.toNat + 1 - r.toNat)) y f else f)) := by
  have H := Lib.hid h
  have hz : b < w.heap.size := h.blt
  have hz2 : g < w.heap.size := h.glt
  clear h
  cases hB : spansB R r c with
  | false =>
    have HB := Lib.hid hB
    rw [if_neg (by simp)]
    clear hB
    simp only [cellV]
    go_enter Try.func25, Try.ntmps25
    go_upto_region 1 with (fail)
    refine name_wp (fun w1 => Blk w1 w.heap.size 38 (cellV y) ∧ Below w.heap.size w w1) ⟨Blk.new _ _ _, alloc_below' _ _⟩ ?_
    rintro w1 ⟨hb1, hbel1⟩
    have HBel := Lib.hid hbel1
    have HB1 := Lib.hid hb1
    obtain ⟨a0, a1, a2, a3⟩ := fourB' hb1
    have H1 := Lib.hid (spans_c b g R C f r c w1 (H.out.below hbel1))
    rw [HB.out] at H1
    clear hb1 hbel1
    go_wp2_with fail
    refine H1.out.mono ?_
    rintro en w2 ⟨rfl, rfl⟩
    go_wp2
    go_end0
    exact ⟨⟨_, rfl⟩, H.out.below HBel.out, Chg.of_below HBel.out⟩
  | true =>
    obtain ⟨t, d, rfl, rfl, htd, hd⟩ := spans_parts hB
    have HB := Lib.hid hB
    clear hB
    rw [Bool.true_and]
    cases hM : movesB n y with
    | false =>
      have HM := Lib.hid hM
      rw [if_neg (by simp)]
      clear hM
      simp only [cellV]
      go_enter Try.func25, Try.ntmps25
      go_upto_region 1 with (fail)
      refine name_wp (fun w1 => Blk w1 w.heap.size 38 (cellV y) ∧ Below w.heap.size w w1) ⟨Blk.new _ _ _, alloc_below' _ _⟩ ?_
      rintro w1 ⟨hb1, hbel1⟩
      have HBel := Lib.hid hbel1
      have HB1 := Lib.hid hb1
      obtain ⟨a0, a1, a2, a3⟩ := fourB' hb1
      have H1 := Lib.hid (spans_c b g R C f t d w1 (H.out.below hbel1))
      rw [HB.out] at H1
      clear hb1 hbel1
      go_wp2_with fail
      refine H1.out.mono ?_
      rintro en w2 ⟨rfl, rfl⟩
      go_wp2_with fail
      refine (moves_c n y _).mono ?_
      rw [HM.out]
      rintro en w2 ⟨rfl, hb2⟩
      have HB2 := Lib.hid (HBel.out.trans (hb2.mono HBel.out.size))
      clear hb2 a0 a1 a2 a3
      go_wp2
      go_end0
      exact ⟨⟨_, rfl⟩, H.out.below HB2.out, Chg.of_below HB2.out⟩
    | true =>
      rw [if_pos rfl, show (t : Int).toNat = t from rfl, show (d : Int).toNat = d from rfl]
      obtain ⟨hn1, hx⟩ := movesB_parts hM
      have HM := Lib.hid hM
      have HX := Lib.hid hx
      clear hM hx
      obtain ⟨m, hm⟩ : ∃ m, Hid (min n.toNat (d + 1 - t) = m) := ⟨_, Lib.hid rfl⟩
      rw [hm.out]
      obtain ⟨hc1, hc2⟩ := H.out.cols
      obtain ⟨hr1, hr2⟩ := H.out.rows
      have hm1 : 1 ≤ m := by have := hm.out; omega
      have hm2 : m ≤ d + 1 - t := by have := hm.out; omega
      simp only [cellV]
      go_enter Try.func25, Try.ntmps25
      go_upto_region 1 with (fail)
      refine name_wp (fun w1 => Blk w1 w.heap.size 38 (cellV y) ∧ Below w.heap.size w w1) ⟨Blk.new _ _ _, alloc_below' _ _⟩ ?_
      rintro w1 ⟨hb1, hbel1⟩
      have HBel := Lib.hid hbel1
      have HB1 := Lib.hid hb1
      obtain ⟨a0, a1, a2, a3⟩ := fourB' hb1
      have H1 := Lib.hid (spans_c b g R C f t d w1 (H.out.below hbel1))
      rw [HB.out] at H1
      clear hb1 hbel1
      go_wp2_with fail
      refine H1.out.mono ?_
      rintro en w2 ⟨rfl, rfl⟩
      go_wp2_with fail
      refine (moves_c n y _).mono ?_
      rw [HM.out]
      rintro en w2 ⟨rfl, hb2⟩
      have HB2 := Lib.hid (HBel.out.trans (hb2.mono HBel.out.size))
      have HBD : Hid (Blk w2.drew w.heap.size 38 (cellV y)) := (HB1.out.below hb2 HB1.out.lt).drew
      have HD : Hid (BAt w2.drew b g R C f) := (H.out.below HB2.out).of_heap rfl
      clear hb2 a0 a1 a2 a3
      go_upto_region 2 with (fail)
      refine wp_region_any (by kernel_rfl) ?_
      change wpAny _ _ _ _ _ _ _ (World.drew _)
      refine wpAny_relyG (g := 1) [(0, 19), (1, 20), (2, 21), (3, 22), (4, 23), (5, 24), (6, 25), (7, 26), (8, 27), (9, 28)] (condAt [fun v _ => v = .pointer (some ⟨b, 0, none⟩), fun v _ => v = .int .i64 t, fun v _ => v = .int .i64 d, fun v _ => ∃ cc, v = .slice (some ⟨g, t * C * 4, none⟩) ((d + 1 - t) * C) cc ∧ (d + 1 - t) * C ≤ cc ∧ cc ≤ maxLen, fun v _ => v = .pointer (some ⟨b, 0, none⟩), fun v _ => v = .int .i64 n, fun v _ => v = .int .i64 t, fun v _ => v = .int .i64 d, fun v _ => v = .int .i64 ((m * C : Nat) : Int), fun v _ => v = .agg (cellV y).toArray]) [] (by kernel_rfl) rfl (condAt_keep (stable_cons (stable_eq _) (stable_cons (stable_eq _) (stable_cons (stable_eq _) (stable_cons (stable_of _) (stable_cons (stable_eq _) (stable_cons (stable_eq _) (stable_cons (stable_eq _) (stable_cons (stable_eq _) (stable_cons (stable_eq _) (stable_cons (stable_eq _) stable_nil))))))))))) ?hstep ?hend
      case hstep =>
        intro p hp o ho x W hbel hdep K hK
        simp only [List.mem_cons, List.not_mem_nil, or_false] at hp
        rcases hp with rfl | rfl | rfl | rfl | rfl | rfl | rfl | rfl | rfl | rfl
        · cases Option.some.inj ho
          simp only [frm, List.foldl_cons, List.foldl_nil, Act.put, List.setIfInBounds_toArray, List.set_cons_zero, List.set_cons_succ] at hK ⊢
          clear hdep ho
          rw [if_pos (by rfl)]
          go_simp
          exact hK _ _ rfl (Below.refl _ _) (by simp)
        · cases Option.some.inj ho
          simp only [frm, List.foldl_cons, List.foldl_nil, Act.put, List.setIfInBounds_toArray, List.set_cons_zero, List.set_cons_succ] at hK ⊢
          clear hdep ho
          rw [if_pos (by rfl)]
          go_simp
          exact hK _ _ rfl (Below.refl _ _) (by simp)
        · cases Option.some.inj ho
          simp only [frm, List.foldl_cons, List.foldl_nil, Act.put, List.setIfInBounds_toArray, List.set_cons_zero, List.set_cons_succ] at hK ⊢
          clear hdep ho
          rw [if_pos (by rfl)]
          go_simp
          exact hK _ _ rfl (Below.refl _ _) (by simp)
        · cases Option.some.inj ho
          have d0 : x 0 = .pointer (some ⟨b, 0, none⟩) := hdep ⟨0, .data⟩ (by simp) rfl rfl
          have d1 : x 1 = .int .i64 t := hdep ⟨1, .data⟩ (by simp) rfl rfl
          have d2 : x 2 = .int .i64 d := hdep ⟨2, .data⟩ (by simp) rfl rfl
          simp only [frm, List.foldl_cons, List.foldl_nil, Act.put, List.setIfInBounds_toArray, List.set_cons_zero, List.set_cons_succ] at hK ⊢
          clear hdep ho
          rw [d0, d1, d2] at hK ⊢
          clear d0 d1 d2
          rw [if_pos (by rfl)]
          go_simp
          refine (lines_c b g R C f t d W (HD.out.below hbel) htd hd).mono ?_
          rintro e w' ⟨cc, rfl, h1, h2, k, rfl⟩
          exact hK _ _ ⟨cc, rfl, h1, h2⟩ (belowDrewN (Below.refl _ _) _) (by simp)
        · cases Option.some.inj ho
          simp only [frm, List.foldl_cons, List.foldl_nil, Act.put, List.setIfInBounds_toArray, List.set_cons_zero, List.set_cons_succ] at hK ⊢
          clear hdep ho
          rw [if_pos (by rfl)]
          go_simp
          exact hK _ _ rfl (Below.refl _ _) (by simp)
        · cases Option.some.inj ho
          simp only [frm, List.foldl_cons, List.foldl_nil, Act.put, List.setIfInBounds_toArray, List.set_cons_zero, List.set_cons_succ] at hK ⊢
          clear hdep ho
          rw [if_pos (by rfl)]
          go_simp
          exact hK _ _ rfl (Below.refl _ _) (by simp)
        · cases Option.some.inj ho
          simp only [frm, List.foldl_cons, List.foldl_nil, Act.put, List.setIfInBounds_toArray, List.set_cons_zero, List.set_cons_succ] at hK ⊢
          clear hdep ho
          rw [if_pos (by rfl)]
          go_simp
          exact hK _ _ rfl (Below.refl _ _) (by simp)
        · cases Option.some.inj ho
          simp only [frm, List.foldl_cons, List.foldl_nil, Act.put, List.setIfInBounds_toArray, List.set_cons_zero, List.set_cons_succ] at hK ⊢
          clear hdep ho
          rw [if_pos (by rfl)]
          go_simp
          exact hK _ _ rfl (Below.refl _ _) (by simp)
        · cases Option.some.inj ho
          have d4 : x 4 = .pointer (some ⟨b, 0, none⟩) := hdep ⟨4, .data⟩ (by simp) rfl rfl
          have d5 : x 5 = .int .i64 n := hdep ⟨5, .data⟩ (by simp) rfl rfl
          have d6 : x 6 = .int .i64 t := hdep ⟨6, .data⟩ (by simp) rfl rfl
          have d7 : x 7 = .int .i64 d := hdep ⟨7, .data⟩ (by simp) rfl rfl
          simp only [frm, List.foldl_cons, List.foldl_nil, Act.put, List.setIfInBounds_toArray, List.set_cons_zero, List.set_cons_succ] at hK ⊢
          clear hdep ho
          rw [d4, d5, d6, d7] at hK ⊢
          clear d4 d5 d6 d7
          rw [if_pos (by rfl)]
          go_simp
          refine (cellsOf_c b g R C f n t d W (HD.out.below hbel) hn1 htd hd).mono ?_
          rw [hm.out]
          rintro e w' ⟨rfl, rfl⟩
          exact hK _ _ rfl (Below.refl _ _) (by simp)
        · cases Option.some.inj ho
          simp only [frm, List.foldl_cons, List.foldl_nil, Act.put, List.setIfInBounds_toArray, List.set_cons_zero, List.set_cons_succ] at hK ⊢
          clear hdep ho
          rw [if_pos (by rfl)]
          exact wp_load_all 38 (.tmp 9) rfl _ rfl _ _ (HBD.out.below hbel HBD.out.lt) _ Try.underlying38 rfl sizeC (hK _ _ rfl (Below.refl _ _) (by simp))
      case hend =>
        intro x W hbel hall _
        obtain ⟨cc, d3, hcc1, hcc2⟩ : ∃ cc, (x 3) = .slice (some ⟨g, t * C * 4, none⟩) ((d + 1 - t) * C) cc ∧ (d + 1 - t) * C ≤ cc ∧ cc ≤ maxLen := hall (3, 22) (by simp)
        have d8 : x 8 = .int .i64 ((m * C : Nat) : Int) := hall (8, 27) (by simp)
        have d9 : x 9 = .agg (cellV y).toArray := hall (9, 28) (by simp)
        simp only [frm, List.foldl_cons, List.foldl_nil, Act.put, List.setIfInBounds_toArray, List.set_cons_zero, List.set_cons_succ]
        rw [d3, d8, d9]
        clear hall d3 d8 d9
        generalize x 0 = z0
        generalize x 1 = z1
        generalize x 2 = z2
        generalize x 4 = z4
        generalize x 5 = z5
        generalize x 6 = z6
        generalize x 7 = z7
        have hle : t * C + (d + 1 - t) * C = (d + 1) * C := by rw [← Nat.add_mul]; congr 1; omega
        have hmm : m * C ≤ (d + 1 - t) * C := Nat.mul_le_mul_right _ hm2
        have hm3 : 1 ≤ m * C := Nat.mul_pos hm1 hc1
        have hsz : (d + 1) * C ≤ 60 * 132 := Nat.mul_le_mul (by omega) hc2
        refine wpAny_ready (rs := [10]) (by kernel_rfl) (by simp) (AllReady.cons (o := ⟨some 29, .call { callee := .value (.func 50), args := #[.tmp 22, .tmp 27, .tmp 28], argTypes := #[29, 3, 38] }, _, _, _, _⟩) rfl (fun K hK => ?_) AllReady.nil)
        go_simp
        refine (ahead_c g (t * C) ((d + 1 - t) * C) (m * C) cc (R * C) _ f y W (HD.out.row.below hbel) (by rw [hle]; exact rows_le hd) rfl hm3 hmm (by omega) hcc1 hcc2).mono ?_
        rintro en w4 ⟨⟨v, rfl⟩, hR4, hC4⟩
        refine hK _ _ ?_
        clear hK K
        try simp only [Act.put, List.setIfInBounds_toArray, List.set_cons_zero, List.set_cons_succ]
        refine wpAny_done (by kernel_rfl) ?_ _
        have hch : Chg (fun i => i = g) w w4 := ((Chg.of_below HB2.out).trans' (Chg.of_below ((Below.refl _ _).drew.trans (hbel.mono (Nat.le_refl _))))).trans' hC4
        have hrow := hR4.congr (f' := upF C t d m y f) (fun i _ => by simp only [upF, hle])
        have HF := Lib.hid (H.out.turn hch hrow (upF_ok hd HX.out H.out.ok))
        have HCH := Lib.hid hch
        clear hR4 hC4 hch hbel hrow hle hmm hm3 hsz
        go_wp2
        go_end0
        exact ⟨⟨_, rfl⟩, HF.out, HCH.out⟩
set_option maxRecDepth 100000 in
set_option maxHeartbeats 1600000 in
theorem down_c (b g R C : Nat) (f : Nat → CellV) (r c n : Int) (y : CellV) (w : World) (h : BAt w b g R C f) :
    Calls Try.prog 33 #[.pointer (some ⟨b, 0, none⟩), .int .i64 r, .int .i64 c, .int .i64 n, .agg (cellV y).toArray] w (MPost w b g R C (if spansB R r c && movesB n y then downF C r.toNat c.toNat (min n.toNat (c.toNat + 1 - r.toNat)) y f else f)) := by
  have H := Lib.hid h
  have hz : b < w.heap.size := h.blt
  have hz2 : g < w.heap.size := h.glt
  clear h
  cases hB : spansB R r c with
  | false =>
    have HB := Lib.hid hB
    rw [if_neg (by simp)]
    clear hB
    simp only [cellV]
    go_enter Try.func33, Try.ntmps33
    go_upto_region 1 with (fail)
    refine name_wp (fun w1 => Blk w1 w.heap.size 38 (cellV y) ∧ Below w.heap.size w w1) ⟨Blk.new _ _ _, alloc_below' _ _⟩ ?_
    rintro w1 ⟨hb1, hbel1⟩
    have HBel := Lib.hid hbel1
    have HB1 := Lib.hid hb1
    obtain ⟨a0, a1, a2, a3⟩ := fourB' hb1
    have H1 := Lib.hid (spans_c b g R C f r c w1 (H.out.below hbel1))
    rw [HB.out] at H1
    clear hb1 hbel1
    go_wp2_with fail
    refine H1.out.mono ?_
    rintro en w2 ⟨rfl, rfl⟩
    go_wp2
    go_end0
    exact ⟨⟨_, rfl⟩, H.out.below HBel.out, Chg.of_below HBel.out⟩
  | true =>
    obtain ⟨t, d, rfl, rfl, htd, hd⟩ := spans_parts hB
    have HB := Lib.hid hB
    clear hB
    rw [Bool.true_and]
    cases hM : movesB n y with
    | false =>
      have HM := Lib.hid hM
      rw [if_neg (by simp)]
      clear hM
      simp only [cellV]
      go_enter Try.func33, Try.ntmps33
      go_upto_region 1 with (fail)
      refine name_wp (fun w1 => Blk w1 w.heap.size 38 (cellV y) ∧ Below w.heap.size w w1) ⟨Blk.new _ _ _, alloc_below' _ _⟩ ?_
      rintro w1 ⟨hb1, hbel1⟩
      have HBel := Lib.hid hbel1
      have HB1 := Lib.hid hb1
      obtain ⟨a0, a1, a2, a3⟩ := fourB' hb1
      have H1 := Lib.hid (spans_c b g R C f t d w1 (H.out.below hbel1))
      rw [HB.out] at H1
      clear hb1 hbel1
      go_wp2_with fail
      refine H1.out.mono ?_
      rintro en w2 ⟨rfl, rfl⟩
      go_wp2_with fail
      refine (moves_c n y _).mono ?_
      rw [HM.out]
      rintro en w2 ⟨rfl, hb2⟩
      have HB2 := Lib.hid (HBel.out.trans (hb2.mono HBel.out.size))
      clear hb2 a0 a1 a2 a3
      go_wp2
      go_end0
      exact ⟨⟨_, rfl⟩, H.out.below HB2.out, Chg.of_below HB2.out⟩
    | true =>
      rw [if_pos rfl, show (t : Int).toNat = t from rfl, show (d : Int).toNat = d from rfl]
      obtain ⟨hn1, hx⟩ := movesB_parts hM
      have HM := Lib.hid hM
      have HX := Lib.hid hx
      clear hM hx
      obtain ⟨m, hm⟩ : ∃ m, Hid (min n.toNat (d + 1 - t) = m) := ⟨_, Lib.hid rfl⟩
      rw [hm.out]
      obtain ⟨hc1, hc2⟩ := H.out.cols
      obtain ⟨hr1, hr2⟩ := H.out.rows
      have hm1 : 1 ≤ m := by have := hm.out; omega
      have hm2 : m ≤ d + 1 - t := by have := hm.out; omega
      simp only [cellV]
      go_enter Try.func33, Try.ntmps33
      go_upto_region 1 with (fail)
      refine name_wp (fun w1 => Blk w1 w.heap.size 38 (cellV y) ∧ Below w.heap.size w w1) ⟨Blk.new _ _ _, alloc_below' _ _⟩ ?_
      rintro w1 ⟨hb1, hbel1⟩
      have HBel := Lib.hid hbel1
      have HB1 := Lib.hid hb1
      obtain ⟨a0, a1, a2, a3⟩ := fourB' hb1
      have H1 := Lib.hid (spans_c b g R C f t d w1 (H.out.below hbel1))
      rw [HB.out] at H1
      clear hb1 hbel1
      go_wp2_with fail
      refine H1.out.mono ?_
      rintro en w2 ⟨rfl, rfl⟩
      go_wp2_with fail
      refine (moves_c n y _).mono ?_
      rw [HM.out]
      rintro en w2 ⟨rfl, hb2⟩
      have HB2 := Lib.hid (HBel.out.trans (hb2.mono HBel.out.size))
      have HBD : Hid (Blk w2.drew w.heap.size 38 (cellV y)) := (HB1.out.below hb2 HB1.out.lt).drew
      have HD : Hid (BAt w2.drew b g R C f) := (H.out.below HB2.out).of_heap rfl
      clear hb2 a0 a1 a2 a3
      go_upto_region 2 with (fail)
      refine wp_region_any (by kernel_rfl) ?_
      change wpAny _ _ _ _ _ _ _ (World.drew _)
      refine wpAny_relyG (g := 1) [(0, 19), (1, 20), (2, 21), (3, 22), (4, 23), (5, 24), (6, 25), (7, 26), (8, 27), (9, 28)] (condAt [fun v _ => v = .pointer (some ⟨b, 0, none⟩), fun v _ => v = .int .i64 t, fun v _ => v = .int .i64 d, fun v _ => ∃ cc, v = .slice (some ⟨g, t * C * 4, none⟩) ((d + 1 - t) * C) cc ∧ (d + 1 - t) * C ≤ cc ∧ cc ≤ maxLen, fun v _ => v = .pointer (some ⟨b, 0, none⟩), fun v _ => v = .int .i64 n, fun v _ => v = .int .i64 t, fun v _ => v = .int .i64 d, fun v _ => v = .int .i64 ((m * C : Nat) : Int), fun v _ => v = .agg (cellV y).toArray]) [] (by kernel_rfl) rfl (condAt_keep (stable_cons (stable_eq _) (stable_cons (stable_eq _) (stable_cons (stable_eq _) (stable_cons (stable_of _) (stable_cons (stable_eq _) (stable_cons (stable_eq _) (stable_cons (stable_eq _) (stable_cons (stable_eq _) (stable_cons (stable_eq _) (stable_cons (stable_eq _) stable_nil))))))))))) ?hstep ?hend
      case hstep =>
        intro p hp o ho x W hbel hdep K hK
        simp only [List.mem_cons, List.not_mem_nil, or_false] at hp
        rcases hp with rfl | rfl | rfl | rfl | rfl | rfl | rfl | rfl | rfl | rfl
        · cases Option.some.inj ho
          simp only [frm, List.foldl_cons, List.foldl_nil, Act.put, List.setIfInBounds_toArray, List.set_cons_zero, List.set_cons_succ] at hK ⊢
          clear hdep ho
          rw [if_pos (by rfl)]
          go_simp
          exact hK _ _ rfl (Below.refl _ _) (by simp)
        · cases Option.some.inj ho
          simp only [frm, List.foldl_cons, List.foldl_nil, Act.put, List.setIfInBounds_toArray, List.set_cons_zero, List.set_cons_succ] at hK ⊢
          clear hdep ho
          rw [if_pos (by rfl)]
          go_simp
          exact hK _ _ rfl (Below.refl _ _) (by simp)
        · cases Option.some.inj ho
          simp only [frm, List.foldl_cons, List.foldl_nil, Act.put, List.setIfInBounds_toArray, List.set_cons_zero, List.set_cons_succ] at hK ⊢
          clear hdep ho
          rw [if_pos (by rfl)]
          go_simp
          exact hK _ _ rfl (Below.refl _ _) (by simp)
        · cases Option.some.inj ho
          have d0 : x 0 = .pointer (some ⟨b, 0, none⟩) := hdep ⟨0, .data⟩ (by simp) rfl rfl
          have d1 : x 1 = .int .i64 t := hdep ⟨1, .data⟩ (by simp) rfl rfl
          have d2 : x 2 = .int .i64 d := hdep ⟨2, .data⟩ (by simp) rfl rfl
          simp only [frm, List.foldl_cons, List.foldl_nil, Act.put, List.setIfInBounds_toArray, List.set_cons_zero, List.set_cons_succ] at hK ⊢
          clear hdep ho
          rw [d0, d1, d2] at hK ⊢
          clear d0 d1 d2
          rw [if_pos (by rfl)]
          go_simp
          refine (lines_c b g R C f t d W (HD.out.below hbel) htd hd).mono ?_
          rintro e w' ⟨cc, rfl, h1, h2, k, rfl⟩
          exact hK _ _ ⟨cc, rfl, h1, h2⟩ (belowDrewN (Below.refl _ _) _) (by simp)
        · cases Option.some.inj ho
          simp only [frm, List.foldl_cons, List.foldl_nil, Act.put, List.setIfInBounds_toArray, List.set_cons_zero, List.set_cons_succ] at hK ⊢
          clear hdep ho
          rw [if_pos (by rfl)]
          go_simp
          exact hK _ _ rfl (Below.refl _ _) (by simp)
        · cases Option.some.inj ho
          simp only [frm, List.foldl_cons, List.foldl_nil, Act.put, List.setIfInBounds_toArray, List.set_cons_zero, List.set_cons_succ] at hK ⊢
          clear hdep ho
          rw [if_pos (by rfl)]
          go_simp
          exact hK _ _ rfl (Below.refl _ _) (by simp)
        · cases Option.some.inj ho
          simp only [frm, List.foldl_cons, List.foldl_nil, Act.put, List.setIfInBounds_toArray, List.set_cons_zero, List.set_cons_succ] at hK ⊢
          clear hdep ho
          rw [if_pos (by rfl)]
          go_simp
          exact hK _ _ rfl (Below.refl _ _) (by simp)
        · cases Option.some.inj ho
          simp only [frm, List.foldl_cons, List.foldl_nil, Act.put, List.setIfInBounds_toArray, List.set_cons_zero, List.set_cons_succ] at hK ⊢
          clear hdep ho
          rw [if_pos (by rfl)]
          go_simp
          exact hK _ _ rfl (Below.refl _ _) (by simp)
        · cases Option.some.inj ho
          have d4 : x 4 = .pointer (some ⟨b, 0, none⟩) := hdep ⟨4, .data⟩ (by simp) rfl rfl
          have d5 : x 5 = .int .i64 n := hdep ⟨5, .data⟩ (by simp) rfl rfl
          have d6 : x 6 = .int .i64 t := hdep ⟨6, .data⟩ (by simp) rfl rfl
          have d7 : x 7 = .int .i64 d := hdep ⟨7, .data⟩ (by simp) rfl rfl
          simp only [frm, List.foldl_cons, List.foldl_nil, Act.put, List.setIfInBounds_toArray, List.set_cons_zero, List.set_cons_succ] at hK ⊢
          clear hdep ho
          rw [d4, d5, d6, d7] at hK ⊢
          clear d4 d5 d6 d7
          rw [if_pos (by rfl)]
          go_simp
          refine (cellsOf_c b g R C f n t d W (HD.out.below hbel) hn1 htd hd).mono ?_
          rw [hm.out]
          rintro e w' ⟨rfl, rfl⟩
          exact hK _ _ rfl (Below.refl _ _) (by simp)
        · cases Option.some.inj ho
          simp only [frm, List.foldl_cons, List.foldl_nil, Act.put, List.setIfInBounds_toArray, List.set_cons_zero, List.set_cons_succ] at hK ⊢
          clear hdep ho
          rw [if_pos (by rfl)]
          exact wp_load_all 38 (.tmp 9) rfl _ rfl _ _ (HBD.out.below hbel HBD.out.lt) _ Try.underlying38 rfl sizeC (hK _ _ rfl (Below.refl _ _) (by simp))
      case hend =>
        intro x W hbel hall _
        obtain ⟨cc, d3, hcc1, hcc2⟩ : ∃ cc, (x 3) = .slice (some ⟨g, t * C * 4, none⟩) ((d + 1 - t) * C) cc ∧ (d + 1 - t) * C ≤ cc ∧ cc ≤ maxLen := hall (3, 22) (by simp)
        have d8 : x 8 = .int .i64 ((m * C : Nat) : Int) := hall (8, 27) (by simp)
        have d9 : x 9 = .agg (cellV y).toArray := hall (9, 28) (by simp)
        simp only [frm, List.foldl_cons, List.foldl_nil, Act.put, List.setIfInBounds_toArray, List.set_cons_zero, List.set_cons_succ]
        rw [d3, d8, d9]
        clear hall d3 d8 d9
        generalize x 0 = z0
        generalize x 1 = z1
        generalize x 2 = z2
        generalize x 4 = z4
        generalize x 5 = z5
        generalize x 6 = z6
        generalize x 7 = z7
        have hle : t * C + (d + 1 - t) * C = (d + 1) * C := by rw [← Nat.add_mul]; congr 1; omega
        have hmm : m * C ≤ (d + 1 - t) * C := Nat.mul_le_mul_right _ hm2
        have hm3 : 1 ≤ m * C := Nat.mul_pos hm1 hc1
        have hsz : (d + 1) * C ≤ 60 * 132 := Nat.mul_le_mul (by omega) hc2
        refine wpAny_ready (rs := [10]) (by kernel_rfl) (by simp) (AllReady.cons (o := ⟨some 29, .call { callee := .value (.func 55), args := #[.tmp 22, .tmp 27, .tmp 28], argTypes := #[29, 3, 38] }, _, _, _, _⟩) rfl (fun K hK => ?_) AllReady.nil)
        go_simp
        refine (behind_c g (t * C) ((d + 1 - t) * C) (m * C) cc (R * C) _ f y W (HD.out.row.below hbel) (by rw [hle]; exact rows_le hd) rfl hm3 hmm (by omega) hcc1 hcc2).mono ?_
        rintro en w4 ⟨⟨v, rfl⟩, hR4, hC4⟩
        refine hK _ _ ?_
        clear hK K
        try simp only [Act.put, List.setIfInBounds_toArray, List.set_cons_zero, List.set_cons_succ]
        refine wpAny_done (by kernel_rfl) ?_ _
        have hch : Chg (fun i => i = g) w w4 := ((Chg.of_below HB2.out).trans' (Chg.of_below ((Below.refl _ _).drew.trans (hbel.mono (Nat.le_refl _))))).trans' hC4
        have hrow := hR4.congr (f' := downF C t d m y f) (fun i _ => by simp only [downF, hle])
        have HF := Lib.hid (H.out.turn hch hrow (downF_ok HX.out H.out.ok))
        have HCH := Lib.hid hch
        clear hR4 hC4 hch hbel hrow hle hmm hm3 hsz
        go_wp2
        go_end0
        exact ⟨⟨_, rfl⟩, HF.out, HCH.out⟩
end Go.Proofs.Ytgmfmhlboehdoaa
