/- The walks of the statement LabelApart: two lists of parts have one text just if they are alike; the texts of one name and two numbers likewise, and they are what the reference says. Conditions: the lists read as lists of lists of bytes. -/
import Derived.Test.YteaebicggjmfdaaAwake4
import Derived.Test.YteaebicggjmfdaaLabel5
import Derived.Test.YteaebicggjmfdaaRely
import Derived.Test.YteaebicggjmfdaaHeld
import Derived.ChangeKeysEq
namespace Go.Proofs.Yteaebicggjmfdaa.labelApart
open Go.ChangeShapes Go.WideShapes Go.RowKit
theorem infoInt : (Try.prog.info? 3).map (fun i => (i.zero, i.size, i.bytes)) = some (some (.int .i64 0), 1, 8) := by kernel_rfl
/-- The name in the statement. -/
def nm : List Nat := [110, 97, 109, 101]
/-- What the operations of the region that makes the two texts leave: numbers, rows of numbers, texts. -/
def Left (x0 x1 y0 y1 : Int) (i : Nat) (v : Value) (W : World) : Prop :=
  if i = 1 then v = .int .i64 x0 else if i = 3 then v = .int .i64 x1 else if i = 7 then v = .int .i64 y0 else if i = 9 then v = .int .i64 y1
  else if i = 4 then ∃ g, v = .slice (some ⟨g, 0, none⟩) 2 2 ∧ ReadsZ .i64 W (some ⟨g, 0, none⟩) 2 2 [x0, x1]
  else if i = 10 then ∃ g, v = .slice (some ⟨g, 0, none⟩) 2 2 ∧ ReadsZ .i64 W (some ⟨g, 0, none⟩) 2 2 [y0, y1]
  else if i = 5 ∨ i = 12 then ∃ A c, v = .slice A 21 c ∧ Reads .u8 W A 21 c (ofL nm [x0, x1])
  else ∃ A c, v = .slice A 21 c ∧ Reads .u8 W A 21 c (ofL nm [y0, y1])
theorem Left.keep (x0 x1 y0 y1 : Int) : ∀ i v w w', Left x0 x1 y0 y1 i v w → Below w.heap.size w w' → Left x0 x1 y0 y1 i v w' := by
  intro i v w w' h hb
  unfold Left at *
  by_cases e1 : i = 1
  · rw [if_pos e1] at *; exact h
  rw [if_neg e1] at *
  by_cases e2 : i = 3
  · rw [if_pos e2] at *; exact h
  rw [if_neg e2] at *
  by_cases e3 : i = 7
  · rw [if_pos e3] at *; exact h
  rw [if_neg e3] at *
  by_cases e4 : i = 9
  · rw [if_pos e4] at *; exact h
  rw [if_neg e4] at *
  by_cases e5 : i = 4
  · rw [if_pos e5] at *
    obtain ⟨g, e, h⟩ := h
    exact ⟨g, e, h.keep hb⟩
  rw [if_neg e5] at *
  by_cases e6 : i = 10
  · rw [if_pos e6] at *
    obtain ⟨g, e, h⟩ := h
    exact ⟨g, e, h.keep hb⟩
  rw [if_neg e6] at *
  by_cases e7 : i = 5 ∨ i = 12
  · rw [if_pos e7] at *
    obtain ⟨A, c, e, h⟩ := h
    exact ⟨A, c, e, h.keep hb⟩
  · rw [if_neg e7] at *
    obtain ⟨A, c, e, h⟩ := h
    exact ⟨A, c, e, h.keep hb⟩
theorem readsZ_blk {w : World} {g : Nat} {t : TypeId} {x y : Int} (h : Blk w g t [.int .i64 x, .int .i64 y]) (hx : (Lit.int .i64 x).wf = true) (hy : (Lit.int .i64 y).wf = true) : ReadsZ .i64 w (some ⟨g, 0, none⟩) 2 2 [x, y] := by
  refine ⟨rfl, Nat.le_refl _, by decide, ?_, fun i hi => ⟨_, rfl, h.lt, ?_⟩⟩
  · intro z hz
    rcases List.mem_cons.1 hz with rfl | hz
    · exact hx
    · rcases List.mem_cons.1 hz with rfl | hz
      · exact hy
      · cases hz
  · match i, hi with
    | 0, _ => exact h.all 0 _ rfl
    | 1, _ => exact h.all 1 _ rfl
/-- Of of the statement's name. -/
theorem of_nm (s : ByteArray) (A : Option Addr) (c : Nat) (x y : Int) (w : World) (hs : Hid (strL s = nm)) (hr : ReadsZ .i64 w A 2 c [x, y]) :
    Calls Try.prog 14 #[.string s, .slice A 2 c] w fun e w' => ∃ V d, e = .returned (.slice V 21 d) ∧ Reads .u8 w' V 21 d (ofL nm [x, y]) ∧ Below w.heap.size w w' := by
  have hl : s.size = 4 := by rw [← length_strL, hs.out]; rfl
  refine (of_c s A 2 c [x, y] w hr (by omega) (by decide)).mono ?_
  rintro e w' ⟨v, rfl, hm⟩
  rw [hs.out, show (ofL nm [x, y]).length = 21 from length_ofL _ _] at hm
  obtain ⟨V, d, rfl, hr'⟩ := Reads.of_own hm.1 (fun z hz => wf_u8.2 (ofL_lt _ _ (by decide) z hz))
  exact ⟨V, d, rfl, hr', hm.2⟩
theorem refOf_nm (s : ByteArray) (A : Option Addr) (c : Nat) (x y : Int) (w : World) (hs : Hid (strL s = nm)) (hr : ReadsZ .i64 w A 2 c [x, y]) :
    Calls Try.prog 15 #[.string s, .slice A 2 c] w fun e w' => ∃ V d, e = .returned (.slice V 21 d) ∧ Reads .u8 w' V 21 d (ofL nm [x, y]) ∧ Below w.heap.size w w' := by
  have hl : s.size = 4 := by rw [← length_strL, hs.out]; rfl
  refine (refOf_c s A 2 c [x, y] w hr (by omega) (by decide)).mono ?_
  rintro e w' ⟨v, rfl, hm⟩
  rw [hs.out, show (ofL nm [x, y]).length = 21 from length_ofL _ _] at hm
  obtain ⟨V, d, rfl, hr'⟩ := Reads.of_own hm.1 (fun z hz => wf_u8.2 (ofL_lt _ _ (by decide) z hz))
  exact ⟨V, d, rfl, hr', hm.2⟩
theorem eq_two {P : Program} (W : World) {t e : TypeId} {i : TypeInfo} (hu : P.underlying t = some (.array 2 e)) (hi : P.info? e = some i) (hc : P.cellsOf e = 1) (he : P.underlying e = some (.int .i64)) (a b x y : Int) :
    (Op.equalIn 10000 t (.agg [.int .i64 a, .int .i64 b].toArray) (.agg [.int .i64 x, .int .i64 y].toArray)).run P W = .ok (decide (a = x ∧ b = y)) W := by
  rw [run_equalIn_array W 9999 _ _ hu hi, hc]
  have r2 : List.range 2 = [0, 1] := rfl
  have p : ∀ (u v : Value) (j : Nat) (k : Int), [u, v][j]? = some (.int .i64 k) → (part e [u, v].toArray j).run P W = .ok (.int .i64 k) W := by
    intro u v j k h
    have : [u, v].toArray[j]? = some (.int .i64 k) := by simpa using h
    simp [part, isAgg, run_underlying he, this]
  have q0 : (Op.equalIn 9999 e (.int .i64 a) (.int .i64 x)).run P W = .ok (a == x) W := run_equalIn_int (P := P) W 9998 e .i64 .i64 a x he
  have q1 : (Op.equalIn 9999 e (.int .i64 b) (.int .i64 y)).run P W = .ok (b == y) W := run_equalIn_int (P := P) W 9998 e .i64 .i64 b y he
  rw [r2]
  simp only [Op.eqItems, Sem.run_bind, Nat.mul_one, p _ _ 0 a rfl, p _ _ 0 x rfl, q0, Result.andThen_ok]
  have z1 := p (.int .i64 a) (.int .i64 b) 1 b rfl
  have z2 := p (.int .i64 x) (.int .i64 y) 1 y rfl
  by_cases h0 : a = x
  · rw [beq_iff_eq.2 h0, if_neg (by simp)]
    simp only [Sem.run_bind, z1, z2, q1, Result.andThen_ok]
    by_cases h1 : b = y
    · rw [beq_iff_eq.2 h1, decide_eq_true ⟨h0, h1⟩, if_neg (by simp)]
      simp
    · rw [beq_eq_false_iff_ne.2 h1, decide_eq_false (fun h => h1 h.2), if_pos (by simp)]
      simp
  · rw [beq_eq_false_iff_ne.2 h0, decide_eq_false (fun h => h0 h.1)]
    simp
set_option maxRecDepth 100000 in
set_option maxHeartbeats 3200000 in
theorem walk (A : Option Addr) (n c : Nat) (a : List (List Nat)) (B : Option Addr) (m d : Nat) (b : List (List Nat)) (x0 x1 y0 y1 : Int) (w : World) (ha : ReadsAll .u8 w A n c a) (hb : ReadsAll .u8 w B m d b)
    (wx0 : (Lit.int .i64 x0).wf = true) (wx1 : (Lit.int .i64 x1).wf = true) (wy0 : (Lit.int .i64 y0).wf = true) (wy1 : (Lit.int .i64 y1).wf = true) :
    Calls Try.prog 5 #[.agg #[.slice A n c, .slice B m d], .agg #[.int .i64 x0, .int .i64 x1, .int .i64 y0, .int .i64 y1]] w fun e w' => e = .returned (.bool true) ∧ Below w.heap.size w w' := by
  go_enter Try.func5, Try.ntmps5
  go_wp2_with fail
  refine name_Calls (fun w1 => Blk w1 w.heap.size 37 [.slice A n c, .slice B m d] ∧ Blk w1 (w.heap.size + 1) 39 [.int .i64 x0, .int .i64 x1, .int .i64 y0, .int .i64 y1] ∧ Below w.heap.size w w1) ⟨?_, ?_, ((Below.refl _ _).alloc (Nat.le_refl _) _).alloc (by simp) _⟩ ?_
  · exact (Blk.new _ _ [.slice A n c, .slice B m d]).alloc _
  · have := Blk.new (w.alloc (.cells #[.slice A n c, .slice B m d] 37)) 39 [.int .i64 x0, .int .i64 x1, .int .i64 y0, .int .i64 y1]
    rw [World.size_alloc] at this
    exact this
  rintro w1 ⟨hb2, hb3, hbel1⟩
  refine (awake4_c _).mono ?_
  rintro e w2 ⟨rfl, hbe⟩
  have H2 := Lib.hid (hb2.below hbe hb2.lt)
  have H3 := Lib.hid (hb3.below hbe hb3.lt)
  have hbw2 := hbel1.trans (hbe.mono hbel1.size)
  have HA := Lib.hid (ha.keep hbw2)
  have HB := Lib.hid (hb.keep hbw2)
  clear ha hb hb2 hb3 hbe hbel1
  go_upto_region 3 with (fail)
  refine wp_region_held_drew (S := fun W => Blk W w.heap.size 37 [.slice A n c, .slice B m d] ∧ Blk W (w.heap.size + 1) 39 [.int .i64 x0, .int .i64 x1, .int .i64 y0, .int .i64 y1]) (by kernel_rfl) ⟨H2.out.drew, H3.out.drew⟩ (fun hS => ?_)
  refine wpAnyH_take (i := 0) (oi := ⟨some 17, .indexAddr 37 (.tmp 2) (.const (.int .i64 0)), _, _, _, _⟩) (v := .pointer (some ⟨w.heap.size, 0, none⟩)) rfl (by kernel_rfl) (by kernel_rfl) (by kernel_rfl) (fun _ _ _ h => h) (Or.inl ⟨by rfl, by intro W hSw; clear hSw; go_simp⟩) hS ?_
  simp only [Act.put, List.setIfInBounds_toArray, List.set_cons_zero, List.set_cons_succ]
  refine wpAnyH_take (i := 1) (oi := ⟨some 18, .load 22 (.tmp 17), _, _, _, _⟩) (v := .slice A n c) rfl (by kernel_rfl) (by kernel_rfl) (by kernel_rfl) (fun _ _ _ h => h) (Or.inl ⟨by rfl, by intro W hSw; have c0 := hSw.1.cellAt 0 (by simp); clear hSw; go_simp⟩) hS ?_
  simp only [Act.put, List.setIfInBounds_toArray, List.set_cons_zero, List.set_cons_succ]
  refine wpAnyH_take (i := 2) (oi := ⟨some 19, .indexAddr 37 (.tmp 2) (.const (.int .i64 1)), _, _, _, _⟩) (v := .pointer (some ⟨w.heap.size, 1, none⟩)) rfl (by kernel_rfl) (by kernel_rfl) (by kernel_rfl) (fun _ _ _ h => h) (Or.inl ⟨by rfl, by intro W hSw; clear hSw; go_simp⟩) hS ?_
  simp only [Act.put, List.setIfInBounds_toArray, List.set_cons_zero, List.set_cons_succ]
  refine wpAnyH_take (i := 3) (oi := ⟨some 20, .load 22 (.tmp 19), _, _, _, _⟩) (v := .slice B m d) rfl (by kernel_rfl) (by kernel_rfl) (by kernel_rfl) (fun _ _ _ h => h) (Or.inl ⟨by rfl, by intro W hSw; have c0 := hSw.1.cellAt 1 (by simp); clear hSw; go_simp⟩) hS ?_
  simp only [Act.put, List.setIfInBounds_toArray, List.set_cons_zero, List.set_cons_succ]
  refine wpAnyH_take (i := 4) (oi := ⟨some 21, .indexAddr 39 (.tmp 3) (.const (.int .i64 0)), _, _, _, _⟩) (v := .pointer (some ⟨w.heap.size + 1, 0, none⟩)) rfl (by kernel_rfl) (by kernel_rfl) (by kernel_rfl) (fun _ _ _ h => h) (Or.inl ⟨by rfl, by intro W hSw; clear hSw; go_simp⟩) hS ?_
  simp only [Act.put, List.setIfInBounds_toArray, List.set_cons_zero, List.set_cons_succ]
  refine wpAnyH_take (i := 5) (oi := ⟨some 22, .load 38 (.tmp 21), _, _, _, _⟩) (v := .agg [.int .i64 x0, .int .i64 x1].toArray) rfl (by kernel_rfl) (by kernel_rfl) (by kernel_rfl) (fun _ _ _ h => h) (yieldsIf_load_at rfl 38 (.tmp 21) rfl ⟨w.heap.size + 1, 0, none⟩ rfl [.int .i64 x0, .int .i64 x1] _ (fun W hW => Blk.pre (rest := [.int .i64 y0, .int .i64 y1]) hW.2) Try.underlying38 rfl (by kernel_rfl)) hS ?_
  simp only [Act.put, List.setIfInBounds_toArray, List.set_cons_zero, List.set_cons_succ]
  refine wpAnyH_take (i := 6) (oi := ⟨some 23, .indexAddr 39 (.tmp 3) (.const (.int .i64 1)), _, _, _, _⟩) (v := .pointer (some ⟨w.heap.size + 1, 2, none⟩)) rfl (by kernel_rfl) (by kernel_rfl) (by kernel_rfl) (fun _ _ _ h => h) (Or.inl ⟨by rfl, by intro W hSw; clear hSw; go_simp⟩) hS ?_
  simp only [Act.put, List.setIfInBounds_toArray, List.set_cons_zero, List.set_cons_succ]
  refine wpAnyH_take (i := 7) (oi := ⟨some 24, .load 38 (.tmp 23), _, _, _, _⟩) (v := .agg [.int .i64 y0, .int .i64 y1].toArray) rfl (by kernel_rfl) (by kernel_rfl) (by kernel_rfl) (fun _ _ _ h => h) (yieldsIf_load_at rfl 38 (.tmp 23) rfl ⟨w.heap.size + 1, 2, none⟩ rfl [.int .i64 y0, .int .i64 y1] _ (fun W hW => Blk.mid (pre := [.int .i64 x0, .int .i64 x1]) (rest := []) 2 rfl hW.2) Try.underlying38 rfl (by kernel_rfl)) hS ?_
  simp only [Act.put, List.setIfInBounds_toArray, List.set_cons_zero, List.set_cons_succ]
  refine wpAnyH_two_allocs (i := 8) (j := 9) (di := 7) (dj := 8) (t := 38) (zs := [.int .i64 0, .int .i64 0]) (by kernel_rfl) (by kernel_rfl) (by kernel_rfl) (by decide) (by decide) rfl rfl rfl rfl rfl rfl rfl rfl ?_ (fun W W' h hb => ⟨h.1.below hb h.1.lt, h.2.below hb h.2.lt⟩) hS ?_
  · intro W
    go_simp
  intro g7 g8 W hne hg7 hg8 h7 h8 hbW hSW
  clear hS
  have hS := hSW
  clear hSW
  simp only [Act.put, List.setIfInBounds_toArray, List.set_cons_zero, List.set_cons_succ]
  refine wpAnyH_take (i := 10) (oi := ⟨some 5, .assign (.tmp 18), _, _, _, _⟩) (v := .slice A n c) rfl (by kernel_rfl) (by kernel_rfl) (by kernel_rfl) (fun _ _ _ h => h) (Or.inl ⟨by rfl, by intro W hSw; clear hSw; go_simp⟩) hS ?_
  simp only [Act.put, List.setIfInBounds_toArray, List.set_cons_zero, List.set_cons_succ]
  refine wpAnyH_take (i := 11) (oi := ⟨some 6, .assign (.tmp 20), _, _, _, _⟩) (v := .slice B m d) rfl (by kernel_rfl) (by kernel_rfl) (by kernel_rfl) (fun _ _ _ h => h) (Or.inl ⟨by rfl, by intro W hSw; clear hSw; go_simp⟩) hS ?_
  simp only [Act.put, List.setIfInBounds_toArray, List.set_cons_zero, List.set_cons_succ]
  have hl3 : w.heap.size + 1 < w2.heap.size := H3.out.lt
  have hg7' : w2.heap.size ≤ g7 := hg7
  have hg8' : w2.heap.size ≤ g8 := hg8
  refine wpAnyH_ready (rs := [12]) (by kernel_rfl) (by simp) (AllReadyH.cons (o := ⟨none, .store 38 (.tmp 7) (.tmp 22), _, _, _, _⟩) rfl (fun K hK => ?_) AllReadyH.nil)
  refine step_store_blk rfl rfl 38 (.tmp 7) (.tmp 22) rfl g7 rfl [.int .i64 x0, .int .i64 x1] rfl _ _ h7 rfl (by simp [Value.oneCell']) (by kernel_rfl) ?_
  intro w3 h73 hg3
  refine hK.out _ _ ⟨hS.1.grown hg3 (by simp; omega), hS.2.grown hg3 (by simp; omega)⟩ (fun hS3 => ?_)
  have h83 := h8.grown hg3 (fun e => hne (Option.some.inj e).symm)
  clear hK K hS h7 h8
  have hS := hS3
  clear hS3
  refine wpAnyH_ready (rs := [13]) (by kernel_rfl) (by simp) (AllReadyH.cons (o := ⟨none, .store 38 (.tmp 8) (.tmp 24), _, _, _, _⟩) rfl (fun K hK => ?_) AllReadyH.nil)
  refine step_store_blk rfl rfl 38 (.tmp 8) (.tmp 24) rfl g8 rfl [.int .i64 y0, .int .i64 y1] rfl _ _ h83 rfl (by simp [Value.oneCell']) (by kernel_rfl) ?_
  intro w4 h84 hg4
  refine hK.out _ _ ⟨hS.1.grown hg4 (by simp; omega), hS.2.grown hg4 (by simp; omega)⟩ (fun hS4 => ?_)
  have h74 := h73.grown hg4 (fun e => hne (Option.some.inj e))
  clear hK K hS hS4
  refine wpAnyH_done (by kernel_rfl) ?_ _
  have hb03 := below_of_only hbW hg3 hbW.size hg7
  have hb04 := below_of_only hb03 hg4 hb03.size hg8
  have hb24 : Below w2.heap.size w2 w4 := ⟨hb04.os, hb04.tape, hb04.output, hb04.size, hb04.block⟩
  have hbw4 := hbw2.trans (hb24.mono hbw2.size)
  replace HA := Lib.hid (HA.out.keep hb24)
  replace HB := Lib.hid (HB.out.keep hb24)
  have H7 := Lib.hid h74
  have H8 := Lib.hid h84
  clear h73 h74 h83 h84 hg3 hg4 hb03 hb04 hb24 hbW hbw2 H2 H3 hg7' hg8' hg7 hg8 hl3
  go_upto_region 4 with (fail)
  by_cases fa : n ≤ 70 ∧ ∀ l ∈ a, l.length ≤ 100
  case neg =>
    have FA := Lib.hid fa
    clear fa
    go_wp2_with fail
    refine (few_no _ _ _ _ _ HA.out FA.out).mono ?_
    rintro e w5 ⟨rfl, rfl⟩
    go_wp2
    go_ret
    exact ⟨rfl, hbw4⟩
  case pos =>
  by_cases fb : m ≤ 70 ∧ ∀ l ∈ b, l.length ≤ 100
  case neg =>
    have FA := Lib.hid fa
    have FB := Lib.hid fb
    clear fa fb
    go_wp2_with fail
    refine (few_yes _ _ _ _ _ HA.out FA.out.1 FA.out.2).mono ?_
    rintro e w5 ⟨rfl, rfl⟩
    go_wp2_with fail
    refine (few_no _ _ _ _ _ HB.out FB.out).mono ?_
    rintro e w5 ⟨rfl, rfl⟩
    go_wp2
    go_ret
    exact ⟨rfl, hbw4⟩
  case pos =>
  have FA := Lib.hid fa
  have FB := Lib.hid fb
  clear fa fb
  go_wp2_with fail
  refine (few_yes _ _ _ _ _ HA.out FA.out.1 FA.out.2).mono ?_
  rintro e w5 ⟨rfl, rfl⟩
  go_wp2_with fail
  refine (few_yes _ _ _ _ _ HB.out FB.out.1 FB.out.2).mono ?_
  rintro e w5 ⟨rfl, rfl⟩
  by_cases hn : 64 < n
  case pos =>
    have hd : decide ((64 : Int) < (n : Int)) = true := by simp; omega
    go_wp2
    go_ret
    exact ⟨rfl, hbw4⟩
  case neg =>
  have hd : decide ((64 : Int) < (n : Int)) = false := by simp; omega
  by_cases hm : 64 < m
  case pos =>
    have hd2 : decide ((64 : Int) < (m : Int)) = true := by simp; omega
    go_wp2
    go_ret
    exact ⟨rfl, hbw4⟩
  case neg =>
  have hd2 : decide ((64 : Int) < (m : Int)) = false := by simp; omega
  have SA : Hid (∀ l ∈ a, l.length ≤ 1048576) := fun l hl => Nat.le_trans (FA.out.2 l hl) (by decide)
  have SB : Hid (∀ l ∈ b, l.length ≤ 1048576) := fun l hl => Nat.le_trans (FB.out.2 l hl) (by decide)
  have XA : Hid (∀ x ∈ joinL a, x < 256) := joinL_lt a (fun l hl x hx => by
    obtain ⟨i, hi, rfl⟩ := List.getElem_of_mem hl
    obtain ⟨_, _, _, _, _, _, _, hrow⟩ := HA.out.row i hi
    exact wf_u8.1 (hrow.wf x hx))
  have XB : Hid (∀ x ∈ joinL b, x < 256) := joinL_lt b (fun l hl x hx => by
    obtain ⟨i, hi, rfl⟩ := List.getElem_of_mem hl
    obtain ⟨_, _, _, _, _, _, _, hrow⟩ := HB.out.row i hi
    exact wf_u8.1 (hrow.wf x hx))
  obtain ⟨bb, hbb⟩ : ∃ bb : Bool, Hid (decide (a = b) = bb) := ⟨_, rfl⟩
  have HJ : Hid (decide (joinL a = joinL b) = bb) := by
    show _ = _
    rw [← hbb.out]
    exact decide_eq_decide.2 (joinL_inj a b (by rw [HA.out.len]; omega) (by rw [HB.out.len]; omega) SA.out SB.out)
  have hnb : (bb != bb) = false := by simp
  go_wp2_with fail
  refine (join_c _ _ _ _ _ HA.out (by omega) SA.out).mono ?_
  rintro e w5 ⟨v5, rfl, hm5⟩
  obtain ⟨A5, c5, rfl, hr5⟩ := Reads.of_own hm5.1 (fun x hx => wf_u8.2 (XA.out x hx))
  have hb5 := hm5.2
  obtain ⟨N5, hN5⟩ : ∃ N, Hid ((joinL a).length = N) := ⟨_, rfl⟩
  rw [hN5.out] at hr5 ⊢
  have HR5 := Lib.hid hr5
  replace HA := Lib.hid (HA.out.keep hb5)
  replace HB := Lib.hid (HB.out.keep hb5)
  replace H7 := Lib.hid (H7.out.below hb5 H7.out.lt)
  replace H8 := Lib.hid (H8.out.below hb5 H8.out.lt)
  have hbw5 := hbw4.trans (hb5.mono hbw4.size)
  clear hr5 hm5 hb5 hbw4
  go_wp2_with fail
  refine (join_c _ _ _ _ _ HB.out (by omega) SB.out).mono ?_
  rintro e w6 ⟨v6, rfl, hm6⟩
  obtain ⟨A6, c6, rfl, hr6⟩ := Reads.of_own hm6.1 (fun x hx => wf_u8.2 (XB.out x hx))
  have hb6 := hm6.2
  obtain ⟨N6, hN6⟩ : ∃ N, Hid ((joinL b).length = N) := ⟨_, rfl⟩
  rw [hN6.out] at hr6 ⊢
  have HR6 := Lib.hid hr6
  replace HA := Lib.hid (HA.out.keep hb6)
  replace HB := Lib.hid (HB.out.keep hb6)
  replace HR5 := Lib.hid (HR5.out.keep hb6)
  replace H7 := Lib.hid (H7.out.below hb6 H7.out.lt)
  replace H8 := Lib.hid (H8.out.below hb6 H8.out.lt)
  have hbw6 := hbw5.trans (hb6.mono hbw5.size)
  clear hr6 hm6 hb6 hbw5
  go_wp2_with fail
  refine (same_c _ _ _ _ _ _ _ _ _ HR5.out HR6.out).mono ?_
  rintro e w7 ⟨rfl, k7, hw7⟩
  rw [HJ.out]
  have hh7 : w7.heap = w6.heap := by rw [hw7]; rfl
  have hbw7 : Below w.heap.size w w7 := by rw [hw7]; exact belowDrewN hbw6 _
  replace HA := Lib.hid (HA.out.of_heap hh7)
  replace HB := Lib.hid (HB.out.of_heap hh7)
  replace H7 := Lib.hid (H7.out.of_heap hh7)
  replace H8 := Lib.hid (H8.out.of_heap hh7)
  clear hw7 hh7 HR5 HR6 hbw6
  go_wp2_with fail
  refine (sames_c _ _ _ _ _ _ _ _ _ HA.out HB.out).mono ?_
  rintro e w8 ⟨rfl, k8, hw8⟩
  rw [hbb.out]
  have hh8 : w8.heap = w7.heap := by rw [hw8]; rfl
  have hbw8 : Below w.heap.size w w8 := by rw [hw8]; exact belowDrewN hbw7 _
  replace H7 := Lib.hid (H7.out.of_heap hh8)
  replace H8 := Lib.hid (H8.out.of_heap hh8)
  clear hw8 hh8 HA HB hbw7
  go_upto_region 10 with (fail)
  refine wp_region_any (by kernel_rfl) ?_
  change wpAny _ _ _ _ _ _ _ (World.drew _)
  refine wpAny_take (i := 0) (oi := ⟨some 68, .indexAddr 38 (.tmp 7) (.const (.int .i64 0)), _, _, _, _⟩) (v := ?_) rfl (by kernel_rfl) (by kernel_rfl) (by kernel_rfl) (fun _ _ _ h => h) (Or.inl ⟨by rfl, ?_⟩) ?_
  rotate_left
  · intro W; go_simp; try with_reducible rfl
  simp only [Act.put, List.setIfInBounds_toArray, List.set_cons_zero, List.set_cons_succ]
  refine wpAny_take (i := 2) (oi := ⟨some 70, .indexAddr 38 (.tmp 7) (.const (.int .i64 1)), _, _, _, _⟩) (v := ?_) rfl (by kernel_rfl) (by kernel_rfl) (by kernel_rfl) (fun _ _ _ h => h) (Or.inl ⟨by rfl, ?_⟩) ?_
  rotate_left
  · intro W; go_simp; try with_reducible rfl
  simp only [Act.put, List.setIfInBounds_toArray, List.set_cons_zero, List.set_cons_succ]
  refine wpAny_take (i := 6) (oi := ⟨some 74, .indexAddr 38 (.tmp 8) (.const (.int .i64 0)), _, _, _, _⟩) (v := ?_) rfl (by kernel_rfl) (by kernel_rfl) (by kernel_rfl) (fun _ _ _ h => h) (Or.inl ⟨by rfl, ?_⟩) ?_
  rotate_left
  · intro W; go_simp; try with_reducible rfl
  simp only [Act.put, List.setIfInBounds_toArray, List.set_cons_zero, List.set_cons_succ]
  refine wpAny_take (i := 8) (oi := ⟨some 76, .indexAddr 38 (.tmp 8) (.const (.int .i64 1)), _, _, _, _⟩) (v := ?_) rfl (by kernel_rfl) (by kernel_rfl) (by kernel_rfl) (fun _ _ _ h => h) (Or.inl ⟨by rfl, ?_⟩) ?_
  rotate_left
  · intro W; go_simp; try with_reducible rfl
  simp only [Act.put, List.setIfInBounds_toArray, List.set_cons_zero, List.set_cons_succ]
  have HNM : Hid (strL ⟨#[110, 97, 109, 101]⟩ = nm) := by show _ = _; decide
  replace H7 := Lib.hid (H7.out.of_heap (w' := w8.drew) rfl)
  replace H8 := Lib.hid (H8.out.of_heap (w' := w8.drew) rfl)
  replace hbw8 := hbw8.drew
  refine wpAny_rely (g := 0) [(1, 69), (3, 71), (4, 72), (5, 73), (7, 75), (9, 77), (10, 78), (11, 79), (12, 13), (13, 14)] (Left x0 x1 y0 y1) [] (by kernel_rfl) rfl (Left.keep x0 x1 y0 y1) ?hstep ?hend
  case hstep =>
    intro p hp o ho x W hbel hdep K hK
    have c70 := (H7.out.below hbel H7.out.lt).cellAt 0 (by simp)
    have c71 := (H7.out.below hbel H7.out.lt).cellAt 1 (by simp)
    have c80 := (H8.out.below hbel H8.out.lt).cellAt 0 (by simp)
    have c81 := (H8.out.below hbel H8.out.lt).cellAt 1 (by simp)
    simp only [List.mem_cons, List.not_mem_nil, or_false] at hp
    rcases hp with rfl | rfl | rfl | rfl | rfl | rfl | rfl | rfl | rfl | rfl
    · cases Option.some.inj ho
      simp only [frm, List.foldl_cons, List.foldl_nil, Act.put, List.setIfInBounds_toArray, List.set_cons_zero, List.set_cons_succ] at hK ⊢
      clear hdep ho
      go_simp
      exact hK _ _ rfl (Below.refl _ _) (by simp)
    · cases Option.some.inj ho
      simp only [frm, List.foldl_cons, List.foldl_nil, Act.put, List.setIfInBounds_toArray, List.set_cons_zero, List.set_cons_succ] at hK ⊢
      clear hdep ho
      go_simp
      exact hK _ _ rfl (Below.refl _ _) (by simp)
    · cases Option.some.inj ho
      have d0 : x 1 = .int .i64 x0 := hdep ⟨1, .data⟩ (by simp) rfl rfl
      have d1 : x 3 = .int .i64 x1 := hdep ⟨3, .data⟩ (by simp) rfl rfl
      simp only [frm, List.foldl_cons, List.foldl_nil, Act.put, List.setIfInBounds_toArray, List.set_cons_zero, List.set_cons_succ] at hK ⊢
      clear hdep ho
      rw [d0, d1] at hK ⊢
      clear d0 d1
      go_simp
      exact hK _ _ ⟨_, rfl, readsZ_blk (Blk.new _ _ [.int .i64 x0, .int .i64 x1]) wx0 wx1⟩ ((Below.refl _ _).alloc (Nat.le_refl _) _) (by simp)
    · cases Option.some.inj ho
      have d0 : Left x0 x1 y0 y1 4 (x 4) W := hdep ⟨4, .data⟩ (by simp) rfl rfl
      obtain ⟨g, hx, hra⟩ : ∃ g, x 4 = .slice (some ⟨g, 0, none⟩) 2 2 ∧ ReadsZ .i64 W (some ⟨g, 0, none⟩) 2 2 [x0, x1] := d0
      simp only [frm, List.foldl_cons, List.foldl_nil, Act.put, List.setIfInBounds_toArray, List.set_cons_zero, List.set_cons_succ] at hK ⊢
      clear hdep ho
      rw [hx] at hK ⊢
      clear hx
      go_simp
      refine (of_nm _ _ _ _ _ _ HNM hra).mono ?_
      rintro e w' ⟨V, d', rfl, hr', hb⟩
      exact hK _ _ ⟨V, d', rfl, hr'⟩ hb (by simp)
    · cases Option.some.inj ho
      simp only [frm, List.foldl_cons, List.foldl_nil, Act.put, List.setIfInBounds_toArray, List.set_cons_zero, List.set_cons_succ] at hK ⊢
      clear hdep ho
      go_simp
      exact hK _ _ rfl (Below.refl _ _) (by simp)
    · cases Option.some.inj ho
      simp only [frm, List.foldl_cons, List.foldl_nil, Act.put, List.setIfInBounds_toArray, List.set_cons_zero, List.set_cons_succ] at hK ⊢
      clear hdep ho
      go_simp
      exact hK _ _ rfl (Below.refl _ _) (by simp)
    · cases Option.some.inj ho
      have d0 : x 7 = .int .i64 y0 := hdep ⟨7, .data⟩ (by simp) rfl rfl
      have d1 : x 9 = .int .i64 y1 := hdep ⟨9, .data⟩ (by simp) rfl rfl
      simp only [frm, List.foldl_cons, List.foldl_nil, Act.put, List.setIfInBounds_toArray, List.set_cons_zero, List.set_cons_succ] at hK ⊢
      clear hdep ho
      rw [d0, d1] at hK ⊢
      clear d0 d1
      go_simp
      exact hK _ _ ⟨_, rfl, readsZ_blk (Blk.new _ _ [.int .i64 y0, .int .i64 y1]) wy0 wy1⟩ ((Below.refl _ _).alloc (Nat.le_refl _) _) (by simp)
    · cases Option.some.inj ho
      have d0 : Left x0 x1 y0 y1 10 (x 10) W := hdep ⟨10, .data⟩ (by simp) rfl rfl
      obtain ⟨g, hx, hra⟩ : ∃ g, x 10 = .slice (some ⟨g, 0, none⟩) 2 2 ∧ ReadsZ .i64 W (some ⟨g, 0, none⟩) 2 2 [y0, y1] := d0
      simp only [frm, List.foldl_cons, List.foldl_nil, Act.put, List.setIfInBounds_toArray, List.set_cons_zero, List.set_cons_succ] at hK ⊢
      clear hdep ho
      rw [hx] at hK ⊢
      clear hx
      go_simp
      refine (of_nm _ _ _ _ _ _ HNM hra).mono ?_
      rintro e w' ⟨V, d', rfl, hr', hb⟩
      exact hK _ _ ⟨V, d', rfl, hr'⟩ hb (by simp)
    · cases Option.some.inj ho
      have d0 : Left x0 x1 y0 y1 5 (x 5) W := hdep ⟨5, .data⟩ (by simp) rfl rfl
      obtain ⟨V, d', hx, hra⟩ : ∃ V d', x 5 = .slice V 21 d' ∧ Reads .u8 W V 21 d' (ofL nm [x0, x1]) := d0
      simp only [frm, List.foldl_cons, List.foldl_nil, Act.put, List.setIfInBounds_toArray, List.set_cons_zero, List.set_cons_succ] at hK ⊢
      clear hdep ho
      rw [hx] at hK ⊢
      clear hx
      go_simp
      exact hK _ _ ⟨V, d', rfl, hra⟩ (Below.refl _ _) (by simp)
    · cases Option.some.inj ho
      have d0 : Left x0 x1 y0 y1 11 (x 11) W := hdep ⟨11, .data⟩ (by simp) rfl rfl
      obtain ⟨V, d', hx, hra⟩ : ∃ V d', x 11 = .slice V 21 d' ∧ Reads .u8 W V 21 d' (ofL nm [y0, y1]) := d0
      simp only [frm, List.foldl_cons, List.foldl_nil, Act.put, List.setIfInBounds_toArray, List.set_cons_zero, List.set_cons_succ] at hK ⊢
      clear hdep ho
      rw [hx] at hK ⊢
      clear hx
      go_simp
      exact hK _ _ ⟨V, d', rfl, hra⟩ (Below.refl _ _) (by simp)
  case hend =>
  intro x W hbel hall _
  obtain ⟨V12, d12, hx12, hr12⟩ : ∃ V d', x 12 = .slice V 21 d' ∧ Reads .u8 W V 21 d' (ofL nm [x0, x1]) := hall (12, 13) (by simp)
  obtain ⟨V13, d13, hx13, hr13⟩ : ∃ V d', x 13 = .slice V 21 d' ∧ Reads .u8 W V 21 d' (ofL nm [y0, y1]) := hall (13, 14) (by simp)
  simp only [frm, List.foldl_cons, List.foldl_nil, Act.put, List.setIfInBounds_toArray, List.set_cons_zero, List.set_cons_succ]
  rw [hx12, hx13]
  clear hx12 hx13 hall
  generalize x 1 = z1
  generalize x 3 = z3
  generalize x 4 = z4
  generalize x 5 = z5
  generalize x 7 = z7
  generalize x 9 = z9
  generalize x 10 = z10
  generalize x 11 = z11
  refine wpAny_done (by kernel_rfl) ?_ _
  replace H7 := Lib.hid (H7.out.below hbel H7.out.lt)
  replace H8 := Lib.hid (H8.out.below hbel H8.out.lt)
  have hbw9 := hbw8.trans (hbel.mono hbw8.size)
  have HRX := Lib.hid hr12
  have HRY := Lib.hid hr13
  clear hr12 hr13 hbel hbw8
  go_upto_region 11 with (fail)
  obtain ⟨cc, hcc⟩ : ∃ cc : Bool, Hid (decide (x0 = y0 ∧ x1 = y1) = cc) := ⟨_, rfl⟩
  have HOF : Hid (decide (ofL nm [x0, x1] = ofL nm [y0, y1]) = cc) := by
    show _ = _
    rw [← hcc.out]
    exact decide_eq_decide.2 (ofL_inj2 nm x0 x1 y0 y1 wx0 wx1 wy0 wy1)
  have hcb : (cc == cc) = true := by simp
  have HEQ : Hid (∀ W : World, (Op.equalIn 10000 38 (.agg [.int .i64 x0, .int .i64 x1].toArray) (.agg [.int .i64 y0, .int .i64 y1].toArray)).run Try.prog W = .ok cc W) := by
    obtain ⟨i1, hi1, _⟩ := info_parts infoInt
    intro W
    rw [eq_two W Try.underlying38 hi1 (by kernel_rfl) Try.underlying3, hcc.out]
  refine wp_region_held_drew (S := fun W => Blk W g7 38 [.int .i64 x0, .int .i64 x1] ∧ Blk W g8 38 [.int .i64 y0, .int .i64 y1]) (by kernel_rfl) ⟨H7.out.drew, H8.out.drew⟩ (fun hS => ?_)
  refine wpAnyH_take (i := 0) (oi := ⟨some 80, .move (.tmp 13), _, _, _, _⟩) (v := .slice V12 21 d12) rfl (by kernel_rfl) (by kernel_rfl) (by kernel_rfl) (fun _ _ _ h => h) (Or.inl ⟨by rfl, by intro W hSw; clear hSw; go_simp⟩) hS ?_
  simp only [Act.put, List.setIfInBounds_toArray, List.set_cons_zero, List.set_cons_succ]
  refine wpAnyH_take (i := 1) (oi := ⟨some 81, .move (.tmp 14), _, _, _, _⟩) (v := .slice V13 21 d13) rfl (by kernel_rfl) (by kernel_rfl) (by kernel_rfl) (fun _ _ _ h => h) (Or.inl ⟨by rfl, by intro W hSw; clear hSw; go_simp⟩) hS ?_
  simp only [Act.put, List.setIfInBounds_toArray, List.set_cons_zero, List.set_cons_succ]
  refine wpAnyH_take (i := 3) (oi := ⟨some 83, .load 38 (.tmp 7), _, _, _, _⟩) (v := .agg [.int .i64 x0, .int .i64 x1].toArray) rfl (by kernel_rfl) (by kernel_rfl) (by kernel_rfl) (fun _ _ _ h => h) (yieldsIf_load_at rfl 38 (.tmp 7) rfl ⟨g7, 0, none⟩ rfl [.int .i64 x0, .int .i64 x1] _ (fun W hW => Blk.all hW.1) Try.underlying38 rfl (by kernel_rfl)) hS ?_
  simp only [Act.put, List.setIfInBounds_toArray, List.set_cons_zero, List.set_cons_succ]
  refine wpAnyH_take (i := 4) (oi := ⟨some 84, .load 38 (.tmp 8), _, _, _, _⟩) (v := .agg [.int .i64 y0, .int .i64 y1].toArray) rfl (by kernel_rfl) (by kernel_rfl) (by kernel_rfl) (fun _ _ _ h => h) (yieldsIf_load_at rfl 38 (.tmp 8) rfl ⟨g8, 0, none⟩ rfl [.int .i64 y0, .int .i64 y1] _ (fun W hW => Blk.all hW.2) Try.underlying38 rfl (by kernel_rfl)) hS ?_
  simp only [Act.put, List.setIfInBounds_toArray, List.set_cons_zero, List.set_cons_succ]
  refine wpAnyH_take (i := 5) (oi := ⟨some 85, .binOp .eql 38 (.tmp 83) (.tmp 84) 38, _, _, _, _⟩) (v := .bool cc) rfl (by kernel_rfl) (by kernel_rfl) (by kernel_rfl) (fun _ _ _ h => h) (Or.inl ⟨by rfl, by intro W hSw; clear hSw; go_simp; rw [HEQ.out]; go_simp⟩) hS ?_
  simp only [Act.put, List.setIfInBounds_toArray, List.set_cons_zero, List.set_cons_succ]
  refine wpAnyH_ready (rs := [2]) (by kernel_rfl) (by simp) (AllReadyH.cons (o := ⟨some 82, .call { callee := .value (.func 10), args := #[.tmp 80, .tmp 81], argTypes := #[25, 25] }, _, _, _, _⟩) rfl (fun K hK => ?_) AllReadyH.nil)
  go_simp
  refine (same_c _ _ _ _ _ _ _ _ _ (HRX.out.of_heap (w' := W.drew) rfl) (HRY.out.of_heap (w' := W.drew) rfl)).mono ?_
  rintro e w10 ⟨rfl, k10, hw10⟩
  rw [HOF.out]
  have hh10 : w10.heap = W.heap := by rw [hw10]; rfl
  have hbw10 : Below w.heap.size w w10 := by rw [hw10]; exact belowDrewN hbw9.drew _
  refine hK.out _ _ ⟨H7.out.of_heap hh10, H8.out.of_heap hh10⟩ (fun hS10 => ?_)
  replace HRX := Lib.hid (HRX.out.of_heap hh10)
  clear hK K hS hw10 hh10 HRY hbw9 H7 H8
  have hS := hS10
  clear hS10
  refine wpAnyH_take (i := 6) (oi := ⟨some 86, .binOp .eql 4 (.tmp 82) (.tmp 85) 4, _, _, _, _⟩) (v := .bool true) rfl (by kernel_rfl) (by kernel_rfl) (by kernel_rfl) (fun _ _ _ h => h) (Or.inl ⟨by rfl, by intro W hSw; clear hSw; go_simp⟩) hS ?_
  simp only [Act.put, List.setIfInBounds_toArray, List.set_cons_zero, List.set_cons_succ]
  refine wpAnyH_take (i := 7) (oi := ⟨some 87, .move (.tmp 86), _, _, _, _⟩) (v := .bool true) rfl (by kernel_rfl) (by kernel_rfl) (by kernel_rfl) (fun _ _ _ h => h) (Or.inl ⟨by rfl, by intro W hSw; clear hSw; go_simp⟩) hS ?_
  simp only [Act.put, List.setIfInBounds_toArray, List.set_cons_zero, List.set_cons_succ]
  refine wpAnyH_take (i := 8) (oi := ⟨some 88, .move (.tmp 13), _, _, _, _⟩) (v := .slice V12 21 d12) rfl (by kernel_rfl) (by kernel_rfl) (by kernel_rfl) (fun _ _ _ h => h) (Or.inl ⟨by rfl, by intro W hSw; clear hSw; go_simp⟩) hS ?_
  simp only [Act.put, List.setIfInBounds_toArray, List.set_cons_zero, List.set_cons_succ]
  refine wpAnyH_take (i := 9) (oi := ⟨some 89, .slice 38 (.tmp 7) none none none, _, _, _, _⟩) (v := .slice (some ⟨g7, 0, none⟩) 2 2) rfl (by kernel_rfl) (by kernel_rfl) (by kernel_rfl) (fun _ _ _ h => h) (Or.inl ⟨by rfl, by intro W hSw; clear hSw; go_simp⟩) hS ?_
  simp only [Act.put, List.setIfInBounds_toArray, List.set_cons_zero, List.set_cons_succ]
  refine wpAnyH_ready (rs := [10]) (by kernel_rfl) (by simp) (AllReadyH.cons (o := ⟨some 90, .call { callee := .value (.func 15), args := #[.const (.string ⟨#[110, 97, 109, 101]⟩), .tmp 89], argTypes := #[9, 42] }, _, _, _, _⟩) rfl (fun K hK => ?_) AllReadyH.nil)
  go_simp
  refine (refOf_nm _ _ _ _ _ _ HNM (readsZ_blk hS.1 wx0 wx1)).mono ?_
  rintro e w11 ⟨V11, d11, rfl, hr11, hb11⟩
  have hbw11 := hbw10.trans (hb11.mono hbw10.size)
  replace HRX := Lib.hid (HRX.out.keep hb11)
  have HR11 := Lib.hid hr11
  refine hK.out _ _ ⟨hS.1.below hb11 hS.1.lt, hS.2.below hb11 hS.2.lt⟩ (fun hS11 => ?_)
  clear hK K hS hr11 hb11 hbw10
  have hS := hS11
  clear hS11
  refine wpAnyH_ready (rs := [11]) (by kernel_rfl) (by simp) (AllReadyH.cons (o := ⟨some 91, .call { callee := .value (.func 10), args := #[.tmp 88, .tmp 90], argTypes := #[25, 25] }, _, _, _, _⟩) rfl (fun K hK => ?_) AllReadyH.nil)
  go_simp
  refine (same_c _ _ _ _ _ _ _ _ _ HRX.out HR11.out).mono ?_
  rintro e w12 ⟨rfl, k12, hw12⟩
  rw [decide_eq_true rfl]
  have hh12 : w12.heap = w11.heap := by rw [hw12]; rfl
  have hbw12 : Below w.heap.size w w12 := by rw [hw12]; exact belowDrewN hbw11 _
  refine hK.out _ _ ⟨hS.1.of_heap hh12, hS.2.of_heap hh12⟩ (fun hS12 => ?_)
  clear hK K hS hw12 hh12 hbw11 HRX HR11
  have hS := hS12
  clear hS12
  refine wpAnyH_take (i := 12) (oi := ⟨some 92, .pick (.tmp 87) (.tmp 91) (.const (.bool false)), _, _, _, _⟩) (v := .bool true) rfl (by kernel_rfl) (by kernel_rfl) (by kernel_rfl) (fun _ _ _ h => h) (Or.inl ⟨by rfl, by intro W hSw; clear hSw; go_simp⟩) hS ?_
  simp only [Act.put, List.setIfInBounds_toArray, List.set_cons_zero, List.set_cons_succ]
  refine wpAnyH_take (i := 13) (oi := ⟨some 4, .assign (.tmp 92), _, _, _, _⟩) (v := .bool true) rfl (by kernel_rfl) (by kernel_rfl) (by kernel_rfl) (fun _ _ _ h => h) (Or.inl ⟨by rfl, by intro W hSw; clear hSw; go_simp⟩) hS ?_
  simp only [Act.put, List.setIfInBounds_toArray, List.set_cons_zero, List.set_cons_succ]
  refine wpAnyH_done (by kernel_rfl) ?_ _
  go_wp2
  go_ret
  exact ⟨rfl, hbw12⟩
end Go.Proofs.Yteaebicggjmfdaa.labelApart
