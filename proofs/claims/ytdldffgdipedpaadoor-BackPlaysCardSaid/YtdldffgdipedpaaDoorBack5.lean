/- What Line, Text and Clear of package back do, as walks through the translated text. Conditions: the Lines lies in two blocks of its own; its lines are of at most a thousand cells each, whose parts fit their types. -/
import Derived.Test.YtdldffgdipedpaaDoorBack4
import Derived.Test.YtdldffgdipedpaaDoorCellT
import Derived.Lib.SliceRun
namespace Go.Proofs.YtdldffgdipedpaaDoor
open Go.ChangeShapes Go.WideShapes Go.RowKit
/-- The line n, the newest first: none if it is not there. -/
def lineL (most : Nat) (all : List (List CellV)) (n : Int) : List CellV := if 0 ≤ n ∧ n < ((min all.length most : Nat) : Int) then all.getD (all.length - 1 - n.toNat) [] else []
theorem lineL_no {most : Nat} {all : List (List CellV)} {n : Int} (h : n < 0 ∨ ((min all.length most : Nat) : Int) ≤ n) : lineL most all n = [] := by rw [lineL, if_neg (by omega)]
theorem lineL_at {most : Nat} {all : List (List CellV)} {j : Nat} (h : j < min all.length most) : ∃ hk : all.length - 1 - j < all.length, lineL most all (j : Int) = all[all.length - 1 - j] := by
  have hk : all.length - 1 - j < all.length := by omega
  refine ⟨hk, ?_⟩
  rw [lineL, if_pos ⟨by omega, by omega⟩, List.getD_eq_getElem?_getD, Int.toNat_natCast, List.getElem?_eq_getElem hk]
  rfl
theorem lineL_all {most : Nat} {all : List (List CellV)} {n : Int} {p : List CellV → Prop} (h : ∀ l ∈ all, p l) (h0 : p []) : p (lineL most all n) := by
  by_cases h1 : n < 0
  · rw [lineL_no (.inl h1)]; exact h0
  · obtain ⟨j, rfl⟩ := Int.eq_ofNat_of_zero_le (show 0 ≤ n by omega)
    rcases Nat.lt_or_ge j (min all.length most) with h2 | h2
    · obtain ⟨hk, e⟩ := lineL_at h2
      rw [e]
      exact h _ (List.getElem_mem hk)
    · rw [lineL_no (.inr (by omega))]; exact h0
/-- The place in the ring. -/
theorem ring_place {L most j nx : Nat} (h : j < min L most) (hn : nx = L % most) : ((nx : Int) - 1 - (j : Int) + (most : Int)).tmod (most : Int) = (((L - 1 - j) % most : Nat) : Int) := by
  have hm : 0 < most := by omega
  have hlt : nx < most := by rw [hn]; exact Nat.mod_lt _ hm
  have e1 : (nx : Int) - 1 - (j : Int) + (most : Int) = ((nx + most - 1 - j : Nat) : Int) := by omega
  rw [e1, Int.tmod_eq_emod_of_nonneg (by omega)]
  have e2 : (nx + most - 1 - j) % most = (L - 1 - j) % most := by
    have h1 := Nat.div_add_mod L most
    have h2 : (nx + most - 1 - j + most * (L / most)) % most = (nx + most - 1 - j) % most := Nat.add_mul_mod_self_left _ _ _
    have h3 : (L - 1 - j + most) % most = (L - 1 - j) % most := Nat.add_mod_right _ _
    rw [← h2, ← h3]
    congr 1
    generalize most * (L / most) = D at h1
    omega
  rw [← e2]
  rfl
theorem line_none (w : World) (g : Nat) (C n : Int) (hc : w.cell? ⟨g, 2, none⟩ = some (.int .i64 C)) (h : n < 0 ∨ C ≤ n) :
    Calls Tryd.prog 13 #[.pointer (some ⟨g, 0, none⟩), .int .i64 n] w fun en w' => en = .returned (.slice none 0 0) ∧ w = w' := by
  by_cases h1 : n < 0
  · have h2 : decide (n < 0) = true := by rw [decide_eq_true_eq]; exact h1
    go_enter Tryd.func13, Tryd.ntmps13
    go_wp2
    go_ret
    exact ⟨rfl, rfl⟩
  · have h2 : decide (n < 0) = false := by rw [decide_eq_false_iff_not]; exact h1
    have h3 : decide (C ≤ n) = true := by rw [decide_eq_true_eq]; omega
    clear h h1
    go_enter Tryd.func13, Tryd.ntmps13
    go_wp2
    go_ret
    exact ⟨rfl, rfl⟩
set_option maxHeartbeats 1600000 in
theorem line_some (g rg most : Nat) (all : List (List CellV)) (j : Nat) (w : World) (h : LAt w g rg most all) (hj : j < min all.length most) (hm : most ≤ 100) (hall : ∀ l ∈ all, l.length ≤ 1000) :
    Calls Tryd.prog 13 #[.pointer (some ⟨g, 0, none⟩), .int .i64 (j : Int)] w (NewS w (lineL most all (j : Int))) := by
  obtain ⟨hk, e⟩ := lineL_at hj
  rw [e]
  obtain ⟨nx, hb, hnx⟩ := h.box
  obtain ⟨cs, hcs, hcl, hrows⟩ := h.ring
  have hm0 : 0 < most := by omega
  have hrem := ring_place hj (hnx hm0)
  obtain ⟨v, hv, R, m, cr, rfl, hr, _⟩ := hrows _ hk (by omega)
  have hml : m ≤ 1000 := by rw [← hr.len]; exact hall _ (List.getElem_mem hk)
  obtain ⟨q, hq⟩ : ∃ q, Hid ((all.length - 1 - j) % most = q) := ⟨_, rfl⟩
  have hqm : q < most := by rw [← hq.out]; exact Nat.mod_lt _ hm0
  have hnm : nx < most := by rw [hnx hm0]; exact Nat.mod_lt _ hm0
  rw [hq.out] at hrem hv
  have c0 : w.cell? ⟨g, 0, none⟩ = _ := hb.cell 0
  have c1 : w.cell? ⟨g, 1, none⟩ = _ := hb.cell 1
  have c2 : w.cell? ⟨g, 2, none⟩ = _ := hb.cell 2
  have k4 : w.cell? ⟨rg, q, none⟩ = _ := (hcs.cell q).trans hv
  simp only [List.getElem?_cons_zero, List.getElem?_cons_succ] at c0 c1 c2
  obtain ⟨y, HY⟩ : ∃ y, Hid (all[all.length - 1 - j] = y) := ⟨all[all.length - 1 - j], rfl⟩
  rw [HY.out] at hr ⊢
  obtain ⟨C, hC⟩ : ∃ C, Hid (min all.length most = C) := ⟨_, rfl⟩
  rw [hC.out] at c2 hj
  have HCL : Hid (∀ k, Calls Tryd.prog 19 #[.slice R m cr] (w.drewN k) (NewS (w.drewN k) y)) := fun k => bclone_c R m cr y (w.drewN k) (hr.of_heap rfl) (by omega)
  have hj1 : decide ((C : Int) ≤ (j : Int)) = false := by rw [decide_eq_false_iff_not]; omega
  have hj2 : decide (C ≤ j) = false := by rw [decide_eq_false_iff_not]; omega
  have hj0 : decide ((j : Int) < 0) = false := by rw [decide_eq_false_iff_not]; omega
  have hjm : (j : Int) ≤ 100 := by have := hC.out; omega
  have hq0 : (0 : Int) ≤ (q : Int) := by omega
  have hq1 : (q : Int) < (most : Int) := by omega
  have hmz : (most : Int) ≠ 0 := by omega
  have hw1 : IntKind.i64.wrap ((nx : Int) - 1) = (nx : Int) - 1 := IntWalk.i64_in _ (by omega)
  have hw2 : IntKind.i64.wrap ((nx : Int) - 1 - (j : Int)) = (nx : Int) - 1 - (j : Int) := IntWalk.i64_in _ (by omega)
  have hw3 : IntKind.i64.wrap ((nx : Int) - 1 - (j : Int) + (most : Int)) = (nx : Int) - 1 - (j : Int) + (most : Int) := IntWalk.i64_in _ (by omega)
  clear hb hcs hcl hrows hr hv HY hk e h hall hnx
  go_enter Tryd.func13, Tryd.ntmps13
  go_wp2_with fail
  go_quiet (fail)
  go_wp2_with fail
  refine (HCL.out _).mono ?_
  rintro en w4 ⟨V, n4, d, rfl, hrV, hbV, hb4⟩
  have HP : Hid (ReadsS cellV 4 w4 V n4 d y ∧ (∀ rd, V = some rd → w.heap.size ≤ rd.block) ∧ Below w.heap.size w w4) := ⟨hrV, hbV, (belowDrewN (Below.refl _ w) _).trans hb4⟩
  clear hrV hbV hb4
  go_wp2
  go_ret
  exact ⟨V, n4, d, by rfl, HP.out⟩
theorem line15_c (g rg most : Nat) (all : List (List CellV)) (n : Int) (w : World) (h : LAt w g rg most all) (hm : most ≤ 100) (hall : ∀ l ∈ all, l.length ≤ 1000) :
    Calls Tryd.prog 13 #[.pointer (some ⟨g, 0, none⟩), .int .i64 n] w (NewS w (lineL most all n)) := by
  by_cases hn : n < 0 ∨ ((min all.length most : Nat) : Int) ≤ n
  · obtain ⟨nx, hb, _⟩ := h.box
    rw [lineL_no hn]
    refine (line_none w g _ n (hb.cell 2) hn).mono ?_
    rintro en w' ⟨rfl, rfl⟩
    exact ⟨none, 0, 0, rfl, .nil (by simp [maxLen]), by simp, Below.refl _ _⟩
  · obtain ⟨j, rfl⟩ := Int.eq_ofNat_of_zero_le (show 0 ≤ n by omega)
    exact line_some g rg most all j w h (by omega) hm hall
theorem text_c15 (g rg most : Nat) (all : List (List CellV)) (n : Int) (w : World) (h : LAt w g rg most all) (hm : most ≤ 100) (hall : ∀ l ∈ all, l.length ≤ 1000) (hfit : ∀ l ∈ all, ∀ x ∈ l, fitC x) :
    Calls Tryd.prog 14 #[.pointer (some ⟨g, 0, none⟩), .int .i64 n] w fun en w' => ∃ t : ByteArray, en = .returned (.string t) ∧ strL t = textZ (cutZ ((lineL most all n).map (·.1))) ∧ Below w.heap.size w w' := by
  have HLine := Lib.hid (line15_c g rg most all n w h hm hall)
  have hlen : (lineL most all n).length ≤ 1000 := lineL_all hall (by simp)
  have hfit1 : Hid (∀ x ∈ lineL most all n, fitC x) := lineL_all (p := fun l => ∀ x ∈ l, fitC x) hfit (by simp)
  generalize lineL most all n = y at *
  clear h hall hfit
  go_enter Tryd.func14, Tryd.ntmps14
  go_wp2_with fail
  refine HLine.out.mono ?_
  rintro en w1 ⟨V, n1, d, rfl, hr, _, hb1⟩
  have HB1 := Lib.hid hb1
  have hl := hr.len
  have HT := Lib.hid (cellText_c V n1 d y w1 hr hfit1.out (by omega))
  clear hb1 hr hl
  go_wp2_with fail
  refine HT.out.mono ?_
  rintro en w2 ⟨t, rfl, ht, hb2⟩
  have HP : Hid (strL t = textZ (cutZ (y.map (·.1))) ∧ Below w.heap.size w w2) := ⟨ht, HB1.out.trans (hb2.mono HB1.out.size)⟩
  clear ht hb2
  go_wp2
  go_ret
  exact ⟨t, rfl, HP.out⟩
theorem only_setCells (b : Nat) (vs : List Value) : ∀ (o : Nat) (w : World), w.grownBy (w.setCells b o vs) (some b) := by
  induction vs with
  | nil => intro o w; exact World.grownBy.refl _ _
  | cons v r ih => intro o w; exact only_trans (only_setCell (World.grownBy.refl _ _) rfl v) (ih _ _)
set_option maxHeartbeats 1600000 in
theorem clear_c15 (g rg most : Nat) (all : List (List CellV)) (w : World) (h : LAt w g rg most all) :
    Calls Tryd.prog 16 #[.pointer (some ⟨g, 0, none⟩)] w fun en w' => (∃ v, en = .returned v) ∧ Blk w' g 46 [.slice (some ⟨rg, 0, none⟩) most most, .int .i64 0, .int .i64 0, .int .i64 ((all.length - most : Nat) : Int)] ∧ Chg (In g rg) w w' := by
  obtain ⟨nx, hb, _⟩ := h.box
  obtain ⟨cs, hcs, hcl, _⟩ := h.ring
  have hne := h.ne
  obtain ⟨W2, hrun, hgr⟩ : ∃ W2, (∀ ty, (Builtin.clear_ #[22] ty #[.slice (some ⟨rg, 0, none⟩) most most]).run Tryd.prog w = .ok (.tuple #[]) W2) ∧ w.grownBy W2 (some rg) := by
    rcases Nat.eq_zero_or_pos most with h0 | h0
    · subst h0
      exact ⟨w, fun ty => by simp [Builtin.clear_, run_underlying Tryd.underlying22], World.grownBy.refl _ _⟩
    · refine ⟨_, fun ty => Lib.run_clear_slice w 22 31 ty (.slice none 0 0) Tryd.underlying22 (fun w => by kernel_rfl) rfl rfl rg 0 most most h0 (fun j hj => ?_) (fun j _ => ?_), only_setCells _ _ _ _⟩
      · rw [Nat.zero_add, hcs.cell j, List.getElem?_eq_getElem (by omega)]; rfl
      · exact hcs.frozen _
  have HB2 : Hid (Blk W2 g 46 [.slice (some ⟨rg, 0, none⟩) most most, .int .i64 (nx : Int), .int .i64 ((min all.length most : Nat) : Int), .int .i64 ((all.length - most : Nat) : Int)]) := hb.grown hgr (fun e => hne (Option.some.inj e))
  have HG := Lib.hid hgr
  have c0 : w.cell? ⟨g, 0, none⟩ = _ := hb.cell 0
  have d1 : W2.cell? ⟨g, 1, none⟩ = _ := HB2.out.cell 1
  have d2 : W2.cell? ⟨g, 2, none⟩ = _ := HB2.out.cell 2
  have f1 := HB2.out.frozen 1
  have f2 := HB2.out.frozen 2
  simp only [List.getElem?_cons_zero, List.getElem?_cons_succ] at c0 d1 d2
  clear hb hcs hcl h hgr
  go_enter Tryd.func16, Tryd.ntmps16
  go_wp2_with (simp only [hrun])
  go_end0
  exact ⟨⟨_, rfl⟩, (HB2.out.set_ 1 (.int .i64 0)).set_ 2 (.int .i64 0), (Chg.of_only HG.out (fun _ hi => .inr (Option.some.inj hi).symm)).trans' (Chg.of_only (row := some g) (only_setCell (p := ⟨g, 2, none⟩) (only_setCell (p := ⟨g, 1, none⟩) (World.grownBy.refl _ _) rfl _) rfl _) (fun _ hi => .inl (Option.some.inj hi).symm))⟩
theorem len_at (w : World) (g : Nat) (z : Int) (hc : w.cell? ⟨g, 2, none⟩ = some (.int .i64 z)) : Calls Tryd.prog 10 #[.pointer (some ⟨g, 0, none⟩)] w fun en w' => en = .returned (.int .i64 z) ∧ w = w' := by
  go_enter Tryd.func10, Tryd.ntmps10
  go_wp2
  go_ret
  exact ⟨rfl, rfl⟩
theorem lost_at (w : World) (g : Nat) (z : Int) (hc : w.cell? ⟨g, 3, none⟩ = some (.int .i64 z)) : Calls Tryd.prog 11 #[.pointer (some ⟨g, 0, none⟩)] w fun en w' => en = .returned (.int .i64 z) ∧ w = w' := by
  go_enter Tryd.func11, Tryd.ntmps11
  go_wp2
  go_ret
  exact ⟨rfl, rfl⟩
end Go.Proofs.YtdldffgdipedpaaDoor
