/- What Push of package back does with any cells, as a walk through the translated text. Conditions: the Lines lies in two blocks of its own, the cells lie elsewhere. -/
import Derived.Test.YtdldffgdipedpaaDoorBack3
import Derived.Deep.DeepCutAuto
namespace Go.Proofs.YtdldffgdipedpaaDoor
open Go.ChangeShapes Go.WideShapes Go.RowKit
/-- The count and the loss are told, the ring is as it was. -/
structure Half (w w5 : World) (g rg most nx : Nat) (all : List (List CellV)) : Prop where
  box : Blk w5 g 46 [.slice (some ⟨rg, 0, none⟩) most most, .int .i64 (nx : Int), .int .i64 ((min (all.length + 1) most : Nat) : Int), .int .i64 ((all.length + 1 - most : Nat) : Int)]
  only : w.grownBy w5 (some g)
theorem Half.of {w w5 : World} {g rg most nx : Nat} {all : List (List CellV)} (c l : Nat) (h : Blk w5 g 46 [.slice (some ⟨rg, 0, none⟩) most most, .int .i64 (nx : Int), .int .i64 (c : Int), .int .i64 (l : Int)]) (hc : min (all.length + 1) most = c) (hl : all.length + 1 - most = l) (ho : w.grownBy w5 (some g)) : Half w w5 g rg most nx all := ⟨by rw [hc, hl]; exact h, ho⟩
/-- The new line lies in the ring, the place of the next one is as it was. -/
structure Mid (w wx : World) (g rg most nx : Nat) (all : List (List CellV)) (cs : List Value) (y : List CellV) : Prop where
  box : Blk wx g 46 [.slice (some ⟨rg, 0, none⟩) most most, .int .i64 (nx : Int), .int .i64 ((min (all.length + 1) most : Nat) : Int), .int .i64 ((all.length + 1 - most : Nat) : Int)]
  ring : ∃ v, Blk wx rg 31 (cs.set nx v) ∧ RowS (In g rg) wx v y
  chg : Chg (In g rg) w wx
theorem Mid.of {w wc w7 : World} {g rg most nx : Nat} {all : List (List CellV)} {cs : List Value} {y : List CellV} {V : Option Addr} {n7 d7 : Nat} (hH : Half w wc g rg most nx all) (hlt : ∀ i, In g rg i → i < w.heap.size) (hne : g ≠ rg)
    (hb7 : Below wc.heap.size wc w7) (hbx : Blk w7 g 46 [.slice (some ⟨rg, 0, none⟩) most most, .int .i64 (nx : Int), .int .i64 ((min (all.length + 1) most : Nat) : Int), .int .i64 ((all.length + 1 - most : Nat) : Int)])
    (hcs : Blk w7 rg 31 cs) (hr : ReadsS cellV 4 w7 V n7 d7 y) (hf : ∀ rd, V = some rd → wc.heap.size ≤ rd.block) : Mid w (w7.setCell ⟨rg, nx, none⟩ (.slice V n7 d7)) g rg most nx all cs y := by
  have hs := hH.only.size
  have hlt2 : ∀ i, In g rg i → i < wc.heap.size := fun i hi => Nat.lt_of_lt_of_le (hlt i hi) hs
  have hc7 : Chg (In g rg) w w7 := (Chg.of_only hH.only (fun _ hi => .inl (Option.some.inj hi).symm)).trans' (Chg.of_below hb7)
  have hc8 : Chg (In g rg) w7 (w7.setCell ⟨rg, nx, none⟩ (.slice V n7 d7)) := Chg.of_only (row := some rg) (only_setCell (World.grownBy.refl _ _) rfl _) (fun _ hi => .inr (Option.some.inj hi).symm)
  exact ⟨hbx.far (fun e => hne e) _, ⟨_, hcs.set_ nx _, (RowS.fresh (W := wc) hr hf hlt2).chg hc8⟩, hc7.trans' hc8⟩
def Pushed (w : World) (g rg most : Nat) (all : List (List CellV)) (en : Ending) (w' : World) : Prop := (∃ v, en = .returned v) ∧ LAt w' g rg most all ∧ Chg (In g rg) w w'
theorem mod_apart {k L m : Nat} (h1 : k < L) (h2 : L + 1 ≤ k + m) : L % m ≠ k % m := by
  intro e
  have h3 := Nat.sub_mod_eq_zero_of_mod_eq e
  rw [Nat.mod_eq_of_lt (by omega)] at h3
  omega
theorem Mid.done {w wx : World} {g rg most nx p : Nat} {all : List (List CellV)} {cs : List Value} {y : List CellV} (hM : Mid w wx g rg most nx all cs y) (hL : LAt w g rg most all) (h0 : 0 < most) (hnx : nx = all.length % most) (hcl : cs.length = most)
    (hrows : ∀ k, (h : k < all.length) → all.length ≤ k + most → ∃ v, cs[k % most]? = some v ∧ RowS (In g rg) w v all[k]) (hp : (nx + 1) % most = p) : Pushed w g rg most (all ++ [y]) (.returned (.tuple #[])) (wx.setCell ⟨g, 1, none⟩ (.int .i64 (p : Int))).drew := by
  have hc : Chg (In g rg) wx (wx.setCell ⟨g, 1, none⟩ (.int .i64 (p : Int))).drew := by
    have h1 : Chg (In g rg) wx (wx.setCell ⟨g, 1, none⟩ (.int .i64 (p : Int))) := Chg.of_only (row := some g) (only_setCell (World.grownBy.refl _ _) rfl _) (fun _ hi => .inl (Option.some.inj hi).symm)
    exact ⟨h1.os, h1.tape, h1.output, h1.size, h1.block⟩
  obtain ⟨v, hb, hr⟩ := hM.ring
  refine ⟨⟨_, rfl⟩, ⟨⟨p, ?_, fun _ => ?_⟩, ⟨cs.set nx v, (hb.far (fun e => hL.ne e.symm) _).drew, by rw [List.length_set, hcl], fun k hk hkm => ?_⟩, hL.ne⟩, hM.chg.trans' hc⟩
  · rw [List.length_append, List.length_singleton]
    exact (hM.box.set_ 1 (.int .i64 (p : Int))).drew
  · rw [← hp, hnx, Nat.mod_add_mod, List.length_append, List.length_singleton]
  · rw [List.length_append, List.length_singleton] at hk hkm
    rcases Nat.lt_or_ge k all.length with h | h
    · obtain ⟨v', e1, e2⟩ := hrows k h (by omega)
      refine ⟨v', ?_, ?_⟩
      · rw [List.getElem?_set_ne (by rw [hnx]; exact mod_apart h hkm)]
        exact e1
      · rw [List.getElem_append_left h]
        exact (e2.chg hM.chg).chg hc
    · obtain rfl : k = all.length := by omega
      refine ⟨v, ?_, ?_⟩
      · rw [← hnx, List.getElem?_set_self (by rw [hcl, hnx]; exact Nat.mod_lt _ h0)]
      · rw [List.getElem_append_right (Nat.le_refl _)]
        simp only [Nat.sub_self, List.getElem_cons_zero]
        exact hr.chg hc
theorem Half.done {w wc : World} {g rg nx : Nat} {all : List (List CellV)} (y : List CellV) (hH : Half w wc g rg 0 nx all) (hL : LAt w g rg 0 all) : Pushed w g rg 0 (all ++ [y]) (.returned (.tuple #[])) wc := by
  obtain ⟨cs, hcs, hcl, _⟩ := hL.ring
  refine ⟨⟨_, rfl⟩, ⟨⟨nx, ?_, fun h => by omega⟩, ⟨cs, hcs.grown hH.only (fun e => hL.ne (Option.some.inj e).symm), hcl, fun k hk hkm => ?_⟩, hL.ne⟩, Chg.of_only hH.only (fun _ hi => .inl (Option.some.inj hi).symm)⟩
  · rw [List.length_append, List.length_singleton]
    exact hH.box
  · omega
set_option maxHeartbeats 3200000 in
theorem pushL_c (g rg most : Nat) (all : List (List CellV)) (R : Option Addr) (m cr : Nat) (l : List CellV) (w : World) (h : LAt w g rg most all) (hl : RowS (In g rg) w (.slice R m cr) l) (hm : most ≤ 100) (hall : all.length ≤ 1000000) (hn : m ≤ 1099511627776) :
    Calls Tryd.prog 9 #[.pointer (some ⟨g, 0, none⟩), .slice R m cr] w (Pushed w g rg most (all ++ [cutC l])) := by
  obtain ⟨nx, hb, hnx⟩ := h.box
  have HNX := Lib.hid hnx
  have HB := Lib.hid hb
  have H := Lib.hid h
  have HL := Lib.hid hl
  have c0 : w.cell? ⟨g, 0, none⟩ = _ := hb.cell 0
  have c2 : w.cell? ⟨g, 2, none⟩ = _ := hb.cell 2
  have c3 : w.cell? ⟨g, 3, none⟩ = _ := hb.cell 3
  have f2 := hb.frozen 2
  have f3 := hb.frozen 3
  simp only [List.getElem?_cons_zero, List.getElem?_cons_succ] at c0 c2 c3
  obtain ⟨C, hC⟩ : ∃ C, Hid (min all.length most = C) := ⟨_, rfl⟩
  obtain ⟨D, hD⟩ : ∃ D, Hid (all.length - most = D) := ⟨_, rfl⟩
  rw [hC.out] at c2 HB
  rw [hD.out] at c3 HB
  have hC1 : C ≤ 100 := by rw [← hC.out]; omega
  have hD1 : D ≤ 1000000 := by rw [← hD.out]; omega
  clear hb h hl hnx
  go_enter Tryd.func9, Tryd.ntmps9
  go_wp2_with fail
  go_quiet (fail)
  go_upto_if 13 with (fail)
  go_cut [4] (fun _ wx => Half w wx g rg most nx all)
  case first =>
    go_wp2
    · go_meet
      exact Half.of (C + 1) D ((HB.out.drewN nq).set_ 2 (.int .i64 ((C + 1 : Nat) : Int))) (by have := hC.out; omega) (by have := hC.out; have := hD.out; omega) (only_setCell (only_of_below (belowDrewN (Below.refl _ _) nq) (some g)) rfl _)
    · go_meet
      exact Half.of C (D + 1) ((HB.out.drewN nq).set_ 3 (.int .i64 ((D + 1 : Nat) : Int))) (by have := hC.out; omega) (by have := hC.out; have := hD.out; omega) (only_setCell (only_of_below (belowDrewN (Below.refl _ _) nq) (some g)) rfl _)
  case rest =>
    have HH := Lib.hid hcut
    have HB5 := Lib.hid hcut.box
    clear c0 c2 c3 f2 f3 hcut
    have c0 : wc.cell? ⟨g, 0, none⟩ = _ := HB5.out.cell 0
    have c1 : wc.cell? ⟨g, 1, none⟩ = _ := HB5.out.cell 1
    have f1 := HB5.out.frozen 1
    simp only [List.getElem?_cons_zero, List.getElem?_cons_succ] at c0 c1
    rcases Nat.eq_zero_or_pos most with h0 | h0
    · have t3 : ((most : Int) == 0) = true := by rw [beq_iff_eq]; omega
      subst h0
      go_wp2
      go_end0
      exact HH.out.done _ H.out
    · have t3 : ((most : Int) == 0) = false := by rw [beq_eq_false_iff_ne]; omega
      have hnx := Lib.hid (HNX.out h0)
      have hnl : nx < most := by rw [hnx.out]; exact Nat.mod_lt _ h0
      have hn1 : (nx : Int) < (most : Int) := by omega
      have hn0 : (0 : Int) ≤ (nx : Int) := by omega
      have HC : Hid (∀ W : World, W.heap = wc.heap → Calls Tryd.prog 17 #[.slice R m cr] W (NewS W (cutC l))) :=
        fun W e => bcut_c R m cr l W ((HL.out.chg (Chg.of_only HH.out.only (fun _ hi => .inl (Option.some.inj hi).symm))).reads.of_heap e) hn
      obtain ⟨cs, hcs, hcl, hrows⟩ := H.out.ring
      have HCS : Hid (Blk wc rg 31 cs) := hcs.grown HH.out.only (fun e => H.out.ne (Option.some.inj e).symm)
      have HROWS := Lib.hid hrows
      have HCL := Lib.hid hcl
      clear hcs hcl hrows
      go_wp2_with fail
      go_upto_region 4 with (fail)
      go_cut [34] (fun _ wx => Mid w wx g rg most nx all cs (cutC l))
      case first =>
        go_region_with ((go_at_call 17; refine (HC.out _ ?_).mono ?_; rfl; rintro en w7 ⟨V, n7, d7, rfl, hr7, hf7, hb7⟩; have hcs7 := (Blk.of_heap (w' := wc.drew) HCS.out rfl).below hb7 HCS.out.lt; have hbx7 := (Blk.of_heap (w' := wc.drew) HB5.out rfl).below hb7 HB5.out.lt; have d0 : w7.cell? ⟨g, 0, none⟩ = _ := hbx7.cell 0; have d1 : w7.cell? ⟨g, 1, none⟩ = _ := hbx7.cell 1; simp only [List.getElem?_cons_zero, List.getElem?_cons_succ] at d0 d1; have k7 := hcs7.cellAt nx (by rw [HCL.out]; exact hnl); have f7 := hcs7.frozen nx; have HR7 := Lib.hid hr7; have HF7 := Lib.hid hf7; have HBW7 : Hid (Below wc.heap.size wc w7) := ⟨hb7.os, hb7.tape, hb7.output, hb7.size, hb7.block⟩; have HCS7 := Lib.hid hcs7; have HBX7 := Lib.hid hbx7; clear hr7 hf7 hb7 hcs7 hbx7))
        all_goals
          go_wp2
          go_meet
          exact Mid.of HH.out H.out.lt H.out.ne HBW7.out HBX7.out HCS7.out HR7.out HF7.out
      case rest =>
        have HM := Lib.hid hcut
        have HBM := Lib.hid hcut.box
        clear c0 c1 f1 hcut
        have c0 : wc.cell? ⟨g, 0, none⟩ = _ := HBM.out.cell 0
        have c1 : wc.cell? ⟨g, 1, none⟩ = _ := HBM.out.cell 1
        have f1 := HBM.out.frozen 1
        simp only [List.getElem?_cons_zero, List.getElem?_cons_succ] at c0 c1
        obtain ⟨p, hp⟩ : ∃ p, Hid ((nx + 1) % most = p) := ⟨_, rfl⟩
        have hrem : ((nx : Int) + 1).tmod (most : Int) = (p : Int) := by
          rw [← hp.out, Int.tmod_eq_emod_of_nonneg (by omega)]
          rfl
        have hm0 : (most : Int) ≠ 0 := by omega
        go_wp2_with fail
        go_region
        go_end0
        exact HM.out.done H.out h0 hnx.out HCL.out HROWS.out hp.out
end Go.Proofs.YtdldffgdipedpaaDoor
