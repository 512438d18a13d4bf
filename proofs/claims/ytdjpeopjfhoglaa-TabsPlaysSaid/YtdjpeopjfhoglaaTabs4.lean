/- What Resize and New of package tabs do, for every number of columns, as walks through the translated text. Conditions: the Stops lies in memory of its own. -/
import Derived.Test.YtdjpeopjfhoglaaTabs2
import Derived.Test.YtdjpeopjfhoglaaSame
namespace Go.Proofs.Ytdjpeopjfhoglaa
open Go.ChangeShapes Go.WideShapes Go.RowKit
theorem infoI : (Try.prog.info? 3).map (fun i => (i.zero, i.size, i.bytes)) = some (some (.int .i64 0), 1, 8) := by kernel_rfl
theorem reads_one {w : World} {g : Nat} {t : TypeId} {x : Nat} (h : Blk w g t [.int .i64 (x : Int)]) (hx : x ≤ 1000) : Reads .i64 w (some ⟨g, 0, none⟩) 1 1 [x] :=
  ⟨rfl, Nat.le_refl _, by decide, fun y hy => by obtain rfl := List.mem_singleton.1 hy; exact wf64 y hx, fun i hi => by
    obtain rfl : i = 0 := by simpa using hi
    exact ⟨_, rfl, h.lt, by rw [add_head]; exact h.cell 0⟩⟩
theorem belAlloc (w : World) (o : Obj) : Below w.heap.size w (w.alloc o) := (Below.refl _ _).alloc (Nat.le_refl _) _
/-- Resize's loop: up to column j the row is as it will be. -/
structure Rz (w wr : World) (F : Nat → Prop) (g z n m : Nat) (p : Nat → Bool) (j : Nat) : Prop where
  lo : n ≤ j
  hi : j ≤ max n m
  st : ∃ v, Blk wr g 44 [.int .i64 (n : Int), v] ∧ OwnS wr 0 v (min m j) (sizeP n p) ∧ ∀ h, v.ownBlock = some h → orNew F w h ∧ h ≠ g ∧ h ≠ z
  bx : Blk wr z 3 [.int .i64 (m : Int)]
  ch : Chg F w wr
/-- Resize answers 0 and the row has m columns, or it answers 22 and the row is as it was. -/
def RPost (w : World) (g : Nat) (F : Nat → Prop) (n : Nat) (p : Nat → Bool) (c : Int) (en : Ending) (w' : World) : Prop :=
  (1 ≤ c ∧ c ≤ 132 ∧ en = .returned (.int .i64 0) ∧ TAt w' g (orNew F w) c.toNat (sizeP n p) ∧ Chg F w w') ∨
  (¬ (1 ≤ c ∧ c ≤ 132) ∧ en = .returned (.int .i64 22) ∧ TAt w' g (orNew F w) n p ∧ Chg F w w')
set_option maxRecDepth 100000 in
set_option maxHeartbeats 3200000 in
theorem resize_c (g : Nat) (F : Nat → Prop) (n : Nat) (p : Nat → Bool) (c : Int) (w : World) (h : TAt w g F n p) (hF : ∀ i, F i → i < w.heap.size) :
    Calls Try.prog 16 #[.pointer (some ⟨g, 0, none⟩), .int .i64 c] w (RPost w g F n p c) := by
  obtain ⟨i0, hi, hz0, hz1, hz2⟩ := info_parts infoI
  have hn := h.cap
  have h1 := h.pos
  have hm := h.mem
  have H := Lib.hid h
  clear h
  by_cases hc : 1 ≤ c ∧ c ≤ 132
  · obtain ⟨m, rfl⟩ : ∃ m : Nat, c = m := ⟨c.toNat, by omega⟩
    have hm1 : 1 ≤ m := by omega
    have hm2 : m ≤ 132 := by omega
    have d1 : decide ((m : Int) < 1) = false := by simp; omega
    have d2 : decide ((132 : Int) < (m : Int)) = false := by simp; omega
    have HC := Lib.hid hc
    clear hc
    go_enter Try.func16, Try.ntmps16
    go_upto_region 1 with (fail)
    obtain ⟨z, hz⟩ : ∃ z, Hid (w.heap.size = z) := ⟨_, rfl⟩
    rw [hz.out]
    refine name_wp (fun w1 => Blk w1 z 3 [.int .i64 (m : Int)] ∧ Below w.heap.size w w1) ⟨by rw [← hz.out]; exact Blk.new _ _ _, belAlloc _ _⟩ ?_
    rintro w1 ⟨hb1, hbel1⟩
    have b0 : w1.cell? ⟨z, 0, none⟩ = some (.int .i64 (m : Int)) := hb1.cell 0
    have HT1 := Lib.hid (H.out.below hbel1)
    obtain ⟨v, hblk, hown, hv⟩ := HT1.out.ex
    have hnz : v.ownBlock ≠ some z := fun e => by have := hF z (hv z e).1; have := hz.out; omega
    have HD := Lib.hid (deleteFunc_c v 0 n m z p 3 w1 hown hn hb1 hnz)
    have HV := Lib.hid hv
    have c1 : w1.cell? ⟨g, 1, none⟩ = some v := hblk.cell 1
    obtain ⟨A, k, rfl⟩ := own_form hown
    have HB1 := Lib.hid hb1
    have HBel1 := Lib.hid hbel1
    have HK1 := Lib.hid hblk
    have HNZ := Lib.hid hnz
    clear hblk hown hv hb1 hbel1 hnz
    go_wp2_with fail
    refine HD.out.mono ?_
    rintro en w2 ⟨v', rfl, ho2, hg2, hv2⟩
    obtain ⟨A', k', rfl⟩ := own_form ho2
    have hgz : g ≠ z := fun e => by have := hF g hm; have := hz.out; omega
    have hb2 := HK1.out.grown hg2 (fun e => (HV.out g e.symm).2 rfl)
    have e1 : w2.cell? ⟨g, 1, none⟩ = _ := hb2.cell 1
    have f1 := hb2.frozen 1
    simp only [List.getElem?_cons_zero, List.getElem?_cons_succ] at e1
    have HB2 := Lib.hid hb2
    have HO2 := Lib.hid ho2
    have HG2 := Lib.hid hg2
    have HV2 := Lib.hid hv2
    have HX2 := Lib.hid (HB1.out.grown hg2 (fun e => HNZ.out e.symm))
    clear hb2 ho2 hg2 hv2 b0
    go_upto_region 5 with (fail)
    refine name_wp (fun w3 => Rz w w3 F g z n m p n) ?_ ?_
    · have hne : ∀ i, (Value.slice A' (stp (min m n) p).length k').ownBlock = some i → orNew F w i ∧ i ≠ g ∧ i ≠ z := by
        intro i hi
        rw [HV2.out] at hi
        exact ⟨.inl (HV.out i hi).1, (HV.out i hi).2, fun e => HNZ.out (e ▸ hi)⟩
      refine ⟨Nat.le_refl _, by omega, ⟨_, HB2.out.set_ 1 _, ?_, hne⟩, HX2.out.far (p := ⟨g, 1, none⟩) hgz.symm _, ?_⟩
      · have e := own_keep HO2.out (only_setCell (World.grownBy.refl _ _) (p := ⟨g, 1, none⟩) rfl (.slice A' (stp (min m n) p).length k')) (fun i hi e => by cases e; exact (hne g hi).2.1 rfl)
        unfold OwnS
        rw [stp_size_lo]
        exact e
      · have k1 : Chg F w w2 := (Chg.of_below HBel1.out).trans' (Chg.of_only HG2.out (fun i hi => (HV.out i hi).1))
        exact k1.trans' (Chg.of_only (row := some g) (only_setCell (World.grownBy.refl _ _) rfl _) (fun i hi => by cases hi; exact hm))
    intro w3 h3
    have HR3 := Lib.hid h3
    have k0 : w3.cell? ⟨g, 0, none⟩ = some (.int .i64 (n : Int)) := by
      obtain ⟨v3, hb3, _⟩ := h3.st
      exact hb3.cell 0
    clear h3 e1 f1 c1
    go_upto_region 6 with (fail)
    go_loopw [6] (fun i wr => ∃ j : Nat, i = .int .i64 j ∧ Hid (Rz w wr F g z n m p j)) (fun i _ => m - (intOf i).toNat)
    case atStart => exact ⟨n, rfl, HR3⟩
    case round =>
      obtain ⟨j, rfl, HR⟩ := hrel
      clear k0
      have b0 : wr.cell? ⟨z, 0, none⟩ = some (.int .i64 (m : Int)) := HR.out.bx.cell 0
      obtain ⟨v, hblk, hown, hv⟩ := HR.out.st
      have hlo := HR.out.lo
      by_cases hjm : j < m
      · have hjz : (j : Int) < (m : Int) := by omega
        obtain ⟨r, hr⟩ : ∃ r : Nat, j % 8 = r := ⟨_, rfl⟩
        have hrem : (j : Int).tmod 8 = (r : Int) := by rw [Int.tmod_eq_emod_of_nonneg (by omega)]; omega
        have hs := stp_succ j (sizeP n p)
        rw [sizeP_new n p (by omega) j hlo, hr] at hs
        rw [Nat.min_eq_right (by omega)] at hown
        by_cases hr0 : r = 0
        · subst hr0
          rw [if_pos (by simp)] at hs
          have hlen := stp_length j (sizeP n p)
          have c1 : wr.cell? ⟨g, 1, none⟩ = some v := hblk.cell 1
          obtain ⟨A2, k2, rfl⟩ := own_form hown
          have HO := Lib.hid hown
          have HBK := Lib.hid hblk
          have HVV := Lib.hid hv
          have HS := Lib.hid hs
          have HHR := Lib.hid hr
          unfold OwnS at HO
          clear hblk hown hv hs hr
          obtain ⟨N, hN⟩ : ∃ N, Hid ((stp j (sizeP n p)).length = N) := ⟨_, rfl⟩
          rw [hN.out] at HO c1 HBK HVV hlen
          go_upto_region 9 with (fail)
          go_upto_region 7 with (at_builtin; refine wpList_appB rfl (.tmp 39) (.tmp 41) 34 rfl 0 3 i0 (.int .i64 0) 8 Try.underlying34 hi hz0 hz1 hz2 rfl _ N (ints .i64 (stp j (sizeP n p))) rfl (own_chg HO.out (F := fun _ => False) (Chg.of_below (belAlloc _ _)) (fun _ _ h => h)) .i64 (some ⟨wr.heap.size, 0, none⟩) 1 1 [j] rfl (reads_one (Blk.new _ _ _) (by omega)) (by unfold maxLen; omega) (by omega) (Nat.zero_le _) ?_; intro v1 w4 hown4 hgrow4 hat4; obtain ⟨A4, k4, rfl⟩ := own_form hown4; have hb4 := (HBK.out.alloc _).grown hgrow4 (fun e => (HVV.out g e.symm).2.1 rfl); have d4 : w4.cell? ⟨g, 1, none⟩ = _ := hb4.cell 1; have f4 := hb4.frozen 1; simp only [List.getElem?_cons_zero, List.getElem?_cons_succ] at d4; have HB4 := Lib.hid hb4; have HO4 := Lib.hid hown4; have HAT := Lib.hid hat4; have HG4 := Lib.hid hgrow4; clear hb4 hown4 hat4 hgrow4)
          go_wp2
          go_roundw
          case rel =>
            refine ⟨j + 1, by go_num, ?_⟩
            have hgr : wr.grownBy w4 (Value.slice A2 N k2).ownBlock := only_trans (below_only (belAlloc wr _)) HG4.out
            have hne : ∀ i, (Value.slice A4 (N + 1) k4).ownBlock = some i → orNew F w i ∧ i ≠ g ∧ i ≠ z := by
              intro i hi
              rcases HAT.out with e | e
              · rw [e] at hi; exact HVV.out i hi
              · rw [e] at hi
                have hi' : wr.heap.size + 1 = i := by simpa using hi
                have h1 := HBK.out.lt
                have h2 := HR.out.bx.lt
                have h3 := HR.out.ch.size
                exact ⟨.inr (by omega), by omega, by omega⟩
            have hbx : Blk w4 z 3 [.int .i64 (m : Int)] := HR.out.bx.grown hgr (fun e => (HVV.out z e.symm).2.2 rfl)
            refine Lib.hid ⟨by omega, by omega, ⟨_, HB4.out.set_ 1 _, ?_, hne⟩, hbx.far (p := ⟨g, 1, none⟩) hgz.symm _, ?_⟩
            · have e := own_keep HO4.out (only_setCell (World.grownBy.refl _ _) (p := ⟨g, 1, none⟩) rfl (.slice A4 (N + 1) k4)) (fun i hi e => by cases e; exact (hne g hi).2.1 rfl)
              unfold OwnS
              rw [Nat.min_eq_right (by omega), HS.out, List.length_append, hN.out, ints_append]
              exact e
            · have k1 : Chg F w w4 := HR.out.ch.trans (Chg.of_only hgr (fun i hi => (HVV.out i hi).1))
              exact k1.trans' (Chg.of_only (row := some g) (only_setCell (World.grownBy.refl _ _) rfl _) (fun i hi => by cases hi; exact hm))
          case measure => simp [intOf]; omega
        · have hr1 : ((r : Int) == 0) = false := by simpa using hr0
          have hs2 : Hid (stp (j + 1) (sizeP n p) = stp j (sizeP n p)) := by
            show _ = _
            rw [hs, if_neg (by simpa using hr0), List.append_nil]
          have HO := Lib.hid hown
          have HBK := Lib.hid hblk
          have HVV := Lib.hid hv
          clear hblk hown hv hs hr
          go_wp2
          go_roundw
          case rel =>
            refine ⟨j + 1, by go_num, Lib.hid ⟨by omega, by omega, ⟨v, HBK.out, ?_, HVV.out⟩, HR.out.bx, HR.out.ch⟩⟩
            have e := HO.out
            unfold OwnS at e ⊢
            rw [Nat.min_eq_right (by omega), hs2.out]
            exact e
          case measure => simp [intOf]; omega
      · have hjz : ¬ (j : Int) < (m : Int) := by omega
        have c0 : wr.cell? ⟨g, 0, none⟩ = some (.int .i64 (n : Int)) := hblk.cell 0
        have f0 := hblk.frozen 0
        rw [Nat.min_eq_left (by omega)] at hown
        have HO := Lib.hid hown
        have HBK := Lib.hid hblk
        have HVV := Lib.hid hv
        clear hblk hown hv
        go_wp2
        go_ret
        refine .inl ⟨HC.out.1, HC.out.2, rfl, ?_, HR.out.ch.trans' (Chg.of_only (row := some g) (only_setCell (World.grownBy.refl _ _) rfl _) (fun i hi => by cases hi; exact hm))⟩
        rw [show ((m : Int)).toNat = m by omega]
        exact ⟨⟨v, HBK.out.set_ 0 _, own_keep HO.out (only_setCell (World.grownBy.refl _ _) (p := ⟨g, 0, none⟩) rfl _) (fun i hi e => by cases e; exact (HVV.out g hi).2.1 rfl), fun i hi => ⟨(HVV.out i hi).1, (HVV.out i hi).2.1⟩⟩, .inl hm, hm1, hm2⟩
  · have HC := Lib.hid hc
    have hfin : ∀ w1, Below w.heap.size w w1 → RPost w g F n p c (.returned (.int .i64 22)) w1 := fun w1 hb => .inr ⟨HC.out, rfl, (H.out.below hb).mono inNewT, Chg.of_below hb⟩
    have HFin := Lib.hid hfin
    clear hfin
    by_cases hc1 : c < 1
    · have d1 : decide (c < 1) = true := by simpa using hc1
      clear hc
      go_enter Try.func16, Try.ntmps16
      go_wp2
      go_ret
      exact HFin.out _ (belAlloc _ _)
    · have d1 : decide (c < 1) = false := by simpa using hc1
      have d2 : decide (132 < c) = true := by simp; omega
      clear hc
      go_enter Try.func16, Try.ntmps16
      go_wp2
      go_ret
      exact HFin.out _ (belAlloc _ _)
/-- The stops of a new row. -/
def newP : Nat → Bool := fun i => decide (0 < i ∧ i % 8 = 0)
theorem newP_size (i : Nat) : sizeP 1 (fun _ => false) i = newP i := by
  unfold sizeP newP
  split
  · rw [eq_comm, decide_eq_false_iff_not]; omega
  · rfl
/-- What lies behind w. -/
def newT (w : World) (i : Nat) : Prop := w.heap.size ≤ i
def NewTPost (w : World) (c : Int) (en : Ending) (w' : World) : Prop :=
  (1 ≤ c ∧ c ≤ 132 ∧ (∃ g, en = .returned (.tuple #[.pointer (some ⟨g, 0, none⟩), .int .i64 0]) ∧ TAt w' g (newT w) c.toNat newP) ∧ Below w.heap.size w w') ∨
  (¬ (1 ≤ c ∧ c ≤ 132) ∧ en = .returned (.tuple #[.pointer none, .int .i64 22]) ∧ Below w.heap.size w w')
set_option maxRecDepth 100000 in
set_option maxHeartbeats 1600000 in
theorem newT_c (c : Int) (w : World) : Calls Try.prog 7 #[.int .i64 c] w (NewTPost w c) := by
  go_enter Try.func7, Try.ntmps7
  go_upto_region 2 with (fail)
  refine name_wp (fun w1 => TAt w1 w.heap.size (fun i => i = w.heap.size) 1 (fun _ => false) ∧ Below w.heap.size w w1 ∧ w1.heap.size = w.heap.size + 1) ⟨⟨⟨.slice none 0 0, Blk.new _ _ _, World.ownsRow_nil _ _ _ _, fun i hi => by cases hi⟩, rfl, Nat.le_refl _, by decide⟩, belAlloc _ _, by simp⟩ ?_
  rintro w1 ⟨ht1, hbel1, hsz⟩
  have HB1 := Lib.hid hbel1
  have HSZ := Lib.hid hsz
  have HR := Lib.hid (resize_c w.heap.size _ 1 _ c w1 ht1 (fun i hi => by omega))
  obtain ⟨z, hz⟩ : ∃ z, Hid (w.heap.size = z) := ⟨_, rfl⟩
  rw [hz.out] at HR ⊢
  clear ht1 hbel1 hsz
  go_wp2_with fail
  refine HR.out.mono ?_
  rintro en w2 (⟨h1, h2, rfl, ht, hch⟩ | ⟨hn, rfl, _, hch⟩)
  · have HF : Hid (Below w.heap.size w w2) := hch.below HB1.out (by rw [HSZ.out]; omega) (fun i hi => by rw [hz.out]; omega)
    have HT := Lib.hid ht
    have H1 := Lib.hid h1
    have H2 := Lib.hid h2
    clear hch ht h1 h2
    go_wp2
    go_ret2
    refine .inl ⟨H1.out, H2.out, ⟨z, rfl, (HT.out.mono ?_).congr (fun i _ => newP_size i)⟩, HF.out⟩
    intro i hi
    show w.heap.size ≤ i
    rcases hi with hi | hi
    · rw [hz.out]; omega
    · rw [HSZ.out] at hi; omega
  · have HF : Hid (Below w.heap.size w w2) := hch.below HB1.out (by rw [HSZ.out]; omega) (fun i hi => by rw [hz.out]; omega)
    have HN := Lib.hid hn
    clear hch hn
    go_wp2
    go_ret2
    exact .inr ⟨HN.out, rfl, HF.out⟩
end Go.Proofs.Ytdjpeopjfhoglaa
