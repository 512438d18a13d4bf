/- What Read of the reference of layer 9 returns, as a walk through the translated text. Conditions: the bytes read as a list; at most 2^40 cells are asked for. -/
import Derived.Test.YtbmnpbmimhodbaaCellRN
import Derived.Test.YtbmnpbmimhodbaaRely2
namespace Go.Proofs.Ytbmnpbmimhodbaa
open Go.ChangeShapes Go.WideShapes Go.RowKit
def lenV : Value → Nat
  | .slice _ n _ => n
  | _ => 0
theorem MineS.drew {α : Type} {f : α → List Value} {K : Nat} {w wr : World} {e : TypeId} {v : Value} {l : List α} (h : MineS f K w wr e v l) : MineS f K w wr.drew e v l := ⟨h.own, h.bel.drew⟩
theorem MineS.below {α : Type} {f : α → List Value} {K : Nat} {w wr w' : World} {e : TypeId} {v : Value} {l : List α} (h : MineS f K w wr e v l) (hb : Below wr.heap.size wr w') : MineS f K w w' e v l := ⟨ownK_below h.own hb, h.bel.trans (hb.mono h.bel.size)⟩
/-- It returns the cells, in new memory, the place behind, and the error. -/
def RefPost (w : World) (B : List Nat) (r : List RunV × (List Nat × Int)) (en : Ending) (w' : World) : Prop :=
  ∃ V m d, ∃ a : Int, en = .returned (.tuple #[.slice V m d, .int .i64 a, .int .i64 r.2.2]) ∧ ReadsS cellV 4 w' V m d (cellsL r.1) ∧ (r.2.2 = 0 → a = (B.length : Int) - (r.2.1.length : Int)) ∧ Below w.heap.size w w'
/-- The world while the five numbers are read: the cells so far, and the array, outside them. -/
structure RIn (w W : World) (z : Nat) (ns : List Nat) (t : Nat) (v : Value) (l : List CellV) : Prop where
  mine : MineS cellV 4 w W 25 v l
  blk : Blk W z 70 (ints .i64 (fillL ns t))
  off : ∀ g, v.ownBlock = some g → g ≠ z
  low : w.heap.size ≤ z
theorem RIn.step {w W : World} {z : Nat} {ns : List Nat} {t : Nat} {v : Value} {l : List CellV} (h : RIn w W z ns t v l) (ht : t < ns.length) : RIn w (W.setCell ⟨z, t, none⟩ (.int .i64 (ns[t] : Int))) z ns (t + 1) v l := by
  have hg : W.grownBy (W.setCell ⟨z, t, none⟩ (.int .i64 (ns[t] : Int))) (some z) := only_setCell (World.grownBy.refl _ _) rfl _
  refine ⟨⟨ownK_chg h.mine.own (Chg.of_only (F := fun i => i = z) hg (fun i hi => (Option.some.inj hi).symm)) (fun g hg => h.off g hg), below_of_only h.mine.bel hg h.mine.bel.size h.low⟩, ?_, h.off, h.low⟩
  have := h.blk.set_ t (.int .i64 (ns[t] : Int))
  rwa [ints_set, fillL_set ns t ht] at this
/-- The world while cells are put behind: the array and the cell, outside the row. -/
structure ROut (w W : World) (z zc : Nat) (ns : List Nat) (y : CellV) (v : Value) (l : List CellV) : Prop where
  mine : MineS cellV 4 w W 25 v l
  blk : Blk W z 70 (ints .i64 ns)
  cel : Blk W zc 25 (cellV y)
  off : ∀ g, v.ownBlock = some g → g ≠ z ∧ g ≠ zc
def C1 (y : CellV) : List (Value → World → Prop) := [fun v _ => v = .agg #[.int .i32 y.1, .int .i64 y.2.1, .int .i64 y.2.2.1, .int .i64 y.2.2.2],
  fun v _ => v = .bool false,
  fun v _ => v = .bool true,
  fun v _ => v = .bool true,
  fun v _ => v = undef,
  fun v _ => v = undef,
  fun v _ => v = undef,
  fun v _ => v = undef,
  fun v _ => v = undef,
  fun v _ => v = undef,
  fun v _ => v = undef,
  fun v _ => v = undef,
  fun v _ => v = undef,
  fun v _ => v = undef,
  fun v _ => v = undef,
  fun v _ => v = undef,
  fun v _ => v = undef,
  fun v _ => v = .bool true]
theorem C1_stable (y : CellV) : ∀ p ∈ C1 y, Stable p := (stable_cons (stable_eq _) (stable_cons (stable_eq _) (stable_cons (stable_eq _) (stable_cons (stable_eq _) (stable_cons (stable_eq _) (stable_cons (stable_eq _) (stable_cons (stable_eq _) (stable_cons (stable_eq _) (stable_cons (stable_eq _) (stable_cons (stable_eq _) (stable_cons (stable_eq _) (stable_cons (stable_eq _) (stable_cons (stable_eq _) (stable_cons (stable_eq _) (stable_cons (stable_eq _) (stable_cons (stable_eq _) (stable_cons (stable_eq _) (stable_cons (stable_eq _) stable_nil))))))))))))))))))
def C2 (y : CellV) (VV : Option Addr) (ee : Nat) : List (Value → World → Prop) := [fun v _ => v = .agg #[.int .i32 y.1, .int .i64 y.2.1, .int .i64 y.2.2.1, .int .i64 y.2.2.2],
  fun v _ => v = .bool true,
  fun v _ => v = .bool false,
  fun v _ => v = .bool false,
  fun v _ => v = .slice VV 0 ee,
  fun v _ => v = .int .i64 0,
  fun v _ => v = .bool false,
  fun v _ => v = .bool false,
  fun v _ => v = undef,
  fun v _ => v = undef,
  fun v _ => v = undef,
  fun v _ => v = undef,
  fun v _ => v = undef,
  fun v _ => v = undef,
  fun v _ => v = undef,
  fun v _ => v = undef,
  fun v _ => v = .bool false,
  fun v _ => v = .bool false]
theorem C2_stable (y : CellV) (VV : Option Addr) (ee : Nat) : ∀ p ∈ C2 y VV ee, Stable p := (stable_cons (stable_eq _) (stable_cons (stable_eq _) (stable_cons (stable_eq _) (stable_cons (stable_eq _) (stable_cons (stable_eq _) (stable_cons (stable_eq _) (stable_cons (stable_eq _) (stable_cons (stable_eq _) (stable_cons (stable_eq _) (stable_cons (stable_eq _) (stable_cons (stable_eq _) (stable_cons (stable_eq _) (stable_cons (stable_eq _) (stable_cons (stable_eq _) (stable_cons (stable_eq _) (stable_cons (stable_eq _) (stable_cons (stable_eq _) (stable_cons (stable_eq _) stable_nil))))))))))))))))))
def C3 (y u : CellV) (ad : Addr) (k2 ee : Nat) (b : Bool) : List (Value → World → Prop) := [fun v _ => v = .agg #[.int .i32 y.1, .int .i64 y.2.1, .int .i64 y.2.2.1, .int .i64 y.2.2.2],
  fun v _ => v = .bool true,
  fun v _ => v = .bool false,
  fun v _ => v = .bool false,
  fun v _ => v = .slice (some ad) (k2 + 1) ee,
  fun v _ => v = .int .i64 ((k2 : Int) + 1),
  fun v _ => v = .bool true,
  fun v _ => v = .bool true,
  fun v _ => v = .slice (some ad) (k2 + 1) ee,
  fun v _ => v = .slice (some ad) (k2 + 1) ee,
  fun v _ => v = .int .i64 ((k2 : Int) + 1),
  fun v _ => v = .int .i64 (k2 : Int),
  fun v _ => v = .pointer (some (ad.add (k2 * 4))),
  fun v _ => v = .agg #[.int .i32 u.1, .int .i64 u.2.1, .int .i64 u.2.2.1, .int .i64 u.2.2.2],
  fun v _ => v = .agg #[.int .i32 y.1, .int .i64 y.2.1, .int .i64 y.2.2.1, .int .i64 y.2.2.2],
  fun v _ => v = .bool b,
  fun v _ => v = .bool b,
  fun v _ => v = .bool b]
theorem C3_stable (y u : CellV) (ad : Addr) (k2 ee : Nat) (b : Bool) : ∀ p ∈ C3 y u ad k2 ee b, Stable p := (stable_cons (stable_eq _) (stable_cons (stable_eq _) (stable_cons (stable_eq _) (stable_cons (stable_eq _) (stable_cons (stable_eq _) (stable_cons (stable_eq _) (stable_cons (stable_eq _) (stable_cons (stable_eq _) (stable_cons (stable_eq _) (stable_cons (stable_eq _) (stable_cons (stable_eq _) (stable_cons (stable_eq _) (stable_cons (stable_eq _) (stable_cons (stable_eq _) (stable_cons (stable_eq _) (stable_cons (stable_eq _) (stable_cons (stable_eq _) (stable_cons (stable_eq _) stable_nil))))))))))))))))))
set_option maxRecDepth 100000 in
set_option maxHeartbeats 6400000 in
theorem refReadC_c (A : Option Addr) (bn bc : Nat) (B : List Nat) (N : Int) (w : World) (hr : Reads .u8 w A bn bc B) (hN : N ≤ 1099511627776) (hN0 : -9223372036854775808 ≤ N) :
    Calls Try.prog 24 #[.slice A bn bc, .int .i64 0, .int .i64 N] w (RefPost w B (readC N.toNat N [] (B, 0))) := by
  obtain ⟨i0, hi, hz0, hz1, hz2⟩ := info_parts infoC
  obtain ⟨RES, hRES⟩ : ∃ r, Hid (readC N.toNat N [] (B, 0) = r) := ⟨_, rfl⟩
  rw [hRES.out]
  have H := Lib.hid hr
  have HBL := Lib.hid hr.len
  have hbn : bn ≤ 9223372036854775807 := by have := hr.room; have := hr.cap; unfold maxLen at this; omega
  have hbyte : Hid (∀ x ∈ B, x < 256) := fun x hx => wf_u8.1 (hr.wf x hx)
  clear hr
  go_enter Try.func24, Try.ntmps24
  go_wp2
  go_loopw [1, 9] (fun t v wr => ∃ (k a : Nat) (m : Int) (acc : List RunV), t = .int .i64 a ∧ a ≤ bn ∧ Hid (m + ((cellsL acc).length : Int) = N) ∧ m.toNat ≤ k ∧ (0 ≤ m ∨ acc = []) ∧ Hid (readC k m acc (B.drop a, 0) = RES) ∧ Hid (MineS cellV 4 w wr 25 v (cellsL acc)) ∧ Hid (∀ x ∈ acc, 1 ≤ x.1)) (fun _ v _ => N.toNat - lenV v)
  case atStart => exact ⟨N.toNat, 0, N, [], rfl, Nat.zero_le _, by show _ = _; simp [cellsL], Nat.le_refl _, .inr rfl, hRES, ⟨World.ownsRow_nil _ _ _ _, Below.refl _ _⟩, Lib.hid (by simp)⟩
  case round =>
    obtain ⟨k, a, m, acc, rfl, ha, hmN, hmk, hm0, hres, hM, hacc⟩ := hrel
    obtain ⟨K, hK⟩ : ∃ K, Hid ((cellsL acc).length = K) := ⟨_, Lib.hid rfl⟩
    rw [hK.out] at hmN
    have hmN2 : m = N - (K : Int) := by have := hmN.out; omega
    have hOw := hM.out.own
    rw [hK.out] at hOw
    obtain ⟨VV, ee, eV⟩ := ownK_form hOw
    subst eV
    by_cases hpos : 0 < m
    · obtain ⟨k, rfl⟩ : ∃ q, k = q + 1 := ⟨k - 1, by omega⟩
      have hKN : decide ((K : Int) < N) = true := by rw [decide_eq_true_eq]; omega
      have hwr : IntKind.i64.wrap (N - (K : Int)) = m := by rw [IntWalk.i64_in _ (by omega)]; omega
      have hb1 := readC_bad k m acc (B.drop a, 0) hpos
      have hb2 := readC_err k m acc (B.drop a, 0) hpos
      have hb3 := readC_next k m acc (B.drop a, 0) hpos
      obtain ⟨s, hs⟩ : ∃ s, Hid ((B.drop a, (0 : Int)) = s) := ⟨_, rfl⟩
      rw [hs.out] at hb1 hb2 hb3 hres
      rw [readRunR_stN, hres.out] at hb1 hb2 hb3
      simp only at hb1 hb2 hb3
      have HB1 := Lib.hid hb1
      have HB2 := Lib.hid hb2
      have HB3 := Lib.hid hb3
      clear hb1 hb2 hb3
      obtain ⟨ns, hns⟩ : ∃ ns, Hid (fiveN s = ns) := ⟨_, rfl⟩
      have HN5 : Hid (ns.length = 5) := by show _ = _; rw [← hns.out]; rfl
      go_upto_region 4 with (fail)
      refine name_wp (fun w2 => RIn w w2 wr.heap.size ns 0 (.slice VV K ee) (cellsL acc)) ⟨⟨?_, (hM.out.bel).alloc hM.out.bel.size _⟩, ?_, fun g hg => Nat.ne_of_lt (ownK_lt hOw g hg), hM.out.bel.size⟩ ?_
      · rw [hK.out]
        exact ownK_below hOw (alloc_below' _ _)
      · rw [fillL_zero, HN5.out, ints_replicate]
        exact Blk.new _ _ _
      intro w2 h2
      have H2 := Lib.hid h2
      clear h2 hM hOw
      generalize wr.heap.size = z at *
      clear wr
      go_wp2
      go_loopw [1, 11] (fun t i wr => ∃ q a' : Nat, q ≤ 5 ∧ i = .int .i64 q ∧ t = .int .i64 a' ∧ a' ≤ bn ∧ Hid (stN q s = (B.drop a', 0)) ∧ Hid (RIn w wr z ns q (.slice VV K ee) (cellsL acc))) (fun _ i _ => 5 - (intOf i).toNat)
      case atStart => exact ⟨0, a, by decide, rfl, rfl, ha, Lib.hid hs.out.symm, H2⟩
      case round =>
        obtain ⟨q, a', hq, rfl, rfl, ha', hst, hI⟩ := hrel
        by_cases hq5 : q < 5
        · have hql : q < ns.length := by rw [HN5.out]; exact hq5
          obtain ⟨E, n', r, hR⟩ : ∃ E n' r, Hid (readL (B.drop a') = (E, n', r)) := ⟨_, _, _, rfl⟩
          have hnum := numberR_of hR.out
          have hnq : ns[q] = n' := by
            have h1 := fiveN_at s q hq5
            simp only [hns.out] at h1
            rw [h1]
            show (numberR (stN q s)).1 = n'
            rw [hst.out, hnum]
          have hst1 : stN (q + 1) s = (r, (E : Int)) := by
            show (numberR (stN q s)).2 = _
            rw [hst.out, hnum]
          have HST := Lib.hid hst1
          have HNQ := Lib.hid hnq
          have hRd := H.out.keep hI.out.mine.bel
          have HCR := Lib.hid (refReadNumber_c A bn bc a' B wr E n' r hRd ha' hR)
          obtain ⟨vv, hz⟩ : ∃ vv, wr.cell? ⟨z, q, none⟩ = some vv := ⟨_, hI.out.blk.cellAt q (by rw [length_ints, length_fillL _ _ (by omega)]; exact hql)⟩
          have hfz := hI.out.blk.frozen q
          have hq2 : (q : Int) < 5 := by omega
          have hq0 : (0 : Int) ≤ (q : Int) := by omega
          have HSt := Lib.hid (hI.out.step hql)
          rw [hnq] at HSt
          clear hnum hnq hst1 hRd
          by_cases hE : E = 0
          · have fE : ((E : Int) != 0) = false := by rw [bne_eq_false_iff_eq]; omega
            have HE := Lib.hid hE
            clear hE
            go_wp2_with fail
            refine HCR.out.mono ?_
            rintro en w3 ⟨to, rfl, rfl, hto⟩
            obtain ⟨hto1, hto2⟩ := hto HE.out
            rw [HBL.out] at hto1
            go_wp2
            go_roundw
            case rel => exact ⟨q + 1, to, by omega, by go_num, rfl, hto1, Lib.hid (by rw [HST.out, hto2, HE.out]; rfl), HSt⟩
            case measure => simp [intOf]; omega
          · have fE : ((E : Int) != 0) = true := by rw [bne_iff_ne]; omega
            have h5 : stN 5 s = (r, (E : Int)) := by
              have h6 := stN_err s (q + 1) (4 - q) (by rw [HST.out]; simpa using hE)
              rw [HST.out, show q + 1 + (4 - q) = 5 by omega] at h6
              exact h6
            have hfin := HB2.out (by rw [h5]; simpa using hE)
            rw [h5] at hfin
            have HF := Lib.hid hfin
            have HE := Lib.hid hE
            clear hfin h5 hE
            go_wp2_with fail
            refine HCR.out.mono ?_
            rintro en w3 ⟨to, rfl, rfl, hto⟩
            go_wp2
            go_ret3
            refine ⟨none, 0, 0, _, by rw [HF.out]; rfl, by rw [HF.out]; exact .nil (by simp [maxLen]), fun h => ?_, HSt.out.mine.bel⟩
            rw [HF.out] at h
            exact absurd (show (E : Int) = 0 from h) (by have := HE.out; omega)
        · obtain rfl : q = 5 := by omega
          have hblk := hI.out.blk
          rw [fillL_full ns 5 HN5.out] at hblk
          obtain ⟨n0, hn0⟩ : ∃ n, Hid (numN 0 s = n) := ⟨_, rfl⟩
          obtain ⟨n1, hn1⟩ : ∃ n, Hid (numN 1 s = n) := ⟨_, rfl⟩
          obtain ⟨n2, hn2⟩ : ∃ n, Hid (numN 2 s = n) := ⟨_, rfl⟩
          obtain ⟨n3, hn3⟩ : ∃ n, Hid (numN 3 s = n) := ⟨_, rfl⟩
          obtain ⟨n4, hn4⟩ : ∃ n, Hid (numN 4 s = n) := ⟨_, rfl⟩
          have hnl : ns = [n0, n1, n2, n3, n4] := by rw [← hns.out, fiveN, hn0.out, hn1.out, hn2.out, hn3.out, hn4.out]
          have HNL := Lib.hid hnl
          rw [hn0.out, hn1.out, hn2.out, hn3.out, hn4.out, hst.out] at HB1 HB3
          rw [hnl] at hblk
          have HBA := Lib.hid hblk
          have x0 : wr.cell? ⟨z, 0, none⟩ = some (.int .i64 (n0 : Int)) := hblk.cell 0
          have x1 : wr.cell? ⟨z, 1, none⟩ = some (.int .i64 (n1 : Int)) := hblk.cell 1
          have x2 : wr.cell? ⟨z, 2, none⟩ = some (.int .i64 (n2 : Int)) := hblk.cell 2
          have x3 : wr.cell? ⟨z, 3, none⟩ = some (.int .i64 (n3 : Int)) := hblk.cell 3
          have x4 : wr.cell? ⟨z, 4, none⟩ = some (.int .i64 (n4 : Int)) := hblk.cell 4
          have HMI := Lib.hid hI.out.mine
          have HOf := Lib.hid hI.out.off
          have hlow := hI.out.low
          have f6 : failR (B.drop a', (0 : Int)) 6 = ([], 6) := failR_ok _ _ rfl (by decide)
          rw [f6] at HB1
          clear hblk hnl hI f6 hq5 hst
          by_cases g1 : 1114111 < n1
          · have e1 : decide ((1114111 : Int) < (n1 : Int)) = true := by rw [decide_eq_true_eq]; omega
            have HF := Lib.hid (HB1.out (by
              have : okC (min (n1 : Int) 1114112, (n2 : Int), (n3 : Int), (n4 : Int)) = false := by
                rw [okC, Bool.and_eq_false_iff]
                right
                simp only [runeOk, decide_eq_false_iff_not]
                omega
              simp [badR, this]))
            clear g1
            go_wp2
            go_ret3
            exact ⟨none, 0, 0, _, by rw [HF.out]; rfl, by rw [HF.out]; exact .nil (by simp [maxLen]), fun h => by rw [HF.out] at h; exact absurd h (by decide), HMI.out.bel⟩
          · have e1 : decide ((1114111 : Int) < (n1 : Int)) = false := by rw [decide_eq_false_iff_not]; omega
            have hmin : min (n1 : Int) 1114112 = (n1 : Int) := Int.min_eq_left (by omega)
            rw [hmin] at HB1 HB3
            obtain ⟨y, hy⟩ : ∃ y : CellV, Hid (((n1 : Int), (n2 : Int), (n3 : Int), (n4 : Int)) = y) := ⟨_, rfl⟩
            rw [hy.out] at HB1 HB3
            have hb1 : n1 ≤ 1114111 := by omega
            clear g1 hmin
            by_cases g2 : n0 = 0
            · have e2 : ((n0 : Int) == 0) = true := by rw [beq_iff_eq]; omega
              have HF := Lib.hid (HB1.out (by simp [badR, g2]))
              clear g2
              go_wp2
              go_ret3
              exact ⟨none, 0, 0, _, by rw [HF.out]; rfl, by rw [HF.out]; exact .nil (by simp [maxLen]), fun h => by rw [HF.out] at h; exact absurd h (by decide), HMI.out.bel⟩
            · have e2 : ((n0 : Int) == 0) = false := by rw [beq_eq_false_iff_ne]; omega
              by_cases g3 : m < (n0 : Int)
              · have e3 : decide (m < (n0 : Int)) = true := by rw [decide_eq_true_eq]; exact g3
                have e4 : decide (N - (K : Int) < (n0 : Int)) = true := by rw [decide_eq_true_eq]; omega
                have HF := Lib.hid (HB1.out (by simp [badR, g3]))
                clear g2 g3 hmN2
                go_wp2
                go_ret3
                exact ⟨none, 0, 0, _, by rw [HF.out]; rfl, by rw [HF.out]; exact .nil (by simp [maxLen]), fun h => by rw [HF.out] at h; exact absurd h (by decide), HMI.out.bel⟩
              · have e3 : decide (m < (n0 : Int)) = false := by rw [decide_eq_false_iff_not]; exact g3
                have e4 : decide (N - (K : Int) < (n0 : Int)) = false := by rw [decide_eq_false_iff_not]; omega
                have HMN := Lib.hid hmN2
                have hmb : m ≤ 1099511627776 := by omega
                have hKb : (K : Int) ≤ 1099511627776 := by omega
                have hnm : (n0 : Int) ≤ m := by omega
                have hn1' : 0 < n0 := by omega
                clear hmN2
                go_upto_region 14 with (fail)
                obtain ⟨zc, hzc⟩ : ∃ zc, Hid (wr.heap.size = zc) := ⟨_, rfl⟩
                refine name_wp (fun w6 => Blk w6 zc 25 (cellV y) ∧ Below wr.heap.size wr w6) ⟨?_, alloc_below' _ _⟩ ?_
                · rw [← hy.out, ← hzc.out]
                  exact Blk.new _ _ _
                rintro w6 ⟨hBC, hb6⟩
                have HBC := Lib.hid hBC.drew
                have HM6 := Lib.hid (HMI.out.below hb6).drew
                have HBA := Lib.hid (HBA.out.below hb6 HBA.out.lt).drew
                have HOc : Hid (∀ g, (Value.slice VV K ee).ownBlock = some g → g ≠ zc) := fun g hg => by
                  have h8 := HMI.out.own
                  rw [hK.out] at h8
                  have := ownK_lt h8 g hg
                  rw [hzc.out] at this
                  omega
                have hfy : -2147483648 ≤ y.1 ∧ y.1 ≤ 2147483647 := by rw [← hy.out]; simp only; omega
                have HCR := fun W => refRight_c y W hfy
                simp only [cellV] at HCR
                rw [hzc.out]
                clear hBC hb6 x0 x1 x2 x3 x4 hfy
                cases hok : okC y
                · rw [hok] at HCR
                  have HCR := Lib.hid HCR
                  have HF := Lib.hid (HB1.out (by simp [badR, hok]))
                  clear hok g2 g3
                  refine wp_region_any (by kernel_rfl) ?_
                  change wpAny _ _ _ _ _ _ _ (World.drew _)
                  refine wpAny_relyG (g := 0) [(0, 65), (1, 66), (2, 67), (3, 68), (4, 69), (5, 70), (6, 71), (7, 72), (8, 73), (9, 74), (10, 75), (11, 76), (12, 77), (13, 78), (14, 79), (15, 80), (16, 81), (17, 82)] (condAt (C1 y)) [] (by kernel_rfl) rfl (condAt_keep (C1_stable y)) ?hstep ?hend
                  case hstep =>
                    intro p hp o ho x W hbel hdep K hK
                    obtain ⟨c0, c1, c2, c3⟩ := fourB (HBC.out.below hbel HBC.out.lt)
                    simp only [List.mem_cons, List.not_mem_nil, or_false] at hp
                    rcases hp with rfl | rfl | rfl | rfl | rfl | rfl | rfl | rfl | rfl | rfl | rfl | rfl | rfl | rfl | rfl | rfl | rfl | rfl
                    · cases Option.some.inj ho
                      simp only [frm, List.foldl_cons, List.foldl_nil, Act.put, List.setIfInBounds_toArray, List.set_cons_zero, List.set_cons_succ] at hK ⊢
                      clear hdep ho
                      rw [if_pos (by rfl)]
                      go_simp
                      exact hK _ _ rfl (Below.refl _ _) (by simp)
                    · cases Option.some.inj ho
                      have d0 : x 0 = .agg #[.int .i32 y.1, .int .i64 y.2.1, .int .i64 y.2.2.1, .int .i64 y.2.2.2] := hdep ⟨0, .data⟩ (by simp) rfl rfl
                      simp only [frm, List.foldl_cons, List.foldl_nil, Act.put, List.setIfInBounds_toArray, List.set_cons_zero, List.set_cons_succ] at hK ⊢
                      clear hdep ho
                      rw [d0] at hK ⊢
                      clear d0
                      rw [if_pos (by rfl)]
                      go_simp
                      refine (HCR.out _).mono ?_
                      rintro e w' ⟨rfl, hb⟩
                      exact hK _ _ rfl hb (by simp)
                    · cases Option.some.inj ho
                      have d1 : x 1 = .bool false := hdep ⟨1, .data⟩ (by simp) rfl rfl
                      simp only [frm, List.foldl_cons, List.foldl_nil, Act.put, List.setIfInBounds_toArray, List.set_cons_zero, List.set_cons_succ] at hK ⊢
                      clear hdep ho
                      rw [d1] at hK ⊢
                      clear d1
                      rw [if_pos (by rfl)]
                      go_simp
                      exact hK _ _ rfl (Below.refl _ _) (by simp)
                    · cases Option.some.inj ho
                      have d2 : x 2 = .bool true := hdep ⟨2, .data⟩ (by simp) rfl rfl
                      simp only [frm, List.foldl_cons, List.foldl_nil, Act.put, List.setIfInBounds_toArray, List.set_cons_zero, List.set_cons_succ] at hK ⊢
                      clear hdep ho
                      rw [d2] at hK ⊢
                      clear d2
                      rw [if_pos (by rfl)]
                      go_simp
                      exact hK _ _ rfl (Below.refl _ _) (by simp)
                    · cases Option.some.inj ho
                      have d3 : x 3 = .bool true := hdep ⟨3, .guard⟩ (by simp) rfl rfl
                      simp only [frm, List.foldl_cons, List.foldl_nil, Act.put, List.setIfInBounds_toArray, List.set_cons_zero, List.set_cons_succ] at hK ⊢
                      clear hdep ho
                      rw [d3] at hK ⊢
                      clear d3
                      rw [if_neg (by first | (simp [Region.wanted, yielded]; done) | (simp [Region.wanted, yielded, undef]; done))]
                      exact hK _ _ rfl (Below.refl _ _) (by simp)
                    · cases Option.some.inj ho
                      have d3 : x 3 = .bool true := hdep ⟨3, .guard⟩ (by simp) rfl rfl
                      simp only [frm, List.foldl_cons, List.foldl_nil, Act.put, List.setIfInBounds_toArray, List.set_cons_zero, List.set_cons_succ] at hK ⊢
                      clear hdep ho
                      rw [d3] at hK ⊢
                      clear d3
                      rw [if_neg (by first | (simp [Region.wanted, yielded]; done) | (simp [Region.wanted, yielded, undef]; done))]
                      exact hK _ _ rfl (Below.refl _ _) (by simp)
                    · cases Option.some.inj ho
                      have d3 : x 3 = .bool true := hdep ⟨3, .guard⟩ (by simp) rfl rfl
                      simp only [frm, List.foldl_cons, List.foldl_nil, Act.put, List.setIfInBounds_toArray, List.set_cons_zero, List.set_cons_succ] at hK ⊢
                      clear hdep ho
                      rw [d3] at hK ⊢
                      clear d3
                      rw [if_neg (by first | (simp [Region.wanted, yielded]; done) | (simp [Region.wanted, yielded, undef]; done))]
                      exact hK _ _ rfl (Below.refl _ _) (by simp)
                    · cases Option.some.inj ho
                      have d3 : x 3 = .bool true := hdep ⟨3, .guard⟩ (by simp) rfl rfl
                      simp only [frm, List.foldl_cons, List.foldl_nil, Act.put, List.setIfInBounds_toArray, List.set_cons_zero, List.set_cons_succ] at hK ⊢
                      clear hdep ho
                      rw [d3] at hK ⊢
                      clear d3
                      rw [if_neg (by first | (simp [Region.wanted, yielded]; done) | (simp [Region.wanted, yielded, undef]; done))]
                      exact hK _ _ rfl (Below.refl _ _) (by simp)
                    · cases Option.some.inj ho
                      have d7 : x 7 = undef := hdep ⟨7, .guard⟩ (by simp) rfl rfl
                      simp only [frm, List.foldl_cons, List.foldl_nil, Act.put, List.setIfInBounds_toArray, List.set_cons_zero, List.set_cons_succ] at hK ⊢
                      clear hdep ho
                      rw [d7] at hK ⊢
                      clear d7
                      rw [if_neg (by first | (simp [Region.wanted, yielded]; done) | (simp [Region.wanted, yielded, undef]; done))]
                      exact hK _ _ rfl (Below.refl _ _) (by simp)
                    · cases Option.some.inj ho
                      have d7 : x 7 = undef := hdep ⟨7, .guard⟩ (by simp) rfl rfl
                      simp only [frm, List.foldl_cons, List.foldl_nil, Act.put, List.setIfInBounds_toArray, List.set_cons_zero, List.set_cons_succ] at hK ⊢
                      clear hdep ho
                      rw [d7] at hK ⊢
                      clear d7
                      rw [if_neg (by first | (simp [Region.wanted, yielded]; done) | (simp [Region.wanted, yielded, undef]; done))]
                      exact hK _ _ rfl (Below.refl _ _) (by simp)
                    · cases Option.some.inj ho
                      have d7 : x 7 = undef := hdep ⟨7, .guard⟩ (by simp) rfl rfl
                      simp only [frm, List.foldl_cons, List.foldl_nil, Act.put, List.setIfInBounds_toArray, List.set_cons_zero, List.set_cons_succ] at hK ⊢
                      clear hdep ho
                      rw [d7] at hK ⊢
                      clear d7
                      rw [if_neg (by first | (simp [Region.wanted, yielded]; done) | (simp [Region.wanted, yielded, undef]; done))]
                      exact hK _ _ rfl (Below.refl _ _) (by simp)
                    · cases Option.some.inj ho
                      have d7 : x 7 = undef := hdep ⟨7, .guard⟩ (by simp) rfl rfl
                      simp only [frm, List.foldl_cons, List.foldl_nil, Act.put, List.setIfInBounds_toArray, List.set_cons_zero, List.set_cons_succ] at hK ⊢
                      clear hdep ho
                      rw [d7] at hK ⊢
                      clear d7
                      rw [if_neg (by first | (simp [Region.wanted, yielded]; done) | (simp [Region.wanted, yielded, undef]; done))]
                      exact hK _ _ rfl (Below.refl _ _) (by simp)
                    · cases Option.some.inj ho
                      have d7 : x 7 = undef := hdep ⟨7, .guard⟩ (by simp) rfl rfl
                      simp only [frm, List.foldl_cons, List.foldl_nil, Act.put, List.setIfInBounds_toArray, List.set_cons_zero, List.set_cons_succ] at hK ⊢
                      clear hdep ho
                      rw [d7] at hK ⊢
                      clear d7
                      rw [if_neg (by first | (simp [Region.wanted, yielded]; done) | (simp [Region.wanted, yielded, undef]; done))]
                      exact hK _ _ rfl (Below.refl _ _) (by simp)
                    · cases Option.some.inj ho
                      have d7 : x 7 = undef := hdep ⟨7, .guard⟩ (by simp) rfl rfl
                      simp only [frm, List.foldl_cons, List.foldl_nil, Act.put, List.setIfInBounds_toArray, List.set_cons_zero, List.set_cons_succ] at hK ⊢
                      clear hdep ho
                      rw [d7] at hK ⊢
                      clear d7
                      rw [if_neg (by first | (simp [Region.wanted, yielded]; done) | (simp [Region.wanted, yielded, undef]; done))]
                      exact hK _ _ rfl (Below.refl _ _) (by simp)
                    · cases Option.some.inj ho
                      have d7 : x 7 = undef := hdep ⟨7, .guard⟩ (by simp) rfl rfl
                      simp only [frm, List.foldl_cons, List.foldl_nil, Act.put, List.setIfInBounds_toArray, List.set_cons_zero, List.set_cons_succ] at hK ⊢
                      clear hdep ho
                      rw [d7] at hK ⊢
                      clear d7
                      rw [if_neg (by first | (simp [Region.wanted, yielded]; done) | (simp [Region.wanted, yielded, undef]; done))]
                      exact hK _ _ rfl (Below.refl _ _) (by simp)
                    · cases Option.some.inj ho
                      have d7 : x 7 = undef := hdep ⟨7, .guard⟩ (by simp) rfl rfl
                      simp only [frm, List.foldl_cons, List.foldl_nil, Act.put, List.setIfInBounds_toArray, List.set_cons_zero, List.set_cons_succ] at hK ⊢
                      clear hdep ho
                      rw [d7] at hK ⊢
                      clear d7
                      rw [if_neg (by first | (simp [Region.wanted, yielded]; done) | (simp [Region.wanted, yielded, undef]; done))]
                      exact hK _ _ rfl (Below.refl _ _) (by simp)
                    · cases Option.some.inj ho
                      have d3 : x 3 = .bool true := hdep ⟨3, .guard⟩ (by simp) rfl rfl
                      simp only [frm, List.foldl_cons, List.foldl_nil, Act.put, List.setIfInBounds_toArray, List.set_cons_zero, List.set_cons_succ] at hK ⊢
                      clear hdep ho
                      rw [d3] at hK ⊢
                      clear d3
                      rw [if_neg (by first | (simp [Region.wanted, yielded]; done) | (simp [Region.wanted, yielded, undef]; done))]
                      exact hK _ _ rfl (Below.refl _ _) (by simp)
                    · cases Option.some.inj ho
                      have d3 : x 3 = .bool true := hdep ⟨3, .data⟩ (by simp) rfl rfl
                      simp only [frm, List.foldl_cons, List.foldl_nil, Act.put, List.setIfInBounds_toArray, List.set_cons_zero, List.set_cons_succ] at hK ⊢
                      clear hdep ho
                      rw [d3] at hK ⊢
                      clear d3
                      rw [if_pos (by rfl)]
                      go_simp
                      exact hK _ _ rfl (Below.refl _ _) (by simp)
                  case hend =>
                    intro x W hbel hall _
                    have d17 : x 17 = .bool true := hall (17, 82) (by simp)
                    simp only [frm, List.foldl_cons, List.foldl_nil, Act.put, List.setIfInBounds_toArray, List.set_cons_zero, List.set_cons_succ]
                    rw [d17]
                    clear hall d17
                    generalize x 0 = z0
                    generalize x 1 = z1
                    generalize x 2 = z2
                    generalize x 3 = z3
                    generalize x 4 = z4
                    generalize x 5 = z5
                    generalize x 6 = z6
                    generalize x 7 = z7
                    generalize x 8 = z8
                    generalize x 9 = z9
                    generalize x 10 = z10
                    generalize x 11 = z11
                    generalize x 12 = z12
                    generalize x 13 = z13
                    generalize x 14 = z14
                    generalize x 15 = z15
                    generalize x 16 = z16
                    refine wpAny_done (by kernel_rfl) ?_ _
                    have hbw := HM6.out.bel.trans (hbel.mono HM6.out.bel.size)
                    go_wp2
                    go_ret3
                    exact ⟨none, 0, 0, _, by rw [HF.out]; rfl, by rw [HF.out]; exact .nil (by simp [maxLen]), fun h => by rw [HF.out] at h; exact absurd h (by decide), hbw⟩
                · rw [hok] at HCR
                  have HCR := Lib.hid HCR
                  have Hok := Lib.hid hok
                  clear hok
                  have hlast := cells_last acc hacc.out
                  rcases Nat.eq_zero_or_pos K with hK0 | hK0
                  · have hnil : cellsL acc = [] := List.eq_nil_of_length_eq_zero (by rw [hK.out]; exact hK0)
                    rw [hnil] at hlast
                    have HNEXT := Lib.hid (HB3.out rfl (by
                      simp only [badR, e2, e3, Hok.out, ← hlast]
                      rfl))
                    have HKK : Hid ((cellsL acc).length = 0) := by show _ = _; rw [hnil]; rfl
                    clear hlast hnil
                    subst hK0
                    refine wp_region_any (by kernel_rfl) ?_
                    change wpAny _ _ _ _ _ _ _ (World.drew _)
                    refine wpAny_relyG (g := 0) [(0, 65), (1, 66), (2, 67), (3, 68), (4, 69), (5, 70), (6, 71), (7, 72), (8, 73), (9, 74), (10, 75), (11, 76), (12, 77), (13, 78), (14, 79), (15, 80), (16, 81), (17, 82)] (condAt (C2 y VV ee)) [] (by kernel_rfl) rfl (condAt_keep (C2_stable y VV ee)) ?hstep ?hend
                    case hstep =>
                      intro p hp o ho x W hbel hdep K hK
                      obtain ⟨c0, c1, c2, c3⟩ := fourB (HBC.out.below hbel HBC.out.lt)
                      simp only [List.mem_cons, List.not_mem_nil, or_false] at hp
                      rcases hp with rfl | rfl | rfl | rfl | rfl | rfl | rfl | rfl | rfl | rfl | rfl | rfl | rfl | rfl | rfl | rfl | rfl | rfl
                      · cases Option.some.inj ho
                        simp only [frm, List.foldl_cons, List.foldl_nil, Act.put, List.setIfInBounds_toArray, List.set_cons_zero, List.set_cons_succ] at hK ⊢
                        clear hdep ho
                        rw [if_pos (by rfl)]
                        go_simp
                        exact hK _ _ rfl (Below.refl _ _) (by simp)
                      · cases Option.some.inj ho
                        have d0 : x 0 = .agg #[.int .i32 y.1, .int .i64 y.2.1, .int .i64 y.2.2.1, .int .i64 y.2.2.2] := hdep ⟨0, .data⟩ (by simp) rfl rfl
                        simp only [frm, List.foldl_cons, List.foldl_nil, Act.put, List.setIfInBounds_toArray, List.set_cons_zero, List.set_cons_succ] at hK ⊢
                        clear hdep ho
                        rw [d0] at hK ⊢
                        clear d0
                        rw [if_pos (by rfl)]
                        go_simp
                        refine (HCR.out _).mono ?_
                        rintro e w' ⟨rfl, hb⟩
                        exact hK _ _ rfl hb (by simp)
                      · cases Option.some.inj ho
                        have d1 : x 1 = .bool true := hdep ⟨1, .data⟩ (by simp) rfl rfl
                        simp only [frm, List.foldl_cons, List.foldl_nil, Act.put, List.setIfInBounds_toArray, List.set_cons_zero, List.set_cons_succ] at hK ⊢
                        clear hdep ho
                        rw [d1] at hK ⊢
                        clear d1
                        rw [if_pos (by rfl)]
                        go_simp
                        exact hK _ _ rfl (Below.refl _ _) (by simp)
                      · cases Option.some.inj ho
                        have d2 : x 2 = .bool false := hdep ⟨2, .data⟩ (by simp) rfl rfl
                        simp only [frm, List.foldl_cons, List.foldl_nil, Act.put, List.setIfInBounds_toArray, List.set_cons_zero, List.set_cons_succ] at hK ⊢
                        clear hdep ho
                        rw [d2] at hK ⊢
                        clear d2
                        rw [if_pos (by rfl)]
                        go_simp
                        exact hK _ _ rfl (Below.refl _ _) (by simp)
                      · cases Option.some.inj ho
                        have d3 : x 3 = .bool false := hdep ⟨3, .guard⟩ (by simp) rfl rfl
                        simp only [frm, List.foldl_cons, List.foldl_nil, Act.put, List.setIfInBounds_toArray, List.set_cons_zero, List.set_cons_succ] at hK ⊢
                        clear hdep ho
                        rw [d3] at hK ⊢
                        clear d3
                        rw [if_pos (by rfl)]
                        go_simp
                        exact hK _ _ rfl (Below.refl _ _) (by simp)
                      · cases Option.some.inj ho
                        have d4 : x 4 = .slice VV 0 ee := hdep ⟨4, .data⟩ (by simp) rfl rfl
                        have d3 : x 3 = .bool false := hdep ⟨3, .guard⟩ (by simp) rfl rfl
                        simp only [frm, List.foldl_cons, List.foldl_nil, Act.put, List.setIfInBounds_toArray, List.set_cons_zero, List.set_cons_succ] at hK ⊢
                        clear hdep ho
                        rw [d4, d3] at hK ⊢
                        clear d4 d3
                        rw [if_pos (by rfl)]
                        go_simp
                        exact hK _ _ rfl (Below.refl _ _) (by simp)
                      · cases Option.some.inj ho
                        have d5 : x 5 = .int .i64 0 := hdep ⟨5, .data⟩ (by simp) rfl rfl
                        have d3 : x 3 = .bool false := hdep ⟨3, .guard⟩ (by simp) rfl rfl
                        simp only [frm, List.foldl_cons, List.foldl_nil, Act.put, List.setIfInBounds_toArray, List.set_cons_zero, List.set_cons_succ] at hK ⊢
                        clear hdep ho
                        rw [d5, d3] at hK ⊢
                        clear d5 d3
                        rw [if_pos (by rfl)]
                        go_simp
                        exact hK _ _ rfl (Below.refl _ _) (by simp)
                      · cases Option.some.inj ho
                        have d6 : x 6 = .bool false := hdep ⟨6, .data⟩ (by simp) rfl rfl
                        have d3 : x 3 = .bool false := hdep ⟨3, .guard⟩ (by simp) rfl rfl
                        simp only [frm, List.foldl_cons, List.foldl_nil, Act.put, List.setIfInBounds_toArray, List.set_cons_zero, List.set_cons_succ] at hK ⊢
                        clear hdep ho
                        rw [d6, d3] at hK ⊢
                        clear d6 d3
                        rw [if_pos (by rfl)]
                        go_simp
                        exact hK _ _ rfl (Below.refl _ _) (by simp)
                      · cases Option.some.inj ho
                        have d7 : x 7 = .bool false := hdep ⟨7, .guard⟩ (by simp) rfl rfl
                        simp only [frm, List.foldl_cons, List.foldl_nil, Act.put, List.setIfInBounds_toArray, List.set_cons_zero, List.set_cons_succ] at hK ⊢
                        clear hdep ho
                        rw [d7] at hK ⊢
                        clear d7
                        rw [if_neg (by first | (simp [Region.wanted, yielded]; done) | (simp [Region.wanted, yielded, undef]; done))]
                        exact hK _ _ rfl (Below.refl _ _) (by simp)
                      · cases Option.some.inj ho
                        have d7 : x 7 = .bool false := hdep ⟨7, .guard⟩ (by simp) rfl rfl
                        simp only [frm, List.foldl_cons, List.foldl_nil, Act.put, List.setIfInBounds_toArray, List.set_cons_zero, List.set_cons_succ] at hK ⊢
                        clear hdep ho
                        rw [d7] at hK ⊢
                        clear d7
                        rw [if_neg (by first | (simp [Region.wanted, yielded]; done) | (simp [Region.wanted, yielded, undef]; done))]
                        exact hK _ _ rfl (Below.refl _ _) (by simp)
                      · cases Option.some.inj ho
                        have d7 : x 7 = .bool false := hdep ⟨7, .guard⟩ (by simp) rfl rfl
                        simp only [frm, List.foldl_cons, List.foldl_nil, Act.put, List.setIfInBounds_toArray, List.set_cons_zero, List.set_cons_succ] at hK ⊢
                        clear hdep ho
                        rw [d7] at hK ⊢
                        clear d7
                        rw [if_neg (by first | (simp [Region.wanted, yielded]; done) | (simp [Region.wanted, yielded, undef]; done))]
                        exact hK _ _ rfl (Below.refl _ _) (by simp)
                      · cases Option.some.inj ho
                        have d7 : x 7 = .bool false := hdep ⟨7, .guard⟩ (by simp) rfl rfl
                        simp only [frm, List.foldl_cons, List.foldl_nil, Act.put, List.setIfInBounds_toArray, List.set_cons_zero, List.set_cons_succ] at hK ⊢
                        clear hdep ho
                        rw [d7] at hK ⊢
                        clear d7
                        rw [if_neg (by first | (simp [Region.wanted, yielded]; done) | (simp [Region.wanted, yielded, undef]; done))]
                        exact hK _ _ rfl (Below.refl _ _) (by simp)
                      · cases Option.some.inj ho
                        have d7 : x 7 = .bool false := hdep ⟨7, .guard⟩ (by simp) rfl rfl
                        simp only [frm, List.foldl_cons, List.foldl_nil, Act.put, List.setIfInBounds_toArray, List.set_cons_zero, List.set_cons_succ] at hK ⊢
                        clear hdep ho
                        rw [d7] at hK ⊢
                        clear d7
                        rw [if_neg (by first | (simp [Region.wanted, yielded]; done) | (simp [Region.wanted, yielded, undef]; done))]
                        exact hK _ _ rfl (Below.refl _ _) (by simp)
                      · cases Option.some.inj ho
                        have d7 : x 7 = .bool false := hdep ⟨7, .guard⟩ (by simp) rfl rfl
                        simp only [frm, List.foldl_cons, List.foldl_nil, Act.put, List.setIfInBounds_toArray, List.set_cons_zero, List.set_cons_succ] at hK ⊢
                        clear hdep ho
                        rw [d7] at hK ⊢
                        clear d7
                        rw [if_neg (by first | (simp [Region.wanted, yielded]; done) | (simp [Region.wanted, yielded, undef]; done))]
                        exact hK _ _ rfl (Below.refl _ _) (by simp)
                      · cases Option.some.inj ho
                        have d7 : x 7 = .bool false := hdep ⟨7, .guard⟩ (by simp) rfl rfl
                        simp only [frm, List.foldl_cons, List.foldl_nil, Act.put, List.setIfInBounds_toArray, List.set_cons_zero, List.set_cons_succ] at hK ⊢
                        clear hdep ho
                        rw [d7] at hK ⊢
                        clear d7
                        rw [if_neg (by first | (simp [Region.wanted, yielded]; done) | (simp [Region.wanted, yielded, undef]; done))]
                        exact hK _ _ rfl (Below.refl _ _) (by simp)
                      · cases Option.some.inj ho
                        have d7 : x 7 = .bool false := hdep ⟨7, .guard⟩ (by simp) rfl rfl
                        simp only [frm, List.foldl_cons, List.foldl_nil, Act.put, List.setIfInBounds_toArray, List.set_cons_zero, List.set_cons_succ] at hK ⊢
                        clear hdep ho
                        rw [d7] at hK ⊢
                        clear d7
                        rw [if_neg (by first | (simp [Region.wanted, yielded]; done) | (simp [Region.wanted, yielded, undef]; done))]
                        exact hK _ _ rfl (Below.refl _ _) (by simp)
                      · cases Option.some.inj ho
                        have d7 : x 7 = .bool false := hdep ⟨7, .data⟩ (by simp) rfl rfl
                        have d3 : x 3 = .bool false := hdep ⟨3, .guard⟩ (by simp) rfl rfl
                        simp only [frm, List.foldl_cons, List.foldl_nil, Act.put, List.setIfInBounds_toArray, List.set_cons_zero, List.set_cons_succ] at hK ⊢
                        clear hdep ho
                        rw [d7, d3] at hK ⊢
                        clear d7 d3
                        rw [if_pos (by rfl)]
                        go_simp
                        exact hK _ _ rfl (Below.refl _ _) (by simp)
                      · cases Option.some.inj ho
                        have d3 : x 3 = .bool false := hdep ⟨3, .data⟩ (by simp) rfl rfl
                        have d16 : x 16 = .bool false := hdep ⟨16, .data⟩ (by simp) rfl rfl
                        simp only [frm, List.foldl_cons, List.foldl_nil, Act.put, List.setIfInBounds_toArray, List.set_cons_zero, List.set_cons_succ] at hK ⊢
                        clear hdep ho
                        rw [d3, d16] at hK ⊢
                        clear d3 d16
                        rw [if_pos (by rfl)]
                        go_simp
                        exact hK _ _ rfl (Below.refl _ _) (by simp)
                    case hend =>
                      intro x W hbel hall _
                      have d17 : x 17 = .bool false := hall (17, 82) (by simp)
                      simp only [frm, List.foldl_cons, List.foldl_nil, Act.put, List.setIfInBounds_toArray, List.set_cons_zero, List.set_cons_succ]
                      rw [d17]
                      clear hall d17
                      generalize x 0 = z0
                      generalize x 1 = z1
                      generalize x 2 = z2
                      generalize x 3 = z3
                      generalize x 4 = z4
                      generalize x 5 = z5
                      generalize x 6 = z6
                      generalize x 7 = z7
                      generalize x 8 = z8
                      generalize x 9 = z9
                      generalize x 10 = z10
                      generalize x 11 = z11
                      generalize x 12 = z12
                      generalize x 13 = z13
                      generalize x 14 = z14
                      generalize x 15 = z15
                      generalize x 16 = z16
                      refine wpAny_done (by kernel_rfl) ?_ _
                      have HRO : Hid (ROut w W z zc [n0, n1, n2, n3, n4] y (.slice VV 0 ee) (cellsL acc ++ List.replicate 0 y)) := by
                        show ROut _ _ _ _ _ _ _ _
                        rw [List.replicate_zero, List.append_nil]
                        exact ⟨HM6.out.below hbel, HBA.out.below hbel HBA.out.lt, HBC.out.below hbel HBC.out.lt, fun g hg => ⟨HOf.out g hg, HOc.out g hg⟩⟩
                      clear hbel
                      go_wp2
                      go_loopw [9, 14] (fun v i wr => ∃ p : Nat, p ≤ n0 ∧ i = .int .i64 p ∧ Hid (ROut w wr z zc [n0, n1, n2, n3, n4] y v (cellsL acc ++ List.replicate p y))) (fun _ i _ => n0 - (intOf i).toNat)
                      case atStart => exact ⟨0, Nat.zero_le _, rfl, HRO⟩
                      case round =>
                        obtain ⟨p, hp, rfl, hP⟩ := hrel
                        have x0 : wr.cell? ⟨z, 0, none⟩ = some (.int .i64 (n0 : Int)) := hP.out.blk.cell 0
                        obtain ⟨q0, q1, q2, q3⟩ := fourB hP.out.cel
                        by_cases hpl : p < n0
                        · have hpd : (p : Int) < (n0 : Int) := by omega
                          have hO := hP.out.mine.own
                          obtain ⟨L, hL⟩ : ∃ L, Hid ((cellsL acc ++ List.replicate p y).length = L) := ⟨_, Lib.hid rfl⟩
                          have hLK : L = 0 + p := by rw [← hL.out, List.length_append, List.length_replicate, HKK.out]
                          have hLb : L + 1 ≤ 1099511627776 := by have := HMN.out; omega
                          have HLK := Lib.hid hLK
                          clear hLK
                          rw [hL.out] at hO
                          obtain ⟨D, dd, eV⟩ := ownK_form hO
                          subst eV
                          have HOw := Lib.hid hO
                          clear hO
                          go_wp2_with (at_builtin; refine wpList_app1 length_cellV one_cellV (by decide) rfl (.tmp 90) (.tmp 92) 30 rfl w.heap.size 25 i0 _ 32 Try.underlying30 hi hz0 hz1 hz2 rfl (.slice D L dd) L (cellsL acc ++ List.replicate p y) rfl (ownK_below HOw.out (alloc_below' _ _)) y _ _ rfl (Blk.new _ _ _) (by unfold maxLen; omega) (by omega) (by have := hP.out.mine.bel.size; simp; omega) ?_; intro A1 c1 w8 ho8 hg8 hat8)
                          go_roundw
                          case rel =>
                            refine ⟨p + 1, by omega, by go_num, ?_⟩
                            have hbl := bel_app hP.out.mine.bel hg8 (ownK_base HOw.out)
                            show ROut _ _ _ _ _ _ _ _
                            rw [List.replicate_succ', ← List.append_assoc]
                            refine ⟨⟨by rw [List.length_append, hL.out]; exact ho8, hbl⟩, (hP.out.blk.alloc _).grown hg8 (fun e => (hP.out.off _ e.symm).1 rfl), (hP.out.cel.alloc _).grown hg8 (fun e => (hP.out.off _ e.symm).2 rfl), fun g hg => ?_⟩
                            rcases hat8 with e | e
                            · rw [e] at hg; exact hP.out.off g hg
                            · rw [e] at hg
                              have h1 := hP.out.blk.lt
                              have h2 := hP.out.cel.lt
                              rw [World.size_alloc] at hg
                              injection hg with hg
                              constructor <;> omega
                          case measure => simp [intOf]; omega
                        · obtain rfl : p = n0 := by omega
                          have hO := hP.out.mine.own
                          obtain ⟨D, dd, eV⟩ := ownK_form hO
                          subst eV
                          have hcl : cellsL (acc ++ [((p : Int), y)]) = cellsL acc ++ List.replicate p y := by rw [cellsL_snoc]; simp
                          have HCLS := Lib.hid hcl
                          have hll : (cellsL acc ++ List.replicate p y).length = 0 + p := by rw [List.length_append, List.length_replicate, HKK.out]
                          have HLL := Lib.hid hll
                          rw [hll]
                          clear hcl hll hO
                          go_wp2
                          go_roundw
                          case rel =>
                            refine ⟨k, a', m - (p : Int), acc ++ [((p : Int), y)], rfl, ha', ?_, by omega, .inl (by omega), Lib.hid HNEXT.out.symm, ?_, ?_⟩
                            · show _ = _
                              rw [HCLS.out, HLL.out]
                              have := HMN.out
                              omega
                            · show MineS _ _ _ _ _ _ _
                              rw [HCLS.out]
                              have h9 := hP.out.mine
                              rw [HLL.out] at h9
                              exact h9
                            · intro x hx
                              rcases List.mem_append.1 hx with hx | hx
                              · exact hacc.out x hx
                              · simp only [List.mem_singleton] at hx
                                subst hx
                                simp only
                                omega
                          case measure =>
                            have := HMN.out
                            simp only [lenV]
                            omega
                  · obtain ⟨k2, hk2⟩ : ∃ q, K = q + 1 := ⟨K - 1, by omega⟩
                    have hk2l : k2 < (cellsL acc).length := by rw [hK.out]; omega
                    obtain ⟨u, hu⟩ : ∃ u, Hid ((cellsL acc)[k2] = u) := ⟨(cellsL acc)[k2], rfl⟩
                    have hlast2 : lastC none acc = some u := by
                      rw [← hlast, List.getLast?_eq_getElem?, hK.out, hk2, Nat.add_sub_cancel, List.getElem?_eq_getElem hk2l, hu.out]
                    have hRS : ∃ ad, VV = some ad ∧ ad.block < w6.drew.heap.size ∧ ∀ j v, (cellV u)[j]? = some v → w6.drew.cell? ((ad.add (k2 * 4)).add j) = some v := by
                      obtain ⟨V', e', eV', hR'⟩ := ReadsS.of_own length_cellV (by decide) HM6.out.own
                      rw [hK.out] at eV'
                      cases eV'
                      obtain ⟨ad, eA, hlt, hc⟩ := hR'.cell k2 hk2l
                      rw [hu.out] at hc
                      exact ⟨ad, eA, hlt, hc⟩
                    obtain ⟨ad, rfl, had, hlc⟩ := hRS
                    have HLc := Lib.hid hlc
                    obtain ⟨b, hb⟩ : ∃ b, Hid (decide (u = y) = b) := ⟨_, rfl⟩
                    have HEQ : Hid (∀ W : World, (Op.equalIn 10000 25 (.agg #[.int .i32 u.1, .int .i64 u.2.1, .int .i64 u.2.2.1, .int .i64 u.2.2.2]) (.agg #[.int .i32 y.1, .int .i64 y.2.1, .int .i64 y.2.2.1, .int .i64 y.2.2.2])).run Try.prog W = .ok b W) := fun W => by rw [← hb.out]; exact run_eq_cell W u y
                    have HBD : Hid (badR m acc ((n0 : Int), y) = b) := by
                      show _ = _
                      rw [← hb.out]
                      simp only [badR, e2, e3, Hok.out, hlast2, Option.some.injEq, Bool.not_true, Bool.or_false, Bool.false_or]
                    have HKK : Hid ((cellsL acc).length = k2 + 1) := by show _ = _; rw [hK.out]; exact hk2
                    clear hlast hlast2 hlc hb hu hk2l hK0
                    subst hk2
                    have hw1 : IntKind.i64.wrap ((k2 : Int) + 1 - 1) = (k2 : Int) := by rw [IntWalk.i64_in _ (by omega)]; omega
                    have hw2 : IntKind.i64.wrap (k2 : Int) = (k2 : Int) := IntWalk.i64_in _ (by omega)
                    have hk0 : (0 : Int) ≤ (k2 : Int) := by omega
                    have hk1 : (k2 : Int) < (k2 : Int) + 1 := by omega
                    have hk3 : decide ((0 : Int) < (k2 : Int) + 1) = true := by rw [decide_eq_true_eq]; omega
                    cases b
                    · have HNEXT := Lib.hid (HB3.out rfl HBD.out)
                      refine wp_region_any (by kernel_rfl) ?_
                      change wpAny _ _ _ _ _ _ _ (World.drew _)
                      refine wpAny_relyG (g := 0) [(0, 65), (1, 66), (2, 67), (3, 68), (4, 69), (5, 70), (6, 71), (7, 72), (8, 73), (9, 74), (10, 75), (11, 76), (12, 77), (13, 78), (14, 79), (15, 80), (16, 81), (17, 82)] (condAt (C3 y u ad k2 ee false)) [] (by kernel_rfl) rfl (condAt_keep (C3_stable y u ad k2 ee false)) ?hstep ?hend
                      case hstep =>
                        intro p hp o ho x W hbel hdep K hK
                        obtain ⟨c0, c1, c2, c3⟩ := fourB (HBC.out.below hbel HBC.out.lt)
                        obtain ⟨l0, l1, l2, l3⟩ := four (fun j q hq => (hbel.cell (by rw [block_add, block_add]; exact had)).trans (HLc.out j q hq))
                        simp only [List.mem_cons, List.not_mem_nil, or_false] at hp
                        rcases hp with rfl | rfl | rfl | rfl | rfl | rfl | rfl | rfl | rfl | rfl | rfl | rfl | rfl | rfl | rfl | rfl | rfl | rfl
                        · cases Option.some.inj ho
                          simp only [frm, List.foldl_cons, List.foldl_nil, Act.put, List.setIfInBounds_toArray, List.set_cons_zero, List.set_cons_succ] at hK ⊢
                          clear hdep ho
                          rw [if_pos (by rfl)]
                          go_simp
                          exact hK _ _ rfl (Below.refl _ _) (by simp)
                        · cases Option.some.inj ho
                          have d0 : x 0 = .agg #[.int .i32 y.1, .int .i64 y.2.1, .int .i64 y.2.2.1, .int .i64 y.2.2.2] := hdep ⟨0, .data⟩ (by simp) rfl rfl
                          simp only [frm, List.foldl_cons, List.foldl_nil, Act.put, List.setIfInBounds_toArray, List.set_cons_zero, List.set_cons_succ] at hK ⊢
                          clear hdep ho
                          rw [d0] at hK ⊢
                          clear d0
                          rw [if_pos (by rfl)]
                          go_simp
                          refine (HCR.out _).mono ?_
                          rintro e w' ⟨rfl, hb⟩
                          exact hK _ _ rfl hb (by simp)
                        · cases Option.some.inj ho
                          have d1 : x 1 = .bool true := hdep ⟨1, .data⟩ (by simp) rfl rfl
                          simp only [frm, List.foldl_cons, List.foldl_nil, Act.put, List.setIfInBounds_toArray, List.set_cons_zero, List.set_cons_succ] at hK ⊢
                          clear hdep ho
                          rw [d1] at hK ⊢
                          clear d1
                          rw [if_pos (by rfl)]
                          go_simp
                          exact hK _ _ rfl (Below.refl _ _) (by simp)
                        · cases Option.some.inj ho
                          have d2 : x 2 = .bool false := hdep ⟨2, .data⟩ (by simp) rfl rfl
                          simp only [frm, List.foldl_cons, List.foldl_nil, Act.put, List.setIfInBounds_toArray, List.set_cons_zero, List.set_cons_succ] at hK ⊢
                          clear hdep ho
                          rw [d2] at hK ⊢
                          clear d2
                          rw [if_pos (by rfl)]
                          go_simp
                          exact hK _ _ rfl (Below.refl _ _) (by simp)
                        · cases Option.some.inj ho
                          have d3 : x 3 = .bool false := hdep ⟨3, .guard⟩ (by simp) rfl rfl
                          simp only [frm, List.foldl_cons, List.foldl_nil, Act.put, List.setIfInBounds_toArray, List.set_cons_zero, List.set_cons_succ] at hK ⊢
                          clear hdep ho
                          rw [d3] at hK ⊢
                          clear d3
                          rw [if_pos (by rfl)]
                          go_simp
                          exact hK _ _ rfl (Below.refl _ _) (by simp)
                        · cases Option.some.inj ho
                          have d4 : x 4 = .slice (some ad) (k2 + 1) ee := hdep ⟨4, .data⟩ (by simp) rfl rfl
                          have d3 : x 3 = .bool false := hdep ⟨3, .guard⟩ (by simp) rfl rfl
                          simp only [frm, List.foldl_cons, List.foldl_nil, Act.put, List.setIfInBounds_toArray, List.set_cons_zero, List.set_cons_succ] at hK ⊢
                          clear hdep ho
                          rw [d4, d3] at hK ⊢
                          clear d4 d3
                          rw [if_pos (by rfl)]
                          go_simp
                          exact hK _ _ rfl (Below.refl _ _) (by simp)
                        · cases Option.some.inj ho
                          have d5 : x 5 = .int .i64 ((k2 : Int) + 1) := hdep ⟨5, .data⟩ (by simp) rfl rfl
                          have d3 : x 3 = .bool false := hdep ⟨3, .guard⟩ (by simp) rfl rfl
                          simp only [frm, List.foldl_cons, List.foldl_nil, Act.put, List.setIfInBounds_toArray, List.set_cons_zero, List.set_cons_succ] at hK ⊢
                          clear hdep ho
                          rw [d5, d3] at hK ⊢
                          clear d5 d3
                          rw [if_pos (by rfl)]
                          go_simp
                          exact hK _ _ rfl (Below.refl _ _) (by simp)
                        · cases Option.some.inj ho
                          have d6 : x 6 = .bool true := hdep ⟨6, .data⟩ (by simp) rfl rfl
                          have d3 : x 3 = .bool false := hdep ⟨3, .guard⟩ (by simp) rfl rfl
                          simp only [frm, List.foldl_cons, List.foldl_nil, Act.put, List.setIfInBounds_toArray, List.set_cons_zero, List.set_cons_succ] at hK ⊢
                          clear hdep ho
                          rw [d6, d3] at hK ⊢
                          clear d6 d3
                          rw [if_pos (by rfl)]
                          go_simp
                          exact hK _ _ rfl (Below.refl _ _) (by simp)
                        · cases Option.some.inj ho
                          have d7 : x 7 = .bool true := hdep ⟨7, .guard⟩ (by simp) rfl rfl
                          simp only [frm, List.foldl_cons, List.foldl_nil, Act.put, List.setIfInBounds_toArray, List.set_cons_zero, List.set_cons_succ] at hK ⊢
                          clear hdep ho
                          rw [d7] at hK ⊢
                          clear d7
                          rw [if_pos (by rfl)]
                          go_simp
                          exact hK _ _ rfl (Below.refl _ _) (by simp)
                        · cases Option.some.inj ho
                          have d7 : x 7 = .bool true := hdep ⟨7, .guard⟩ (by simp) rfl rfl
                          simp only [frm, List.foldl_cons, List.foldl_nil, Act.put, List.setIfInBounds_toArray, List.set_cons_zero, List.set_cons_succ] at hK ⊢
                          clear hdep ho
                          rw [d7] at hK ⊢
                          clear d7
                          rw [if_pos (by rfl)]
                          go_simp
                          exact hK _ _ rfl (Below.refl _ _) (by simp)
                        · cases Option.some.inj ho
                          have d9 : x 9 = .slice (some ad) (k2 + 1) ee := hdep ⟨9, .data⟩ (by simp) rfl rfl
                          have d7 : x 7 = .bool true := hdep ⟨7, .guard⟩ (by simp) rfl rfl
                          simp only [frm, List.foldl_cons, List.foldl_nil, Act.put, List.setIfInBounds_toArray, List.set_cons_zero, List.set_cons_succ] at hK ⊢
                          clear hdep ho
                          rw [d9, d7] at hK ⊢
                          clear d9 d7
                          rw [if_pos (by rfl)]
                          go_simp
                          exact hK _ _ rfl (Below.refl _ _) (by simp)
                        · cases Option.some.inj ho
                          have d10 : x 10 = .int .i64 ((k2 : Int) + 1) := hdep ⟨10, .data⟩ (by simp) rfl rfl
                          have d7 : x 7 = .bool true := hdep ⟨7, .guard⟩ (by simp) rfl rfl
                          simp only [frm, List.foldl_cons, List.foldl_nil, Act.put, List.setIfInBounds_toArray, List.set_cons_zero, List.set_cons_succ] at hK ⊢
                          clear hdep ho
                          rw [d10, d7] at hK ⊢
                          clear d10 d7
                          rw [if_pos (by rfl)]
                          go_simp
                          exact hK _ _ rfl (Below.refl _ _) (by simp)
                        · cases Option.some.inj ho
                          have d8 : x 8 = .slice (some ad) (k2 + 1) ee := hdep ⟨8, .data⟩ (by simp) rfl rfl
                          have d11 : x 11 = .int .i64 (k2 : Int) := hdep ⟨11, .data⟩ (by simp) rfl rfl
                          have d7 : x 7 = .bool true := hdep ⟨7, .guard⟩ (by simp) rfl rfl
                          simp only [frm, List.foldl_cons, List.foldl_nil, Act.put, List.setIfInBounds_toArray, List.set_cons_zero, List.set_cons_succ] at hK ⊢
                          clear hdep ho
                          rw [d8, d11, d7] at hK ⊢
                          clear d8 d11 d7
                          rw [if_pos (by rfl)]
                          go_simp
                          exact hK _ _ rfl (Below.refl _ _) (by simp)
                        · cases Option.some.inj ho
                          have d12 : x 12 = .pointer (some (ad.add (k2 * 4))) := hdep ⟨12, .data⟩ (by simp) rfl rfl
                          have d7 : x 7 = .bool true := hdep ⟨7, .guard⟩ (by simp) rfl rfl
                          simp only [frm, List.foldl_cons, List.foldl_nil, Act.put, List.setIfInBounds_toArray, List.set_cons_zero, List.set_cons_succ] at hK ⊢
                          clear hdep ho
                          rw [d12, d7] at hK ⊢
                          clear d12 d7
                          rw [if_pos (by rfl)]
                          go_simp
                          exact hK _ _ rfl (Below.refl _ _) (by simp)
                        · cases Option.some.inj ho
                          have d7 : x 7 = .bool true := hdep ⟨7, .guard⟩ (by simp) rfl rfl
                          simp only [frm, List.foldl_cons, List.foldl_nil, Act.put, List.setIfInBounds_toArray, List.set_cons_zero, List.set_cons_succ] at hK ⊢
                          clear hdep ho
                          rw [d7] at hK ⊢
                          clear d7
                          rw [if_pos (by rfl)]
                          go_simp
                          exact hK _ _ rfl (Below.refl _ _) (by simp)
                        · cases Option.some.inj ho
                          have d13 : x 13 = .agg #[.int .i32 u.1, .int .i64 u.2.1, .int .i64 u.2.2.1, .int .i64 u.2.2.2] := hdep ⟨13, .data⟩ (by simp) rfl rfl
                          have d14 : x 14 = .agg #[.int .i32 y.1, .int .i64 y.2.1, .int .i64 y.2.2.1, .int .i64 y.2.2.2] := hdep ⟨14, .data⟩ (by simp) rfl rfl
                          have d7 : x 7 = .bool true := hdep ⟨7, .guard⟩ (by simp) rfl rfl
                          simp only [frm, List.foldl_cons, List.foldl_nil, Act.put, List.setIfInBounds_toArray, List.set_cons_zero, List.set_cons_succ] at hK ⊢
                          clear hdep ho
                          rw [d13, d14, d7] at hK ⊢
                          clear d13 d14 d7
                          rw [if_pos (by rfl)]
                          have heq := HEQ.out
                          go_simp
                          exact hK _ _ rfl (Below.refl _ _) (by simp)
                        · cases Option.some.inj ho
                          have d7 : x 7 = .bool true := hdep ⟨7, .data⟩ (by simp) rfl rfl
                          have d15 : x 15 = .bool false := hdep ⟨15, .data⟩ (by simp) rfl rfl
                          have d3 : x 3 = .bool false := hdep ⟨3, .guard⟩ (by simp) rfl rfl
                          simp only [frm, List.foldl_cons, List.foldl_nil, Act.put, List.setIfInBounds_toArray, List.set_cons_zero, List.set_cons_succ] at hK ⊢
                          clear hdep ho
                          rw [d7, d15, d3] at hK ⊢
                          clear d7 d15 d3
                          rw [if_pos (by rfl)]
                          go_simp
                          exact hK _ _ rfl (Below.refl _ _) (by simp)
                        · cases Option.some.inj ho
                          have d3 : x 3 = .bool false := hdep ⟨3, .data⟩ (by simp) rfl rfl
                          have d16 : x 16 = .bool false := hdep ⟨16, .data⟩ (by simp) rfl rfl
                          simp only [frm, List.foldl_cons, List.foldl_nil, Act.put, List.setIfInBounds_toArray, List.set_cons_zero, List.set_cons_succ] at hK ⊢
                          clear hdep ho
                          rw [d3, d16] at hK ⊢
                          clear d3 d16
                          rw [if_pos (by rfl)]
                          go_simp
                          exact hK _ _ rfl (Below.refl _ _) (by simp)
                      case hend =>
                        intro x W hbel hall _
                        have d17 : x 17 = .bool false := hall (17, 82) (by simp)
                        simp only [frm, List.foldl_cons, List.foldl_nil, Act.put, List.setIfInBounds_toArray, List.set_cons_zero, List.set_cons_succ]
                        rw [d17]
                        clear hall d17
                        generalize x 0 = z0
                        generalize x 1 = z1
                        generalize x 2 = z2
                        generalize x 3 = z3
                        generalize x 4 = z4
                        generalize x 5 = z5
                        generalize x 6 = z6
                        generalize x 7 = z7
                        generalize x 8 = z8
                        generalize x 9 = z9
                        generalize x 10 = z10
                        generalize x 11 = z11
                        generalize x 12 = z12
                        generalize x 13 = z13
                        generalize x 14 = z14
                        generalize x 15 = z15
                        generalize x 16 = z16
                        refine wpAny_done (by kernel_rfl) ?_ _
                        have HRO : Hid (ROut w W z zc [n0, n1, n2, n3, n4] y (.slice (some ad) (k2 + 1) ee) (cellsL acc ++ List.replicate 0 y)) := by
                          show ROut _ _ _ _ _ _ _ _
                          rw [List.replicate_zero, List.append_nil]
                          exact ⟨HM6.out.below hbel, HBA.out.below hbel HBA.out.lt, HBC.out.below hbel HBC.out.lt, fun g hg => ⟨HOf.out g hg, HOc.out g hg⟩⟩
                        clear hbel
                        go_wp2
                        go_loopw [9, 14] (fun v i wr => ∃ p : Nat, p ≤ n0 ∧ i = .int .i64 p ∧ Hid (ROut w wr z zc [n0, n1, n2, n3, n4] y v (cellsL acc ++ List.replicate p y))) (fun _ i _ => n0 - (intOf i).toNat)
                        case atStart => exact ⟨0, Nat.zero_le _, rfl, HRO⟩
                        case round =>
                          obtain ⟨p, hp, rfl, hP⟩ := hrel
                          have x0 : wr.cell? ⟨z, 0, none⟩ = some (.int .i64 (n0 : Int)) := hP.out.blk.cell 0
                          obtain ⟨q0, q1, q2, q3⟩ := fourB hP.out.cel
                          by_cases hpl : p < n0
                          · have hpd : (p : Int) < (n0 : Int) := by omega
                            have hO := hP.out.mine.own
                            obtain ⟨L, hL⟩ : ∃ L, Hid ((cellsL acc ++ List.replicate p y).length = L) := ⟨_, Lib.hid rfl⟩
                            have hLK : L = k2 + 1 + p := by rw [← hL.out, List.length_append, List.length_replicate, HKK.out]
                            have hLb : L + 1 ≤ 1099511627776 := by have := HMN.out; omega
                            have HLK := Lib.hid hLK
                            clear hLK
                            rw [hL.out] at hO
                            obtain ⟨D, dd, eV⟩ := ownK_form hO
                            subst eV
                            have HOw := Lib.hid hO
                            clear hO
                            go_wp2_with (at_builtin; refine wpList_app1 length_cellV one_cellV (by decide) rfl (.tmp 90) (.tmp 92) 30 rfl w.heap.size 25 i0 _ 32 Try.underlying30 hi hz0 hz1 hz2 rfl (.slice D L dd) L (cellsL acc ++ List.replicate p y) rfl (ownK_below HOw.out (alloc_below' _ _)) y _ _ rfl (Blk.new _ _ _) (by unfold maxLen; omega) (by omega) (by have := hP.out.mine.bel.size; simp; omega) ?_; intro A1 c1 w8 ho8 hg8 hat8)
                            go_roundw
                            case rel =>
                              refine ⟨p + 1, by omega, by go_num, ?_⟩
                              have hbl := bel_app hP.out.mine.bel hg8 (ownK_base HOw.out)
                              show ROut _ _ _ _ _ _ _ _
                              rw [List.replicate_succ', ← List.append_assoc]
                              refine ⟨⟨by rw [List.length_append, hL.out]; exact ho8, hbl⟩, (hP.out.blk.alloc _).grown hg8 (fun e => (hP.out.off _ e.symm).1 rfl), (hP.out.cel.alloc _).grown hg8 (fun e => (hP.out.off _ e.symm).2 rfl), fun g hg => ?_⟩
                              rcases hat8 with e | e
                              · rw [e] at hg; exact hP.out.off g hg
                              · rw [e] at hg
                                have h1 := hP.out.blk.lt
                                have h2 := hP.out.cel.lt
                                rw [World.size_alloc] at hg
                                injection hg with hg
                                constructor <;> omega
                            case measure => simp [intOf]; omega
                          · obtain rfl : p = n0 := by omega
                            have hO := hP.out.mine.own
                            obtain ⟨D, dd, eV⟩ := ownK_form hO
                            subst eV
                            have hcl : cellsL (acc ++ [((p : Int), y)]) = cellsL acc ++ List.replicate p y := by rw [cellsL_snoc]; simp
                            have HCLS := Lib.hid hcl
                            have hll : (cellsL acc ++ List.replicate p y).length = k2 + 1 + p := by rw [List.length_append, List.length_replicate, HKK.out]
                            have HLL := Lib.hid hll
                            rw [hll]
                            clear hcl hll hO
                            go_wp2
                            go_roundw
                            case rel =>
                              refine ⟨k, a', m - (p : Int), acc ++ [((p : Int), y)], rfl, ha', ?_, by omega, .inl (by omega), Lib.hid HNEXT.out.symm, ?_, ?_⟩
                              · show _ = _
                                rw [HCLS.out, HLL.out]
                                have := HMN.out
                                omega
                              · show MineS _ _ _ _ _ _ _
                                rw [HCLS.out]
                                have h9 := hP.out.mine
                                rw [HLL.out] at h9
                                exact h9
                              · intro x hx
                                rcases List.mem_append.1 hx with hx | hx
                                · exact hacc.out x hx
                                · simp only [List.mem_singleton] at hx
                                  subst hx
                                  simp only
                                  omega
                            case measure =>
                              have := HMN.out
                              simp only [lenV]
                              omega
                    · have HF := Lib.hid (HB1.out HBD.out)
                      refine wp_region_any (by kernel_rfl) ?_
                      change wpAny _ _ _ _ _ _ _ (World.drew _)
                      refine wpAny_relyG (g := 0) [(0, 65), (1, 66), (2, 67), (3, 68), (4, 69), (5, 70), (6, 71), (7, 72), (8, 73), (9, 74), (10, 75), (11, 76), (12, 77), (13, 78), (14, 79), (15, 80), (16, 81), (17, 82)] (condAt (C3 y u ad k2 ee true)) [] (by kernel_rfl) rfl (condAt_keep (C3_stable y u ad k2 ee true)) ?hstep ?hend
                      case hstep =>
                        intro p hp o ho x W hbel hdep K hK
                        obtain ⟨c0, c1, c2, c3⟩ := fourB (HBC.out.below hbel HBC.out.lt)
                        obtain ⟨l0, l1, l2, l3⟩ := four (fun j q hq => (hbel.cell (by rw [block_add, block_add]; exact had)).trans (HLc.out j q hq))
                        simp only [List.mem_cons, List.not_mem_nil, or_false] at hp
                        rcases hp with rfl | rfl | rfl | rfl | rfl | rfl | rfl | rfl | rfl | rfl | rfl | rfl | rfl | rfl | rfl | rfl | rfl | rfl
                        · cases Option.some.inj ho
                          simp only [frm, List.foldl_cons, List.foldl_nil, Act.put, List.setIfInBounds_toArray, List.set_cons_zero, List.set_cons_succ] at hK ⊢
                          clear hdep ho
                          rw [if_pos (by rfl)]
                          go_simp
                          exact hK _ _ rfl (Below.refl _ _) (by simp)
                        · cases Option.some.inj ho
                          have d0 : x 0 = .agg #[.int .i32 y.1, .int .i64 y.2.1, .int .i64 y.2.2.1, .int .i64 y.2.2.2] := hdep ⟨0, .data⟩ (by simp) rfl rfl
                          simp only [frm, List.foldl_cons, List.foldl_nil, Act.put, List.setIfInBounds_toArray, List.set_cons_zero, List.set_cons_succ] at hK ⊢
                          clear hdep ho
                          rw [d0] at hK ⊢
                          clear d0
                          rw [if_pos (by rfl)]
                          go_simp
                          refine (HCR.out _).mono ?_
                          rintro e w' ⟨rfl, hb⟩
                          exact hK _ _ rfl hb (by simp)
                        · cases Option.some.inj ho
                          have d1 : x 1 = .bool true := hdep ⟨1, .data⟩ (by simp) rfl rfl
                          simp only [frm, List.foldl_cons, List.foldl_nil, Act.put, List.setIfInBounds_toArray, List.set_cons_zero, List.set_cons_succ] at hK ⊢
                          clear hdep ho
                          rw [d1] at hK ⊢
                          clear d1
                          rw [if_pos (by rfl)]
                          go_simp
                          exact hK _ _ rfl (Below.refl _ _) (by simp)
                        · cases Option.some.inj ho
                          have d2 : x 2 = .bool false := hdep ⟨2, .data⟩ (by simp) rfl rfl
                          simp only [frm, List.foldl_cons, List.foldl_nil, Act.put, List.setIfInBounds_toArray, List.set_cons_zero, List.set_cons_succ] at hK ⊢
                          clear hdep ho
                          rw [d2] at hK ⊢
                          clear d2
                          rw [if_pos (by rfl)]
                          go_simp
                          exact hK _ _ rfl (Below.refl _ _) (by simp)
                        · cases Option.some.inj ho
                          have d3 : x 3 = .bool false := hdep ⟨3, .guard⟩ (by simp) rfl rfl
                          simp only [frm, List.foldl_cons, List.foldl_nil, Act.put, List.setIfInBounds_toArray, List.set_cons_zero, List.set_cons_succ] at hK ⊢
                          clear hdep ho
                          rw [d3] at hK ⊢
                          clear d3
                          rw [if_pos (by rfl)]
                          go_simp
                          exact hK _ _ rfl (Below.refl _ _) (by simp)
                        · cases Option.some.inj ho
                          have d4 : x 4 = .slice (some ad) (k2 + 1) ee := hdep ⟨4, .data⟩ (by simp) rfl rfl
                          have d3 : x 3 = .bool false := hdep ⟨3, .guard⟩ (by simp) rfl rfl
                          simp only [frm, List.foldl_cons, List.foldl_nil, Act.put, List.setIfInBounds_toArray, List.set_cons_zero, List.set_cons_succ] at hK ⊢
                          clear hdep ho
                          rw [d4, d3] at hK ⊢
                          clear d4 d3
                          rw [if_pos (by rfl)]
                          go_simp
                          exact hK _ _ rfl (Below.refl _ _) (by simp)
                        · cases Option.some.inj ho
                          have d5 : x 5 = .int .i64 ((k2 : Int) + 1) := hdep ⟨5, .data⟩ (by simp) rfl rfl
                          have d3 : x 3 = .bool false := hdep ⟨3, .guard⟩ (by simp) rfl rfl
                          simp only [frm, List.foldl_cons, List.foldl_nil, Act.put, List.setIfInBounds_toArray, List.set_cons_zero, List.set_cons_succ] at hK ⊢
                          clear hdep ho
                          rw [d5, d3] at hK ⊢
                          clear d5 d3
                          rw [if_pos (by rfl)]
                          go_simp
                          exact hK _ _ rfl (Below.refl _ _) (by simp)
                        · cases Option.some.inj ho
                          have d6 : x 6 = .bool true := hdep ⟨6, .data⟩ (by simp) rfl rfl
                          have d3 : x 3 = .bool false := hdep ⟨3, .guard⟩ (by simp) rfl rfl
                          simp only [frm, List.foldl_cons, List.foldl_nil, Act.put, List.setIfInBounds_toArray, List.set_cons_zero, List.set_cons_succ] at hK ⊢
                          clear hdep ho
                          rw [d6, d3] at hK ⊢
                          clear d6 d3
                          rw [if_pos (by rfl)]
                          go_simp
                          exact hK _ _ rfl (Below.refl _ _) (by simp)
                        · cases Option.some.inj ho
                          have d7 : x 7 = .bool true := hdep ⟨7, .guard⟩ (by simp) rfl rfl
                          simp only [frm, List.foldl_cons, List.foldl_nil, Act.put, List.setIfInBounds_toArray, List.set_cons_zero, List.set_cons_succ] at hK ⊢
                          clear hdep ho
                          rw [d7] at hK ⊢
                          clear d7
                          rw [if_pos (by rfl)]
                          go_simp
                          exact hK _ _ rfl (Below.refl _ _) (by simp)
                        · cases Option.some.inj ho
                          have d7 : x 7 = .bool true := hdep ⟨7, .guard⟩ (by simp) rfl rfl
                          simp only [frm, List.foldl_cons, List.foldl_nil, Act.put, List.setIfInBounds_toArray, List.set_cons_zero, List.set_cons_succ] at hK ⊢
                          clear hdep ho
                          rw [d7] at hK ⊢
                          clear d7
                          rw [if_pos (by rfl)]
                          go_simp
                          exact hK _ _ rfl (Below.refl _ _) (by simp)
                        · cases Option.some.inj ho
                          have d9 : x 9 = .slice (some ad) (k2 + 1) ee := hdep ⟨9, .data⟩ (by simp) rfl rfl
                          have d7 : x 7 = .bool true := hdep ⟨7, .guard⟩ (by simp) rfl rfl
                          simp only [frm, List.foldl_cons, List.foldl_nil, Act.put, List.setIfInBounds_toArray, List.set_cons_zero, List.set_cons_succ] at hK ⊢
                          clear hdep ho
                          rw [d9, d7] at hK ⊢
                          clear d9 d7
                          rw [if_pos (by rfl)]
                          go_simp
                          exact hK _ _ rfl (Below.refl _ _) (by simp)
                        · cases Option.some.inj ho
                          have d10 : x 10 = .int .i64 ((k2 : Int) + 1) := hdep ⟨10, .data⟩ (by simp) rfl rfl
                          have d7 : x 7 = .bool true := hdep ⟨7, .guard⟩ (by simp) rfl rfl
                          simp only [frm, List.foldl_cons, List.foldl_nil, Act.put, List.setIfInBounds_toArray, List.set_cons_zero, List.set_cons_succ] at hK ⊢
                          clear hdep ho
                          rw [d10, d7] at hK ⊢
                          clear d10 d7
                          rw [if_pos (by rfl)]
                          go_simp
                          exact hK _ _ rfl (Below.refl _ _) (by simp)
                        · cases Option.some.inj ho
                          have d8 : x 8 = .slice (some ad) (k2 + 1) ee := hdep ⟨8, .data⟩ (by simp) rfl rfl
                          have d11 : x 11 = .int .i64 (k2 : Int) := hdep ⟨11, .data⟩ (by simp) rfl rfl
                          have d7 : x 7 = .bool true := hdep ⟨7, .guard⟩ (by simp) rfl rfl
                          simp only [frm, List.foldl_cons, List.foldl_nil, Act.put, List.setIfInBounds_toArray, List.set_cons_zero, List.set_cons_succ] at hK ⊢
                          clear hdep ho
                          rw [d8, d11, d7] at hK ⊢
                          clear d8 d11 d7
                          rw [if_pos (by rfl)]
                          go_simp
                          exact hK _ _ rfl (Below.refl _ _) (by simp)
                        · cases Option.some.inj ho
                          have d12 : x 12 = .pointer (some (ad.add (k2 * 4))) := hdep ⟨12, .data⟩ (by simp) rfl rfl
                          have d7 : x 7 = .bool true := hdep ⟨7, .guard⟩ (by simp) rfl rfl
                          simp only [frm, List.foldl_cons, List.foldl_nil, Act.put, List.setIfInBounds_toArray, List.set_cons_zero, List.set_cons_succ] at hK ⊢
                          clear hdep ho
                          rw [d12, d7] at hK ⊢
                          clear d12 d7
                          rw [if_pos (by rfl)]
                          go_simp
                          exact hK _ _ rfl (Below.refl _ _) (by simp)
                        · cases Option.some.inj ho
                          have d7 : x 7 = .bool true := hdep ⟨7, .guard⟩ (by simp) rfl rfl
                          simp only [frm, List.foldl_cons, List.foldl_nil, Act.put, List.setIfInBounds_toArray, List.set_cons_zero, List.set_cons_succ] at hK ⊢
                          clear hdep ho
                          rw [d7] at hK ⊢
                          clear d7
                          rw [if_pos (by rfl)]
                          go_simp
                          exact hK _ _ rfl (Below.refl _ _) (by simp)
                        · cases Option.some.inj ho
                          have d13 : x 13 = .agg #[.int .i32 u.1, .int .i64 u.2.1, .int .i64 u.2.2.1, .int .i64 u.2.2.2] := hdep ⟨13, .data⟩ (by simp) rfl rfl
                          have d14 : x 14 = .agg #[.int .i32 y.1, .int .i64 y.2.1, .int .i64 y.2.2.1, .int .i64 y.2.2.2] := hdep ⟨14, .data⟩ (by simp) rfl rfl
                          have d7 : x 7 = .bool true := hdep ⟨7, .guard⟩ (by simp) rfl rfl
                          simp only [frm, List.foldl_cons, List.foldl_nil, Act.put, List.setIfInBounds_toArray, List.set_cons_zero, List.set_cons_succ] at hK ⊢
                          clear hdep ho
                          rw [d13, d14, d7] at hK ⊢
                          clear d13 d14 d7
                          rw [if_pos (by rfl)]
                          have heq := HEQ.out
                          go_simp
                          exact hK _ _ rfl (Below.refl _ _) (by simp)
                        · cases Option.some.inj ho
                          have d7 : x 7 = .bool true := hdep ⟨7, .data⟩ (by simp) rfl rfl
                          have d15 : x 15 = .bool true := hdep ⟨15, .data⟩ (by simp) rfl rfl
                          have d3 : x 3 = .bool false := hdep ⟨3, .guard⟩ (by simp) rfl rfl
                          simp only [frm, List.foldl_cons, List.foldl_nil, Act.put, List.setIfInBounds_toArray, List.set_cons_zero, List.set_cons_succ] at hK ⊢
                          clear hdep ho
                          rw [d7, d15, d3] at hK ⊢
                          clear d7 d15 d3
                          rw [if_pos (by rfl)]
                          go_simp
                          exact hK _ _ rfl (Below.refl _ _) (by simp)
                        · cases Option.some.inj ho
                          have d3 : x 3 = .bool false := hdep ⟨3, .data⟩ (by simp) rfl rfl
                          have d16 : x 16 = .bool true := hdep ⟨16, .data⟩ (by simp) rfl rfl
                          simp only [frm, List.foldl_cons, List.foldl_nil, Act.put, List.setIfInBounds_toArray, List.set_cons_zero, List.set_cons_succ] at hK ⊢
                          clear hdep ho
                          rw [d3, d16] at hK ⊢
                          clear d3 d16
                          rw [if_pos (by rfl)]
                          go_simp
                          exact hK _ _ rfl (Below.refl _ _) (by simp)
                      case hend =>
                        intro x W hbel hall _
                        have d17 : x 17 = .bool true := hall (17, 82) (by simp)
                        simp only [frm, List.foldl_cons, List.foldl_nil, Act.put, List.setIfInBounds_toArray, List.set_cons_zero, List.set_cons_succ]
                        rw [d17]
                        clear hall d17
                        generalize x 0 = z0
                        generalize x 1 = z1
                        generalize x 2 = z2
                        generalize x 3 = z3
                        generalize x 4 = z4
                        generalize x 5 = z5
                        generalize x 6 = z6
                        generalize x 7 = z7
                        generalize x 8 = z8
                        generalize x 9 = z9
                        generalize x 10 = z10
                        generalize x 11 = z11
                        generalize x 12 = z12
                        generalize x 13 = z13
                        generalize x 14 = z14
                        generalize x 15 = z15
                        generalize x 16 = z16
                        refine wpAny_done (by kernel_rfl) ?_ _
                        have hbw := HM6.out.bel.trans (hbel.mono HM6.out.bel.size)
                        go_wp2
                        go_ret3
                        exact ⟨none, 0, 0, _, by rw [HF.out]; rfl, by rw [HF.out]; exact .nil (by simp [maxLen]), fun h => by rw [HF.out] at h; exact absurd h (by decide), hbw⟩
    · have hKN : decide ((K : Int) < N) = false := by rw [decide_eq_false_iff_not]; omega
      have hfin := readC_end k m acc (B.drop a, 0) (by omega)
      rw [hres.out] at hfin
      have HF := Lib.hid hfin
      have HMM := Lib.hid hM.out.bel
      obtain ⟨V', e', eV', hR'⟩ := ReadsS.of_own length_cellV (by decide) hM.out.own
      rw [hK.out] at eV' hR'
      cases eV'
      have HRS := Lib.hid hR'
      clear hfin hR' hM hOw hmN2
      go_wp2
      go_ret3
      refine ⟨VV, K, ee, (a : Int), by rw [HF.out]; rfl, by rw [HF.out]; exact HRS.out, fun _ => ?_, HMM.out⟩
      rw [HF.out]
      simp only [List.length_drop, HBL.out]
      omega
end Go.Proofs.Ytbmnpbmimhodbaa
