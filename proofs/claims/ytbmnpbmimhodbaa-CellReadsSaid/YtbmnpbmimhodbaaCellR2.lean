/- What continues and Read of package cell return, as walks through the translated text. Conditions: the Reader lies in memory of its own; at most 2^40 cells are asked for. -/
import Derived.Test.YtbmnpbmimhodbaaCellR
namespace Go.Proofs.Ytbmnpbmimhodbaa
open Go.ChangeShapes Go.WideShapes Go.RowKit
set_option maxHeartbeats 1600000 in
theorem continues_c (A : Option Addr) (n c : Nat) (R : List RunV) (x : RunV) (w : World) (hr : ReadsS runV 5 w A n c R) :
    Calls Try.prog 31 #[.slice A n c, .agg (runV x).toArray] w (BoolPost w (decide (lastC none R = some x.2))) := by
  have hcap : n ≤ 9223372036854775807 := by have := hr.room; have := hr.cap; unfold maxLen at this; omega
  have hl := hr.len
  rcases List.eq_nil_or_concat R with rfl | ⟨m, y, rfl⟩
  · obtain rfl : n = 0 := by simpa using hl.symm
    have hb : Hid (decide (lastC none [] = some x.2) = false) := by show _ = _; simp [lastC]
    rw [hb.out]
    clear hr hl
    show Calls _ _ #[_, .agg #[.int .i64 x.1, .int .i32 x.2.1, .int .i64 x.2.2.1, .int .i64 x.2.2.2.1, .int .i64 x.2.2.2.2]] _ _
    go_enter Try.func31, Try.ntmps31
    go_wp2_with fail
    go_quiet (fail)
    go_wp2
    go_ret
    exact ⟨rfl, belowDrewN (alloc_below' _ _) _⟩
  · rw [List.concat_eq_append] at *
    have hb : Hid (decide (lastC none (m ++ [y]) = some x.2) = decide (y.2 = x.2)) := by show _ = _; rw [lastC_snoc]; simp
    rw [hb.out]
    obtain ⟨k, hk⟩ : ∃ k, Hid (m.length = k) := ⟨_, Lib.hid rfl⟩
    obtain rfl : n = k + 1 := by rw [← hk.out]; simpa using hl.symm
    obtain ⟨ad, rfl, hlt⟩ := hr.pos (by omega)
    have hca := hr.at k (by simp [hk.out])
    have hy : Hid ((m ++ [y])[k]'(by simp [hk.out]) = y) := by show _ = _; simp [← hk.out]
    rw [hy.out] at hca
    have heq := fun W => run_eq_cell W y.2 x.2
    obtain ⟨b, hbb⟩ : ∃ b, Hid (decide (y.2 = x.2) = b) := ⟨_, rfl⟩
    rw [hbb.out] at heq ⊢
    simp only [cellV] at heq
    clear hr hl hy hb hbb
    have HCA := Lib.hid hca
    clear hca
    show Calls _ _ #[_, .agg #[.int .i64 x.1, .int .i32 x.2.1, .int .i64 x.2.2.1, .int .i64 x.2.2.2.1, .int .i64 x.2.2.2.2]] _ _
    go_enter Try.func31, Try.ntmps31
    go_wp2_with fail
    refine name_wp (fun w1 => Blk w1 w.heap.size 34 (runV x) ∧ Below w.heap.size w w1) ⟨Blk.new _ _ _, alloc_below' _ _⟩ ?_
    rintro w1 ⟨hB1, hb1⟩
    obtain ⟨x0, x1, x2, x3, x4⟩ := fiveB hB1
    obtain ⟨y0, y1, y2, y3, y4⟩ := five (fun j u hu => (hb1.cell (by rw [block_add, block_add]; exact hlt)).trans (HCA.out j u hu))
    have HB := Lib.hid hb1
    have hk0 : (0 : Int) ≤ (k : Int) := by omega
    have hk1 : (k : Int) < ((k + 1 : Nat) : Int) := by omega
    have g1 : decide ((0 : Int) < ((k + 1 : Nat) : Int)) = true := by rw [decide_eq_true_eq]; omega
    have g2 : IntKind.i64.wrap (((k + 1 : Nat) : Int) - 1) = (k : Int) := by rw [IntWalk.i64_in _ (by omega)]; omega
    clear hb1 hB1
    go_quiet (fail)
    go_wp2
    go_ret
    exact ⟨rfl, belowDrewN HB.out _⟩
/-! ### Read -/
/-- A run that may not stand behind acc where n cells are wanted. -/
def badR (n : Int) (acc : List RunV) (x : RunV) : Bool := x.1 == 0 || decide (n < x.1) || !okC x.2 || decide (lastC none acc = some x.2)
/-- The runs of n cells, behind acc, and what is left behind them. -/
def readC : Nat → Int → List RunV → List Nat × Int → List RunV × (List Nat × Int)
  | 0, _, acc, s => (acc, s)
  | k + 1, n, acc, s => if n ≤ 0 then (acc, s) else if (readRunR s).2.2 ≠ 0 then ([], (readRunR s).2) else if badR n acc (readRunR s).1 then ([], ([], 6)) else readC k (n - (readRunR s).1.1) (acc ++ [(readRunR s).1]) (readRunR s).2
theorem readC_end (k : Nat) (n : Int) (acc : List RunV) (s : List Nat × Int) (h : n ≤ 0) : readC k n acc s = (acc, s) := by
  cases k with
  | zero => rfl
  | succ k => rw [readC, if_pos h]
theorem failR_ne (s : List Nat × Int) : (failR s 6).2 ≠ 0 := by
  unfold failR
  split
  · simp
  · assumption
theorem readC_bad (k : Nat) (n : Int) (acc : List RunV) (s : List Nat × Int) (h : 0 < n) (hb : badR n acc (readRunR s).1 = true) : readC (k + 1) n acc s = ([], failR (readRunR s).2 6) := by
  rw [readC, if_neg (by omega)]
  by_cases h0 : (readRunR s).2.2 = 0
  · rw [if_neg (by simpa using h0), if_pos hb, failR_ok _ _ h0 (by decide)]
  · rw [if_pos h0, failR_err _ _ h0]
theorem readC_err (k : Nat) (n : Int) (acc : List RunV) (s : List Nat × Int) (h : 0 < n) (h0 : (readRunR s).2.2 ≠ 0) : readC (k + 1) n acc s = ([], (readRunR s).2) := by
  rw [readC, if_neg (by omega), if_pos h0]
theorem readC_next (k : Nat) (n : Int) (acc : List RunV) (s : List Nat × Int) (h : 0 < n) (h0 : (readRunR s).2.2 = 0) (hb : badR n acc (readRunR s).1 = false) : readC (k + 1) n acc s = readC k (n - (readRunR s).1.1) (acc ++ [(readRunR s).1]) (readRunR s).2 := by
  rw [readC, if_neg (by omega), if_neg (by simpa using h0), hb]
  rfl
theorem readRunR_pos (s : List Nat × Int) : 0 ≤ (readRunR s).1.1 := by
  show (0 : Int) ≤ ((numberR s).1 : Int)
  omega
/-- The world while Read reads: the runs so far in a row of its own, the Reader. -/
structure RdSt (w W : World) (g : Nat) (D : Option Nat) (s : List Nat × Int) (v : Value) (acc : List RunV) : Prop where
  own : W.ownsRow w.heap.size 34 5 v acc.length (acc.flatMap runV)
  rd : RAt W g D s
  chg : Chg (fun i => i = g) w W
/-- It returns the cells in new memory; the Reader holds what is left, and nothing but it has turned. -/
def ReadPostC (w : World) (g : Nat) (D : Option Nat) (r : List RunV × (List Nat × Int)) (en : Ending) (w' : World) : Prop :=
  ∃ V m d, en = .returned (.slice V m d) ∧ ReadsS cellV 4 w' V m d (cellsL r.1) ∧ (∀ ad, V = some ad → w.heap.size ≤ ad.block) ∧ RAt w' g D r.2 ∧ Chg (fun i => i = g) w w'
set_option maxHeartbeats 3200000 in
theorem read_c (g : Nat) (D : Option Nat) (N : Int) (s : List Nat × Int) (w : World) (h : RAt w g D s) (hN : N ≤ 1099511627776) (hN0 : -9223372036854775808 ≤ N) :
    Calls Try.prog 19 #[.pointer (some ⟨g, 0, none⟩), .int .i64 N] w (ReadPostC w g D (readC N.toNat N [] s)) := by
  obtain ⟨i0, hi, hz0, hz1, hz2⟩ := info_parts infoR
  obtain ⟨RES, hRES⟩ : ∃ r, Hid (readC N.toNat N [] s = r) := ⟨_, rfl⟩
  rw [hRES.out]
  have hg := h.lt
  have HD := Lib.hid h.low
  have H := Lib.hid h
  clear h
  go_enter Try.func19, Try.ntmps19
  go_wp2
  go_loopw [1, 5] (fun i v wr => ∃ (k : Nat) (m : Int) (acc : List RunV) (st : List Nat × Int), i = .int .i64 m ∧ m ≤ N ∧ -9223372036854775808 ≤ m ∧ m.toNat ≤ k ∧ Hid (readC k m acc st = RES) ∧ Hid (RdSt w wr g D st v acc) ∧ Hid (acc.length ≤ (cellsL acc).length ∧ (cellsL acc).length + m.toNat ≤ N.toNat ∧ ∀ x ∈ acc, x.1 ≤ 9223372036854775807)) (fun i _ _ => (intOf i).toNat)
  case atStart => exact ⟨N.toNat, N, [], s, rfl, by omega, hN0, Nat.le_refl _, hRES, ⟨World.ownsRow_nil _ _ _ _, H.out, Chg.refl _ _⟩, Lib.hid ⟨by simp [cellsL], by simp [cellsL], by simp⟩⟩
  case round =>
    obtain ⟨k, m, acc, st, rfl, hm, hm0, hmk, hres, hS, hA⟩ := hrel
    obtain ⟨V, e, eV⟩ := ownK_form hS.out.own
    subst eV
    by_cases hpos : 0 < m
    · obtain ⟨k, rfl⟩ : ∃ q, k = q + 1 := ⟨k - 1, by omega⟩
      have hmd : decide (0 < m) = true := by rw [decide_eq_true_eq]; exact hpos
      have hrr := readRun_c g D st wr hS.out.rd
      have hb1 := readC_bad k m acc st hpos
      have hb2 := readC_err k m acc st hpos
      have hb3 := readC_next k m acc st hpos
      have hb4 := readRunR_pos st
      obtain ⟨x, s1, hx⟩ : ∃ x t, Hid (readRunR st = (x, t)) := ⟨_, _, rfl⟩
      rw [hx.out] at hrr hb1 hb2 hb3 hb4
      simp only at hrr hb1 hb2 hb3 hb4
      obtain ⟨K, hK⟩ : ∃ K, Hid (acc.length = K) := ⟨_, Lib.hid rfl⟩
      have hKb : K ≤ 1099511627776 := by have := hA.out; rw [hK.out] at this; omega
      have hOw := hS.out.own
      rw [hK.out] at hOw ⊢
      simp only [runV] at hrr
      have HRR := Lib.hid hrr
      have HB1 := Lib.hid hb1
      have HB2 := Lib.hid hb2
      have HB3 := Lib.hid hb3
      clear hrr hb1 hb2 hb3
      go_wp2_with fail
      refine HRR.out.mono ?_
      rintro en w2 ⟨rfl, hr2, hk2⟩
      have hk2' : Chg (fun i => i = g) wr w2 := Chg.of_only hk2 (fun i hi => (Option.some.inj hi).symm)
      have hc2 := hS.out.chg.trans' hk2'
      have ho2 := ownK_chg hOw hk2' (fun i hi e => by have := ownK_base hOw i hi; omega)
      have hsz2 := hc2.size
      go_upto_region 4 with (fail)
      refine name_wp (fun w3 => Blk w3 w2.heap.size 34 (runV x) ∧ Below w2.heap.size w2 w3) ⟨Blk.new _ _ _, alloc_below' _ _⟩ ?_
      rintro w3 ⟨hB3, hb3⟩
      have HR3 := Lib.hid (hr2.below hb3)
      have HO3 := Lib.hid (ownK_below ho2 hb3)
      have HC3 := Lib.hid (hc2.trans' (Chg.of_below hb3))
      have HB3' := Lib.hid hB3
      have HOff : Hid (∀ i, (Value.slice V K e).ownBlock = some i → i ≠ w2.heap.size) := fun i hi => Nat.ne_of_lt (ownK_lt ho2 i hi)
      have hz3 := hB3.lt
      obtain ⟨y0, y1, y2, y3, y4⟩ := fiveB hB3
      clear hr2 hk2 hk2' hc2 ho2 hS hOw HRR hB3 hb3
      generalize w2.heap.size = z at *
      clear wr
      by_cases x0 : x.1 = 0
      · have f0 : (x.1 == 0) = true := by simpa using x0
        have HBAD := Lib.hid (HB1.out (by simp [badR, x0]))
        clear x0
        go_wp2_with fail
        refine (rfail_c g D s1 6 w3 HR3.out (by decide)).mono ?_
        rintro en w7 ⟨⟨v7, rfl⟩, hr7, hk7⟩
        have HR7 := Lib.hid (rerr_c g D (failR s1 6) w7 hr7)
        have hne : ((failR s1 6).2 != 0) = true := by rw [bne_iff_ne]; exact failR_ne s1
        go_wp2_with fail
        refine HR7.out.mono ?_
        rintro en w8 ⟨rfl, rfl⟩
        go_wp2
        go_ret
        have hfin := HBAD.out
        rw [hres.out] at hfin
        refine ⟨none, 0, 0, rfl, ?_, (fun ad e => by cases e), ?_, ?_⟩
        · rw [hfin]
          exact .nil (by simp [maxLen])
        · rw [hfin]
          exact hr7
        · exact HC3.out.trans' (Chg.of_only hk7 (fun i hi => (Option.some.inj hi).symm))
      · have f0 : (x.1 == 0) = false := by simpa using x0
        by_cases x1 : m < x.1
        · have f1 : decide (m < x.1) = true := by simpa using x1
          have HBAD := Lib.hid (HB1.out (by simp [badR, x1]))
          clear x0 x1
          go_wp2_with fail
          refine (rfail_c g D s1 6 w3 HR3.out (by decide)).mono ?_
          rintro en w7 ⟨⟨v7, rfl⟩, hr7, hk7⟩
          have HR7 := Lib.hid (rerr_c g D (failR s1 6) w7 hr7)
          have hne : ((failR s1 6).2 != 0) = true := by rw [bne_iff_ne]; exact failR_ne s1
          go_wp2_with fail
          refine HR7.out.mono ?_
          rintro en w8 ⟨rfl, rfl⟩
          go_wp2
          go_ret
          have hfin := HBAD.out
          rw [hres.out] at hfin
          refine ⟨none, 0, 0, rfl, ?_, (fun ad e => by cases e), ?_, ?_⟩
          · rw [hfin]
            exact .nil (by simp [maxLen])
          · rw [hfin]
            exact hr7
          · exact HC3.out.trans' (Chg.of_only hk7 (fun i hi => (Option.some.inj hi).symm))
        · have f1 : decide (m < x.1) = false := by simpa using x1
          have HCR := fun W => right_c x.2 W
          cases hok : okC x.2
          · rw [hok] at HCR
            simp only [cellV] at HCR
            have HCR' := Lib.hid HCR
            have HBAD := Lib.hid (HB1.out (by simp [badR, hok]))
            clear HCR x0 x1 hok
            go_wp2_with fail
            refine (HCR'.out _).mono ?_
            rintro en w4 ⟨rfl, hb4⟩
            have HR4 := Lib.hid (HR3.out.below hb4)
            have HC4 := Lib.hid (HC3.out.trans' (Chg.of_below hb4))
            clear hb4
            go_wp2_with fail
            refine (rfail_c g D s1 6 w4 HR4.out (by decide)).mono ?_
            rintro en w7 ⟨⟨v7, rfl⟩, hr7, hk7⟩
            have HR7 := Lib.hid (rerr_c g D (failR s1 6) w7 hr7)
            have hne : ((failR s1 6).2 != 0) = true := by rw [bne_iff_ne]; exact failR_ne s1
            go_wp2_with fail
            refine HR7.out.mono ?_
            rintro en w8 ⟨rfl, rfl⟩
            go_wp2
            go_ret
            have hfin := HBAD.out
            rw [hres.out] at hfin
            refine ⟨none, 0, 0, rfl, ?_, (fun ad e => by cases e), ?_, ?_⟩
            · rw [hfin]
              exact .nil (by simp [maxLen])
            · rw [hfin]
              exact hr7
            · exact HC4.out.trans' (Chg.of_only hk7 (fun i hi => (Option.some.inj hi).symm))
          · rw [hok] at HCR
            simp only [cellV] at HCR
            have HCR' := Lib.hid HCR
            have Hok := Lib.hid hok
            clear HCR hok
            go_wp2_with fail
            refine (HCR'.out _).mono ?_
            rintro en w4 ⟨rfl, hb4⟩
            have HR4 := Lib.hid (HR3.out.below hb4)
            have HC4 := Lib.hid (HC3.out.trans' (Chg.of_below hb4))
            have hO4 := ownK_below HO3.out hb4
            have hB4 := HB3'.out.below hb4 hz3
            obtain ⟨u0, u1, u2, u3, u4⟩ := fiveB hB4
            obtain ⟨V', e', eV', hRS⟩ := ReadsS.of_own length_runV (by decide) hO4
            cases eV'
            have HCC := continues_c V K e acc x w4 hRS
            have HO4 := Lib.hid hO4
            have HB4 := Lib.hid hB4
            have hz4 := hB4.lt
            clear hb4 hO4 hB4 hRS y0 y1 y2 y3 y4
            cases hcon : decide (lastC none acc = some x.2)
            · rw [hcon] at HCC
              simp only [runV] at HCC
              have HCC' := Lib.hid HCC
              have HNB : Hid (badR m acc x = false) := by show _ = _; simp only [badR, f0, f1, Hok.out, hcon]; rfl
              clear HCC hcon
              go_wp2_with fail
              refine HCC'.out.mono ?_
              rintro en w5 ⟨rfl, hb5⟩
              have HR5 := Lib.hid (HR4.out.below hb5)
              have HC5 := Lib.hid (HC4.out.trans' (Chg.of_below hb5))
              have HO5 := Lib.hid (ownK_below HO4.out hb5)
              have hB5 := HB4.out.below hb5 hz4
              obtain ⟨q0, q1, q2, q3, q4⟩ := fiveB hB5
              have HB5 := Lib.hid hB5
              clear hb5 hB5 u0 u1 u2 u3 u4
              have HE5 := Lib.hid (rerr_c g D s1 w5 HR5.out)
              go_wp2_with fail
              refine HE5.out.mono ?_
              rintro en w6 ⟨rfl, rfl⟩
              by_cases hs1 : s1.2 = 0
              · have f2 : (s1.2 != 0) = false := by simpa using hs1
                have HNX := Lib.hid (HB3.out hs1 HNB.out)
                have hx1 : 0 < x.1 := by omega
                have hxm : x.1 ≤ m := by omega
                clear hs1 x0 x1
                go_wp2_with (at_builtin; refine wpList_app1 length_runV one_runV (by decide) rfl (.tmp 36) (.tmp 38) 31 rfl w.heap.size 34 i0 _ 40 Try.underlying31 hi hz0 hz1 hz2 rfl (.slice V K e) K acc rfl (ownK_below HO5.out (alloc_below' _ _)) x _ _ rfl (Blk.new _ _ _) (by unfold maxLen; omega) (by omega) (by have := HC5.out.size; simp; omega) ?_; intro A1 c1 w6 ho6 hg6 hat6; have hB6 := (HB5.out.alloc _).grown hg6 (fun e => HOff.out z e.symm rfl); obtain ⟨t0, t1, t2, t3, t4⟩ := fiveB hB6)
                go_roundw
                case rel =>
                  refine ⟨k, m - x.1, acc ++ [x], s1, ?_, by omega, by omega, by omega, ?_, ⟨by rw [List.length_append, hK.out]; exact ho6, ?_, ?_⟩, ?_⟩
                  · rfl
                  · exact Lib.hid (HNX.out.symm.trans hres.out)
                  · refine (HR5.out.below (alloc_below' _ _)).chg (F := fun i => (Value.slice V K e).ownBlock = some i) (Chg.of_only hg6 (fun i hi => hi)) ?_ ?_
                    · intro e
                      have := ownK_base HO5.out _ e
                      omega
                    · intro i hi e
                      have h1 := ownK_base HO5.out _ e
                      have h2 := HD.out i hi
                      omega
                  · exact (HC5.out.trans' (Chg.of_below (alloc_below' _ _))).trans (Chg.of_only hg6 (fun i hi => .inr (ownK_base HO5.out i hi)))
                  · obtain ⟨h1, h2, h3⟩ := hA.out
                    refine Lib.hid ⟨?_, ?_, ?_⟩
                    · rw [cellsL_snoc, List.length_append, List.length_append, List.length_replicate]
                      simp only [List.length_cons, List.length_nil]
                      omega
                    · rw [cellsL_snoc, List.length_append, List.length_replicate]
                      omega
                    · intro y hy
                      rcases List.mem_append.1 hy with hy | hy
                      · exact h3 y hy
                      · simp only [List.mem_singleton] at hy
                        subst hy
                        omega
                case measure => simp [intOf]; omega
              · have f2 : (s1.2 != 0) = true := by simpa using hs1
                have hfin := HB2.out hs1
                rw [hres.out] at hfin
                have HF := Lib.hid hfin
                clear hfin hs1
                go_wp2
                go_ret
                refine ⟨none, 0, 0, rfl, ?_, (fun ad e => by cases e), ?_, HC5.out⟩
                · rw [HF.out]
                  exact .nil (by simp [maxLen])
                · rw [HF.out]
                  exact HR5.out
            · rw [hcon] at HCC
              simp only [runV] at HCC
              have HCC' := Lib.hid HCC
              have HBAD := Lib.hid (HB1.out (by simp only [badR, hcon, Bool.or_true]))
              clear HCC hcon x0 x1
              go_wp2_with fail
              refine HCC'.out.mono ?_
              rintro en w5 ⟨rfl, hb5⟩
              have HR5 := Lib.hid (HR4.out.below hb5)
              have HC5 := Lib.hid (HC4.out.trans' (Chg.of_below hb5))
              clear hb5
              go_wp2_with fail
              refine (rfail_c g D s1 6 w5 HR5.out (by decide)).mono ?_
              rintro en w7 ⟨⟨v7, rfl⟩, hr7, hk7⟩
              have HR7 := Lib.hid (rerr_c g D (failR s1 6) w7 hr7)
              have hne : ((failR s1 6).2 != 0) = true := by rw [bne_iff_ne]; exact failR_ne s1
              go_wp2_with fail
              refine HR7.out.mono ?_
              rintro en w8 ⟨rfl, rfl⟩
              go_wp2
              go_ret
              have hfin := HBAD.out
              rw [hres.out] at hfin
              refine ⟨none, 0, 0, rfl, ?_, (fun ad e => by cases e), ?_, ?_⟩
              · rw [hfin]
                exact .nil (by simp [maxLen])
              · rw [hfin]
                exact hr7
              · exact HC5.out.trans' (Chg.of_only hk7 (fun i hi => (Option.some.inj hi).symm))
    · have hmd : decide (0 < m) = false := by rw [decide_eq_false_iff_not]; exact hpos
      have hfin := readC_end k m acc st (by omega)
      rw [hres.out] at hfin
      obtain ⟨V', e', eV', hRS⟩ := ReadsS.of_own length_runV (by decide) hS.out.own
      cases eV'
      obtain ⟨h1, h2, h3⟩ := hA.out
      have HCC := Lib.hid (cells_c V acc.length e acc wr hRS h3 (by omega))
      have HF := Lib.hid hfin
      clear hRS h1 h2 h3 hfin
      obtain ⟨K, hK⟩ : ∃ K, Hid (acc.length = K) := ⟨_, Lib.hid rfl⟩
      rw [hK.out] at HCC ⊢
      go_wp2_with fail
      refine HCC.out.mono ?_
      rintro en w2 ⟨v, rfl, hM2⟩
      obtain ⟨V2, e2, rfl, hR2⟩ := ReadsS.of_own length_cellV (by decide) hM2.own
      go_wp2
      go_ret
      refine ⟨V2, _, e2, rfl, ?_, fun ad ea => ?_, ?_, ?_⟩
      · rw [HF.out]
        exact hR2
      · subst ea
        exact Nat.le_trans hS.out.chg.size (ownK_base hM2.own _ rfl)
      · rw [HF.out]
        exact hS.out.rd.below hM2.bel
      · exact hS.out.chg.trans' (Chg.of_below hM2.bel)
end Go.Proofs.Ytbmnpbmimhodbaa
