/- The walk through TabsMoves: for every row, stops, column and number it returns true and leaves old memory as it was. Conditions: none. -/
import Derived.Test.YtdjpeopjfhoglaaAwake11
import Derived.Test.YtdjpeopjfhoglaaTabsD
import Derived.Test.YtdjpeopjfhoglaaOpen3
namespace Go.Proofs.Ytdjpeopjfhoglaa.tabsMoves
open Go.ChangeShapes Go.WideShapes Go.RowKit
theorem onP_lt {n : Nat} (p : Nat → Bool) : ∀ (k c : Nat), c < n → onP n p c k < n
  | 0, _, h => h
  | k + 1, c, h => by rw [onP_succ]; exact onP_lt p k _ (nxP_lt p h)
theorem onP_snoc (n : Nat) (p : Nat → Bool) : ∀ (k c : Nat), nxP n p (onP n p c k) = onP n p c (k + 1)
  | 0, c => (onP_succ n p c 0).symm
  | k + 1, c => by rw [onP_succ, onP_snoc n p k, onP_succ n p c]
theorem upP_lt {n : Nat} (p : Nat → Bool) : ∀ (k c : Nat), c < n → upP p c k < n
  | 0, _, h => h
  | k + 1, c, h => by rw [upP_succ]; exact upP_lt p k _ (bkP_lt p h)
theorem upP_snoc (p : Nat → Bool) : ∀ (k c : Nat), bkP p (upP p c k) = upP p c (k + 1)
  | 0, c => (upP_succ p c 0).symm
  | k + 1, c => by rw [upP_succ, upP_snoc p k, upP_succ p c]
/-- The loop's: the stops and the document's row are alike, in memory of the call's own. -/
structure Pl (w wr : World) (g : Nat) (F : Nat → Prop) (m : Nat) (p : Nat → Bool) (A : Option Addr) (k : Nat) : Prop where
  at_ : TAt wr g F m p
  own : ∀ i, F i → i < wr.heap.size ∧ w.heap.size ≤ i
  row : ReadsB wr A m k p
  off : ∀ ad, A = some ad → ¬ F ad.block
  bel : Below w.heap.size w wr
set_option maxRecDepth 100000 in
set_option maxHeartbeats 12800000 in
theorem walk (a : Int) (A : Option Addr) (n k : Nat) (l : List Int) (x y : Int) (w : World) (_ : (Lit.int .i64 a).wf = true) (hr : ReadsI .i64 w A n k l) (_ : (Lit.int .i64 x).wf = true) (_ : (Lit.int .i64 y).wf = true) :
    Calls Try.prog 4 #[.int .i64 a, .slice A n k, .agg #[.int .i64 x, .int .i64 y]] w fun e w' => e = .returned (.bool true) ∧ Below w.heap.size w w' := by
  have HR := Lib.hid hr
  have HLen := Lib.hid hr.len
  clear hr
  by_cases hsk : 1 ≤ a ∧ a ≤ 132 ∧ n ≤ 30
  rotate_left
  · have e : (decide (a < 1) = true ∧ decide (a < 1) = true ∧ decide (a < 1) = true) ∨ (decide (a < 1) = false ∧ decide ((132 : Int) < a) = true ∧ decide ((132 : Int) < a) = true) ∨ (decide (a < 1) = false ∧ decide ((132 : Int) < a) = false ∧ decide ((30 : Int) < (n : Int)) = true) := by
      by_cases h1 : a < 1
      · exact .inl ⟨decide_eq_true h1, decide_eq_true h1, decide_eq_true h1⟩
      · by_cases h2 : (132 : Int) < a
        · exact .inr (.inl ⟨decide_eq_false h1, decide_eq_true h2, decide_eq_true h2⟩)
        · exact .inr (.inr ⟨decide_eq_false h1, decide_eq_false h2, decide_eq_true (by omega)⟩)
    clear hsk
    rcases e with ⟨d1, d2, d3⟩ | ⟨d1, d2, d3⟩ | ⟨d1, d2, d3⟩
    all_goals
      go_enter Try.func4, Try.ntmps4
      go_upto_region 1 with (fail)
      refine name_wp (fun w1 => Below w.heap.size w w1) (belAlloc _ _) ?_
      intro w0 hb0
      go_wp2_with fail
      refine (awake11_c w0).mono ?_
      rintro en w1 ⟨rfl, hb1⟩
      have HB1 := Lib.hid (hb0.trans (hb1.mono hb0.size))
      clear hb1 hb0
      go_wp2
      go_ret
      exact ⟨rfl, HB1.out⟩
  obtain ⟨hC1, hC2, hn30⟩ := hsk
  obtain ⟨C, rfl⟩ : ∃ C : Nat, a = C := ⟨a.toNat, by omega⟩
  have d1 : decide ((C : Int) < 1) = false := by simp; omega
  have d2 : decide ((132 : Int) < (C : Int)) = false := by simp; omega
  have d3 : decide ((30 : Int) < (n : Int)) = false := by simp; omega
  go_enter Try.func4, Try.ntmps4
  go_upto_region 1 with (fail)
  obtain ⟨z, hz⟩ : ∃ z, Hid (w.heap.size = z) := ⟨_, rfl⟩
  rw [hz.out]
  refine name_wp (fun w1 => Blk w1 z 37 [.int .i64 x, .int .i64 y] ∧ Below w.heap.size w w1) ⟨by rw [← hz.out]; exact Blk.new _ _ _, belAlloc _ _⟩ ?_
  rintro w0 ⟨hz0, hb0⟩
  have HZ := Lib.hid hz0
  have HB0 := Lib.hid hb0
  have HR0 := Lib.hid (HR.out.keep hb0)
  clear hz0 hb0 HR
  go_wp2_with fail
  refine (awake11_c w0).mono ?_
  rintro en w1 ⟨rfl, hb1⟩
  have HB1 := Lib.hid hb1
  clear hb1
  go_wp2_with fail
  refine (newT_c (C : Int) w1).mono ?_
  rintro en w2 (⟨ha1, ha2, ⟨g, rfl, ht⟩, hb2⟩ | ⟨hno, rfl, hb2⟩)
  rotate_left
  · exact absurd ⟨hC1, hC2⟩ hno
  replace hC1 : 1 ≤ C := by omega
  replace hC2 : C ≤ 132 := by omega
  rw [show ((C : Int)).toNat = C by omega] at ht
  have HT2 : Hid (TAt w2 g (newT w0) C newP) := ht.mono (fun i hi => Nat.le_trans HB1.out.size hi)
  have HB2 := Lib.hid (HB1.out.trans (hb2.mono HB1.out.size))
  clear ht hb2 HB1 ha1 ha2
  go_wp2_with fail
  refine (refNew_c C w2 hC2).mono ?_
  rintro en w3 ⟨v, rfl, hm3⟩
  obtain ⟨A3, c3, rfl⟩ := own_form hm3.1
  have HP3 : Hid (Pl w0 w3 g (fun i => newT w0 i ∧ i < w2.heap.size) C newP A3 c3) := ⟨HT2.out.clip.below hm3.2, fun i hi => ⟨Nat.lt_of_lt_of_le hi.2 hm3.2.size, hi.1⟩, own_readsB hm3.1, fun ad e hi => by
    have := own_base hm3.1 ad.block (by rw [e]; rfl)
    have := hi.2
    omega, HB2.out.trans (hm3.2.mono HB2.out.size)⟩
  clear hm3 d1 d2 d3 HB2 HT2
  go_upto_region 10 with (fail)
  go_loopw [9, 10] (fun v i wr => ∃ (j kk : Nat) (A7 : Option Addr) (F : Nat → Prop) (p : Nat → Bool), j ≤ n ∧ i = .int .i64 j ∧ v = .slice A7 C kk ∧ Hid (Pl w0 wr g F C p A7 kk)) (fun _ i _ => n - (intOf i).toNat)
  case atStart => exact ⟨0, c3, A3, _, newP, Nat.zero_le _, rfl, rfl, HP3⟩
  case round =>
    obtain ⟨j, kk, A7, F, p, hj, rfl, rfl, HP⟩ := hrel
    clear HP3
    by_cases hlt : j < n
    · have hlt2 : (j : Int) < (n : Int) := by omega
      have hj0 : (0 : Int) ≤ (j : Int) := by omega
      have hjl : j < l.length := by rw [HLen.out]; exact hlt
      obtain ⟨ad, rfl, _, hca⟩ := (HR0.out.keep HP.out.bel).cell j hjl
      obtain ⟨u, HX⟩ : ∃ x, Hid (l[j] = x) := ⟨l[j], rfl⟩
      rw [HX.out] at hca
      obtain ⟨r, hr⟩ : ∃ r : Nat, j % 2 = r := ⟨_, rfl⟩
      have hrem : (j : Int).tmod 2 = (r : Int) := by rw [Int.tmod_eq_emod_of_nonneg (by omega)]; omega
      have hr2 : Hid ((r : Int) = 0 ∨ (r : Int) = 1) := by show _ ∨ _; omega
      have HD := Lib.hid (do_c (n := C) (k := kk) (r : Int) u HP.out.at_ (fun i hi => (HP.out.own i hi).1) HP.out.row HP.out.off)
      simp only [topV] at HD
      clear hr
      go_wp2_with fail
      refine HD.out.mono ?_
      rintro en w4 ⟨m', p', F', A', k', rfl, ht4, hF4, hr4, hA4, hc4, hm⟩
      obtain rfl := hm hr2.out
      have HP4 : Hid (Pl w0 w4 g F' m' p' A' k') := ⟨ht4, fun i hi => ⟨(hF4 i hi).1, (hF4 i hi).2.elim (fun h => (HP.out.own i h).2) (fun h => Nat.le_trans HP.out.bel.size h)⟩, hr4, hA4, hc4.below HP.out.bel HP.out.bel.size (fun i hi => (HP.out.own i hi).2)⟩
      clear ht4 hF4 hr4 hA4 hc4 hca hm
      go_wp2
      go_roundw
      case rel => exact ⟨j + 1, k', A', F', p', by omega, by go_num, rfl, HP4⟩
      case measure => simp [intOf]; omega
    · have hlt2 : ¬ (j : Int) < (n : Int) := by omega
      have hzb := HZ.out.below HP.out.bel HZ.out.lt
      have b0 : wr.cell? ⟨z, 0, none⟩ = some (.int .i64 x) := hzb.cell 0
      have b1 : wr.cell? ⟨z, 1, none⟩ = some (.int .i64 y) := hzb.cell 1
      have hcl := cl_eq (n := C) x hC1
      have hlc := cl_lt (n := C) x hC1
      have HN := Lib.hid (fun W (e : W.heap = wr.heap) => next_c g F C p x y W (HP.out.at_.of_heap e))
      have HK := Lib.hid (fun W (e : W.heap = wr.heap) => back_c g F C p x y W (HP.out.at_.of_heap e))
      generalize cl C x = c at *
      clear hzb
      go_upto_region 13 with (fail)
      go_quiet (fail)
      go_upto_region 16 with (fail)
      refine name_wp (fun w6 => w6.heap = wr.heap ∧ Below w0.heap.size w0 w6) ⟨rfl, belowDrewN HP.out.bel _⟩ ?_
      rintro w6 ⟨h6, hb6⟩
      have HN6 := Lib.hid (HN.out w6 h6)
      have HK6 := Lib.hid (fun W (e : W.heap = w6.heap) => HK.out W (e.trans h6))
      have HR6 := Lib.hid (HP.out.row.of_heap h6)
      have HB6 := Lib.hid hb6
      have hz6 := (HZ.out.below hb6 HZ.out.lt)
      clear b0 b1
      have b0 : w6.cell? ⟨z, 0, none⟩ = some (.int .i64 x) := hz6.cell 0
      have b1 : w6.cell? ⟨z, 1, none⟩ = some (.int .i64 y) := hz6.cell 1
      clear h6 hb6 hz6 hcl
      go_loopw [13, 14, 15] (fun s t i wr2 => ∃ q : Nat, q ≤ 200 ∧ (q : Int) ≤ max y 0 ∧ i = .int .i64 q ∧ s = .int .i64 ((onP C p c q : Nat) : Int) ∧ t = .int .i64 ((upP p c q : Nat) : Int) ∧ w6 = wr2) (fun _ _ i _ => 200 - (intOf i).toNat)
      case atStart => exact ⟨0, by omega, by omega, rfl, rfl, rfl, by trivial⟩
      case round =>
        obtain ⟨q, hq, hqy, rfl, rfl, rfl, rfl⟩ := hrel
        have l1 := onP_lt p q c hlc
        have l2 := upP_lt p q c hlc
        by_cases hgo : (q : Int) < y ∧ q < 200
        · obtain ⟨t1, t2⟩ := hgo
          have t1' : decide ((q : Int) < y) = true := by simpa using t1
          have t2' : decide ((q : Int) < 200) = true ∧ decide (q < 200) = true := ⟨by simp; omega, by simp; omega⟩
          obtain ⟨t2a, t2b⟩ := t2'
          have HF1 := Lib.hid (refNext_c A7 C kk p (onP C p c q) w6 HR6.out hC2 l1)
          have HF2 := Lib.hid (refBack_c A7 C kk p (upP p c q) w6 HR6.out hC2 l2)
          rw [onP_snoc] at HF1
          rw [upP_snoc] at HF2
          clear l1 l2
          generalize onP C p c q = X at *
          generalize upP p c q = Y at *
          obtain ⟨X2, hX2⟩ : ∃ X2, Hid (onP C p c (q + 1) = X2) := ⟨_, Lib.hid rfl⟩
          obtain ⟨Y2, hY2⟩ : ∃ Y2, Hid (upP p c (q + 1) = Y2) := ⟨_, Lib.hid rfl⟩
          rw [hX2.out] at HF1
          rw [hY2.out] at HF2
          go_wp2_with fail
          refine HF1.out.mono ?_
          rintro en w7 ⟨rfl, rfl⟩
          go_wp2_with fail
          refine HF2.out.mono ?_
          rintro en w7 ⟨rfl, rfl⟩
          go_wp2
          go_roundw
          case rel => exact ⟨q + 1, by omega, by omega, by go_num, by rw [hX2.out], by rw [hY2.out], by trivial⟩
          case measure => simp [intOf]; omega
        · have e1 : onP C p c y.toNat = onP C p c q := by
            by_cases h : (q : Int) < y
            · exact onP_many p hlc (by omega) (by omega)
            · rw [show y.toNat = q by omega]
          have e2 : upP p c y.toNat = upP p c q := by
            by_cases h : (q : Int) < y
            · exact upP_many p hlc (by omega) (by omega)
            · rw [show y.toNat = q by omega]
          have t : (decide ((q : Int) < y) = false ∧ decide ((q : Int) < y) = false ∧ decide ((q : Int) < y) = false) ∨ (decide ((q : Int) < y) = true ∧ decide ((q : Int) < 200) = false ∧ decide (q < 200) = false) := by
            by_cases h : (q : Int) < y
            · exact .inr ⟨decide_eq_true h, decide_eq_false (by omega), decide_eq_false (by omega)⟩
            · exact .inl ⟨decide_eq_false h, decide_eq_false h, decide_eq_false h⟩
          rw [e1] at HN6
          rw [e2] at HK6
          clear hgo l1 l2 e1 e2 hqy
          generalize onP C p c q = X at *
          generalize upP p c q = Y at *
          rcases t with ⟨t1, t2, t3⟩ | ⟨t1, t2, t3⟩
          all_goals
            go_wp2_with fail
            refine HN6.out.mono ?_
            rintro en w7 ⟨rfl, q7, rfl⟩
            go_wp2_with fail
            refine (HK6.out (w6.drewN q7) rfl).mono ?_
            rintro en w7 ⟨rfl, q8, rfl⟩
            go_wp2
            go_ret
            exact ⟨rfl, HB0.out.trans ((belowDrewN HB6.out (q7 + q8)).mono HB0.out.size)⟩
end Go.Proofs.Ytdjpeopjfhoglaa.tabsMoves
