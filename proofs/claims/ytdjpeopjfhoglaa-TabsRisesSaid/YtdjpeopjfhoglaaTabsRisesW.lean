/- The walk through TabsRises: for every row, stops and column it returns true and leaves old memory as it was. Conditions: none. -/
import Derived.Test.YtdjpeopjfhoglaaAwake11
import Derived.Test.YtdjpeopjfhoglaaOpen3
import Derived.Deep.DeepCutAuto
namespace Go.Proofs.Ytdjpeopjfhoglaa.tabsRises
open Go.ChangeShapes Go.WideShapes Go.RowKit
theorem nx_ge {n c : Nat} (p : Nat → Bool) (h : c < n) : c < nxP n p c ∨ (nxP n p c = c ∧ c = n - 1) := by
  unfold nxP
  cases e : stpR (c + 1) n p with
  | nil => show c < n - 1 ∨ (n - 1 = c ∧ c = n - 1); omega
  | cons x t =>
    have := (stpR_mem.1 (show x ∈ stpR (c + 1) n p by rw [e]; exact List.mem_cons_self)).1.1
    exact .inl (show c < x by omega)
theorem nx_at {n c : Nat} (p : Nat → Bool) : nxP n p c = n - 1 ∨ nxP n p c ∈ stp n p := by
  unfold nxP
  cases e : stpR (c + 1) n p with
  | nil => exact .inl rfl
  | cons x t =>
    have := stpR_mem.1 (show x ∈ stpR (c + 1) n p by rw [e]; exact List.mem_cons_self)
    exact .inr (stp_mem.2 ⟨this.1.2, this.2⟩)
theorem nx_near {n c e : Nat} (p : Nat → Bool) (he : e ∈ stp n p) (hc : c < e) : nxP n p c ≤ e := by
  have hm := stp_mem.1 he
  have hr : e ∈ stpR (c + 1) n p := stpR_mem.2 ⟨⟨hc, hm.1⟩, hm.2⟩
  unfold nxP
  cases e1 : stpR (c + 1) n p with
  | nil => rw [e1] at hr; cases hr
  | cons x t =>
    show x ≤ e
    rw [e1] at hr
    rcases List.mem_cons.1 hr with h | h
    · omega
    · have hs : (stpR (c + 1) n p).Pairwise (· < ·) := List.Pairwise.filter _ List.pairwise_lt_range'
      rw [e1] at hs
      exact Nat.le_of_lt ((List.pairwise_cons.1 hs).1 e h)
theorem bk_le {c : Nat} (p : Nat → Bool) : bkP p c < c ∨ (bkP p c = c ∧ c = 0) := by
  unfold bkP
  rcases List.eq_nil_or_concat (stp c p) with e | ⟨t, x, e⟩
  · rw [e]
    show 0 < c ∨ (0 = c ∧ c = 0)
    omega
  · rw [List.concat_eq_append] at e
    have := stp_mem.1 (show x ∈ stp c p by rw [e]; simp)
    rw [e, List.getLastD_concat]
    exact .inl this.1
theorem bk_at {n c : Nat} (p : Nat → Bool) (hc : c < n) : bkP p c = 0 ∨ bkP p c ∈ stp n p := by
  unfold bkP
  rcases List.eq_nil_or_concat (stp c p) with e | ⟨t, x, e⟩
  · rw [e]
    exact .inl rfl
  · rw [List.concat_eq_append] at e
    have := stp_mem.1 (show x ∈ stp c p by rw [e]; simp)
    rw [e, List.getLastD_concat]
    exact .inr (stp_mem.2 ⟨by omega, this.2⟩)
theorem bk_near {n c e : Nat} (p : Nat → Bool) (he : e ∈ stp n p) (hc : e < c) : e ≤ bkP p c := by
  have hm := stp_mem.1 he
  have hr : e ∈ stp c p := stp_mem.2 ⟨hc, hm.2⟩
  unfold bkP
  rcases List.eq_nil_or_concat (stp c p) with e1 | ⟨t, x, e1⟩
  · rw [e1] at hr; cases hr
  · rw [List.concat_eq_append] at e1
    have hs := stp_sorted c p
    rw [e1] at hr hs
    rw [e1, List.getLastD_concat]
    rcases List.mem_append.1 hr with h | h
    · exact Nat.le_of_lt ((List.pairwise_append.1 hs).2.2 e h x (List.mem_singleton.2 rfl))
    · rw [List.mem_singleton.1 h]
      exact Nat.le_refl _
/-- Has the place been met among the first i? -/
def metB (base : Bool) (X : Nat) (L : List Nat) (i : Nat) : Bool := base || decide (X ∈ L.take i)
theorem met_succ (base : Bool) (X : Nat) (L : List Nat) (i : Nat) (h : i < L.length) : metB base X L (i + 1) = (metB base X L i || decide (L[i] = X)) := by
  unfold metB
  rw [List.take_succ_eq_append_getElem h, Bool.or_assoc]
  generalize L.take i = T
  generalize L[i] = e
  congr 1
  by_cases h1 : X ∈ T
  · rw [decide_eq_true h1, decide_eq_true (List.mem_append_left _ h1)]; rfl
  · by_cases h2 : e = X
    · rw [decide_eq_true h2, decide_eq_true (List.mem_append_right _ (by rw [h2]; simp)), Bool.or_true]
    · rw [decide_eq_false h1, decide_eq_false h2, decide_eq_false (fun h => (List.mem_append.1 h).elim h1 (fun h => h2 (List.mem_singleton.1 h).symm))]; rfl
set_option maxRecDepth 100000 in
set_option maxHeartbeats 12800000 in
theorem walk (a : Int) (A : Option Addr) (n k : Nat) (l : List Int) (x : Int) (w : World) (_ : (Lit.int .i64 a).wf = true) (hr : ReadsI .i64 w A n k l) (_ : (Lit.int .i64 x).wf = true) :
    Calls Try.prog 5 #[.int .i64 a, .slice A n k, .int .i64 x] w fun e w' => e = .returned (.bool true) ∧ Below w.heap.size w w' := by
  have HR := Lib.hid hr
  have HLen := Lib.hid hr.len
  clear hr
  by_cases g0 : 1 ≤ a
  rotate_left
  · have d0 : decide (a < 1) = true := by simp; omega
    clear g0
    go_enter Try.func5, Try.ntmps5
    go_wp2_with fail
    refine (awake11_c w).mono ?_
    rintro en w1 ⟨rfl, hb1⟩
    have HB1 := Lib.hid hb1
    clear hb1
    go_wp2
    go_ret
    exact ⟨rfl, HB1.out⟩
  have d0 : decide (a < 1) = false := by simp; omega
  by_cases g1 : a ≤ 132
  rotate_left
  · have d1 : decide ((132 : Int) < a) = true := by simp; omega
    clear g1
    go_enter Try.func5, Try.ntmps5
    go_wp2_with fail
    refine (awake11_c w).mono ?_
    rintro en w1 ⟨rfl, hb1⟩
    have HB1 := Lib.hid hb1
    clear hb1
    go_wp2
    go_ret
    exact ⟨rfl, HB1.out⟩
  have d1 : decide ((132 : Int) < a) = false := by simp; omega
  by_cases g2 : n ≤ 30
  rotate_left
  · have d2 : decide ((30 : Int) < (n : Int)) = true := by simp; omega
    clear g2
    go_enter Try.func5, Try.ntmps5
    go_wp2_with fail
    refine (awake11_c w).mono ?_
    rintro en w1 ⟨rfl, hb1⟩
    have HB1 := Lib.hid hb1
    clear hb1
    go_wp2
    go_ret
    exact ⟨rfl, HB1.out⟩
  have d2 : decide ((30 : Int) < (n : Int)) = false := by simp; omega
  by_cases g3 : 0 ≤ x
  rotate_left
  · have d3 : decide (x < 0) = true := by simp; omega
    clear g3
    go_enter Try.func5, Try.ntmps5
    go_wp2_with fail
    refine (awake11_c w).mono ?_
    rintro en w1 ⟨rfl, hb1⟩
    have HB1 := Lib.hid hb1
    clear hb1
    go_wp2
    go_ret
    exact ⟨rfl, HB1.out⟩
  have d3 : decide (x < 0) = false := by simp; omega
  by_cases g4 : x < a
  rotate_left
  · have d4 : decide (a ≤ x) = true := by simp; omega
    clear g4
    go_enter Try.func5, Try.ntmps5
    go_wp2_with fail
    refine (awake11_c w).mono ?_
    rintro en w1 ⟨rfl, hb1⟩
    have HB1 := Lib.hid hb1
    clear hb1
    go_wp2
    go_ret
    exact ⟨rfl, HB1.out⟩
  have d4 : decide (a ≤ x) = false := by simp; omega
  obtain ⟨C, rfl⟩ : ∃ C : Nat, a = C := ⟨a.toNat, by omega⟩
  obtain ⟨c, rfl⟩ : ∃ c : Nat, x = c := ⟨x.toNat, by omega⟩
  have hcC : c < C := by omega
  have hC2 : C ≤ 132 := by omega
  have hC1 : 1 ≤ C := by omega
  have hn30 : n ≤ 30 := g2
  clear g0 g1 g2 g3 g4
  go_enter Try.func5, Try.ntmps5
  go_wp2_with fail
  refine (awake11_c w).mono ?_
  rintro en w1 ⟨rfl, hb1⟩
  have HB1 := Lib.hid hb1
  clear hb1
  go_wp2_with fail
  refine (newT_c (C : Int) w1).mono ?_
  rintro en w2 (⟨_, _, ⟨g, rfl, ht⟩, hb2⟩ | ⟨hno, _⟩)
  rotate_left
  · exact absurd ⟨by omega, by omega⟩ hno
  rw [show ((C : Int)).toNat = C by omega] at ht
  have HT2 : Hid (TAt w2 g (newT w) C newP) := ht.mono (fun i hi => Nat.le_trans HB1.out.size hi)
  have HB2 := Lib.hid (HB1.out.trans (hb2.mono HB1.out.size))
  clear ht hb2 HB1
  go_upto_region 9 with (fail)
  go_loopw [9] (fun i wr => ∃ (j : Nat) (p : Nat → Bool), j ≤ n ∧ i = .int .i64 j ∧ Hid (TAt wr g (newT w) C p) ∧ Hid (Below w.heap.size w wr)) (fun i _ => n - (intOf i).toNat)
  case atStart => exact ⟨0, newP, Nat.zero_le _, rfl, HT2, HB2⟩
  case round =>
    obtain ⟨j, p, hj, rfl, HT, HB⟩ := hrel
    by_cases hlt : j < n
    · have hlt2 : (j : Int) < (n : Int) := by omega
      have hj0 : (0 : Int) ≤ (j : Int) := by omega
      have hjl : j < l.length := by rw [HLen.out]; exact hlt
      obtain ⟨ad, rfl, _, hcell⟩ := (HR.out.keep HB.out).cell j hjl
      obtain ⟨y, hy⟩ : ∃ y, Hid (l[j] = y) := ⟨l[j], rfl⟩
      rw [hy.out] at hcell
      have HS := Lib.hid (set_c g _ C p y wr HT.out)
      go_wp2_with fail
      refine HS.out.mono ?_
      rintro en w3 ⟨⟨v, rfl⟩, ht3, hch3⟩
      have HT3 : Hid (TAt w3 g (newT w) C (if 0 ≤ y then setP y.toNat p else p)) := ht3.mono (fun i hi => hi.elim id (fun h => Nat.le_trans HB.out.size h))
      have HB3 : Hid (Below w.heap.size w w3) := hch3.below HB.out HB.out.size (fun i hi => hi)
      clear ht3 hch3 hcell
      go_wp2
      go_roundw
      case rel => exact ⟨j + 1, _, by omega, by go_num, HT3, HB3⟩
      case measure => simp [intOf]; omega
    · have hlt2 : ¬ (j : Int) < (n : Int) := by omega
      have hcl : cl C (c : Int) = c := by unfold cl; omega
      have HN := Lib.hid (next_c g _ C p c 1 wr HT.out)
      have HK := Lib.hid (fun W (e : W.heap = wr.heap) => back_c g _ C p c 1 W (HT.out.of_heap e))
      have HL := Lib.hid (fun W (e : W.heap = wr.heap) => list_c g _ C p W (HT.out.of_heap e))
      rw [hcl, show onP C p c (1 : Int).toNat = nxP C p c from onP_succ C p c 0] at HN
      have eb : upP p c (1 : Int).toNat = bkP p c := upP_succ p c 0
      rw [hcl, eb] at HK
      have x1 := nxP_lt p hcC
      have x2 := nx_ge p hcC
      have y2 := bk_le (c := c) p
      have HX3 := Lib.hid (nx_at (n := C) (c := c) p)
      have HY3 := Lib.hid (bk_at p hcC)
      have HX4 := Lib.hid (fun e => nx_near (n := C) (c := c) (e := e) p)
      have HY4 := Lib.hid (fun e => bk_near (n := C) (c := c) (e := e) p)
      have HSm := Lib.hid (stp_small (n := C) p hC2)
      have hNC : (stp C p).length ≤ 132 := Nat.le_trans (stp_length C p) hC2
      clear hcl eb
      generalize nxP C p c = X at *
      generalize bkP p c = Y at *
      generalize stp C p = L at *
      generalize hNL : L.length = N at *
      have HNL := Lib.hid hNL
      clear hNL
      go_wp2_with fail
      refine HN.out.mono ?_
      rintro en w3 ⟨rfl, q, rfl⟩
      go_wp2_with fail
      refine (HK.out (wr.drewN q) rfl).mono ?_
      rintro en w3 ⟨rfl, q2, rfl⟩
      go_wp2_with fail
      refine (HL.out (wr.drewN (q + q2)) rfl).mono ?_
      rintro en w4 ⟨v, rfl, hm4⟩
      obtain ⟨A4, c4, rfl⟩ := own_form hm4.1
      have HB4 : Hid (Below w.heap.size w w4) := HB.out.trans ((hm4.2.mono HB.out.size : Below w.heap.size (wr.drewN (q + q2)) w4) |> fun h => (belowDrewN (Below.refl _ wr) (q + q2)).trans h)
      have HR4 := Lib.hid (own_reads hm4.1 HSm.out)
      clear hm4
      have X1 := Lib.hid x1
      have X2 := Lib.hid x2
      have Y2 := Lib.hid y2
      have e1 : decide ((X : Int) < (c : Int)) = false ∧ decide (X < c) = false := ⟨by simp; omega, by simp; omega⟩
      have e2 : decide ((C : Int) ≤ (X : Int)) = false ∧ decide (C ≤ X) = false := ⟨by simp; omega, by simp; omega⟩
      have e3 : decide ((c : Int) < (Y : Int)) = false ∧ decide (c < Y) = false := ⟨by simp; omega, by simp; omega⟩
      have e4 : decide ((Y : Int) < 0) = false := by simp
      have e5 : (((X : Int) == (c : Int)) = true ∧ ((c : Int) != (C : Int) - 1) = false) ∨ (((X : Int) == (c : Int)) = false ∧ ((X : Int) == (c : Int)) = false) := by
        rcases x2 with h | ⟨h, h'⟩
        · refine .inr ⟨?_, ?_⟩ <;> · rw [beq_eq_false_iff_ne]; omega
        · refine .inl ⟨?_, ?_⟩
          · rw [beq_iff_eq]; omega
          · rw [bne_eq_false_iff_eq]; omega
      have e6 : (((Y : Int) == (c : Int)) = true ∧ ((c : Int) != 0) = false) ∨ (((Y : Int) == (c : Int)) = false ∧ ((Y : Int) == (c : Int)) = false) := by
        rcases y2 with h | ⟨h, h'⟩
        · refine .inr ⟨?_, ?_⟩ <;> · rw [beq_eq_false_iff_ne]; omega
        · refine .inl ⟨?_, ?_⟩
          · rw [beq_iff_eq]; omega
          · rw [bne_eq_false_iff_eq]; omega
      obtain ⟨e1, e1'⟩ := e1
      obtain ⟨e2, e2'⟩ := e2
      obtain ⟨e3, e3'⟩ := e3
      obtain ⟨B1, hB1⟩ : ∃ B, ((X : Int) == (C : Int) - 1) = B := ⟨_, rfl⟩
      obtain ⟨B2, hB2⟩ : ∃ B, ((Y : Int) == 0) = B := ⟨_, rfl⟩
      have HB1' : Hid (B1 = true ∨ X ∈ L) := HX3.out.elim (fun h => .inl (by rw [← hB1, beq_iff_eq]; omega)) .inr
      have HB2' : Hid (B2 = true ∨ Y ∈ L) := HY3.out.elim (fun h => .inl (by rw [← hB2, beq_iff_eq]; omega)) .inr
      clear x1 x2 y2
      go_upto_region 13 with (fail)
      go_cut [105] (fun s wx => s = .bool false ∧ w4 = wx)
      case first =>
        rcases e5 with ⟨e5, e5'⟩ | ⟨e5, e5'⟩ <;> rcases e6 with ⟨e6, e6'⟩ | ⟨e6, e6'⟩
        all_goals
          go_wp2_with fail
          go_meet
          exact ⟨rfl, rfl⟩
      case rest =>
        obtain ⟨rfl, rfl⟩ := hcut
        clear e1 e1' e2 e2' e3 e3' e4 e5 e6
        go_upto_region 17 with (fail)
        go_loopw [13, 14, 15] (fun s t i wr => ∃ j : Nat, j ≤ N ∧ i = .int .i64 j ∧ s = .bool (metB B1 X L j) ∧ t = .bool (metB B2 Y L j) ∧ Hid (Reads .i64 wr A4 N c4 L) ∧ Hid (Below w.heap.size w wr)) (fun _ _ i _ => N - (intOf i).toNat)
        case atStart => exact ⟨0, Nat.zero_le _, rfl, by simp [metB], by simp [metB], HR4, HB4⟩
        case round =>
          clear hB1 hB2
          obtain ⟨j2, hj2, rfl, rfl, rfl, HRd, HBl⟩ := hrel
          by_cases hlt3 : j2 < N
          · have hjl : j2 < L.length := by rw [HNL.out]; exact hlt3
            obtain ⟨ad, rfl, _, hcell⟩ := HRd.out.cell j2 hjl
            have hmem := List.getElem_mem hjl
            have m1 := met_succ B1 X L j2 hjl
            have m2 := met_succ B2 Y L j2 hjl
            generalize L[j2] = e at hcell hmem m1 m2
            have hlt4 : (j2 : Int) < (N : Int) := by omega
            have hj20 : (0 : Int) ≤ (j2 : Int) := by omega
            have q : (decide ((c : Int) < (e : Int)) = true ∧ decide (c < e) = true ∧ decide ((e : Int) < (X : Int)) = false ∧ decide (e < X) = false ∧ decide ((e : Int) < (c : Int)) = false ∧ decide (e < c) = false) ∨
                (decide ((c : Int) < (e : Int)) = false ∧ decide (c < e) = false ∧ decide ((e : Int) < (c : Int)) = true ∧ decide (e < c) = true ∧ decide ((Y : Int) < (e : Int)) = false ∧ decide (Y < e) = false) ∨
                (decide ((c : Int) < (e : Int)) = false ∧ decide (c < e) = false ∧ decide ((e : Int) < (c : Int)) = false ∧ decide (e < c) = false ∧ decide ((e : Int) < (c : Int)) = false ∧ decide (e < c) = false) := by
              rcases Nat.lt_trichotomy c e with h | h | h
              · have := HX4.out e hmem h
                refine .inl ⟨?_, ?_, ?_, ?_, ?_, ?_⟩ <;> first | (rw [decide_eq_true_eq]; omega) | (rw [decide_eq_false_iff_not]; omega)
              · refine .inr (.inr ⟨?_, ?_, ?_, ?_, ?_, ?_⟩) <;> first | (rw [decide_eq_true_eq]; omega) | (rw [decide_eq_false_iff_not]; omega)
              · have := HY4.out e hmem h
                refine .inr (.inl ⟨?_, ?_, ?_, ?_, ?_, ?_⟩) <;> first | (rw [decide_eq_true_eq]; omega) | (rw [decide_eq_false_iff_not]; omega)
            have u : ∀ (b : Bool) (Z : Nat) (b' : Bool), b' = (b || decide (e = Z)) → (b = true ∧ Hid (b' = true) ∧ b = true) ∨ (b = false ∧ Hid (b' = true) ∧ ((e : Int) == (Z : Int)) = true) ∨ (b = false ∧ Hid (b' = false) ∧ ((e : Int) == (Z : Int)) = false) := by
              rintro b Z b' rfl
              cases b with
              | true => exact .inl ⟨rfl, Lib.hid rfl, rfl⟩
              | false =>
                by_cases h : e = Z
                · exact .inr (.inl ⟨rfl, Lib.hid (by rw [decide_eq_true h]; rfl), by rw [beq_iff_eq]; omega⟩)
                · exact .inr (.inr ⟨rfl, Lib.hid (by rw [decide_eq_false h]; rfl), by rw [beq_eq_false_iff_ne]; omega⟩)
            have u1 := u _ X _ m1
            have u2 := u _ Y _ m2
            clear u m1 m2 hmem hjl
            obtain ⟨s1, hs1⟩ : ∃ s, Hid (metB B1 X L j2 = s) := ⟨_, Lib.hid rfl⟩
            obtain ⟨s2, hs2⟩ : ∃ s, Hid (metB B2 Y L j2 = s) := ⟨_, Lib.hid rfl⟩
            rw [hs1.out] at u1
            rw [hs2.out] at u2
            rw [hs1.out, hs2.out]
            go_upto_region 19 with (fail)
            go_cut [147] (fun s wx => s = .bool false ∧ wr = wx)
            case first =>
              clear u1 u2
              rcases q with ⟨q1, q2, q3, q4, q5, q6⟩ | ⟨q1, q2, q3, q4, q5, q6⟩ | ⟨q1, q2, q3, q4, q5, q6⟩
              all_goals
                go_wp2_with fail
                go_meet
                exact ⟨rfl, rfl⟩
            case rest =>
              obtain ⟨rfl, rfl⟩ := hcut
              clear q
              rcases u1 with ⟨rfl, r1, t1⟩ | ⟨rfl, r1, t1⟩ | ⟨rfl, r1, t1⟩ <;> rcases u2 with ⟨rfl, r2, t2⟩ | ⟨rfl, r2, t2⟩ | ⟨rfl, r2, t2⟩
              all_goals
                go_wp2_with fail
                go_quiet (fail)
                go_wp2
                go_roundw
                case rel => exact ⟨j2 + 1, hlt3, by go_num, by rw [r1.out], by rw [r2.out], Lib.hid (HRd.out.of_heap rfl), Lib.hid (belowDrewN HBl.out _)⟩
                case measure => simp [intOf]; omega
          · have hlt4 : ¬ (j2 : Int) < (N : Int) := by omega
            have ht : L.take j2 = L := List.take_of_length_le (by rw [HNL.out]; omega)
            have m1 : metB B1 X L j2 = true := by
              unfold metB
              rw [ht]
              rcases HB1'.out with h | h
              · rw [h]; rfl
              · rw [decide_eq_true h, Bool.or_true]
            have m2 : metB B2 Y L j2 = true := by
              unfold metB
              rw [ht]
              rcases HB2'.out with h | h
              · rw [h]; rfl
              · rw [decide_eq_true h, Bool.or_true]
            rw [m1, m2]
            clear ht m1 m2
            go_wp2
            go_ret
            exact ⟨rfl, HBl.out⟩
end Go.Proofs.Ytdjpeopjfhoglaa.tabsRises
