/- The walk through TabsPlays: for every number of columns and every sequence of operations it returns true and leaves old memory as it was. Conditions: none. -/
import Derived.Test.YtdjpeopjfhoglaaAwake11
import Derived.Test.YtdjpeopjfhoglaaTabsD
namespace Go.Proofs.Ytdjpeopjfhoglaa.tabsPlays
open Go.ChangeShapes Go.WideShapes Go.RowKit
/-- The two cells of an operation, as walks spell them. -/
theorem twoT {w : World} {p : Addr} {c : TopV} (h : ∀ j u, (topV c)[j]? = some u → w.cell? (p.add j) = some u) :
    w.cell? p = some (.int .i64 c.1) ∧ w.cell? ⟨p.block, p.off + 1, none⟩ = some (.int .i64 c.2) := ⟨h 0 _ rfl, h 1 _ rfl⟩
/-- The loop's: the stops and the document's row are alike, in memory of the call's own. -/
structure Pl (w wr : World) (g : Nat) (F : Nat → Prop) (m : Nat) (p : Nat → Bool) (A : Option Addr) (k : Nat) : Prop where
  at_ : TAt wr g F m p
  own : ∀ i, F i → i < wr.heap.size ∧ w.heap.size ≤ i
  row : ReadsB wr A m k p
  off : ∀ ad, A = some ad → ¬ F ad.block
  bel : Below w.heap.size w wr
set_option maxRecDepth 100000 in
set_option maxHeartbeats 12800000 in
theorem walk (a : Int) (A : Option Addr) (n k : Nat) (l : List TopV) (w : World) (_ : (Lit.int .i64 a).wf = true) (hr : ReadsS topV 2 w A n k l) (_ : ∀ x ∈ l, fitT x) :
    Calls Try.prog 3 #[.int .i64 a, .slice A n k] w fun e w' => e = .returned (.bool true) ∧ Below w.heap.size w w' := by
  have HR := Lib.hid hr
  have HLen := Lib.hid hr.len
  clear hr
  by_cases hn : 30 < n
  · have hn2 : decide ((30 : Int) < (n : Int)) = true := by simp; omega
    go_enter Try.func3, Try.ntmps3
    go_wp2_with fail
    refine (awake11_c w).mono ?_
    rintro en w1 ⟨rfl, hb1⟩
    have HB1 := Lib.hid hb1
    clear hb1
    go_wp2
    go_ret
    exact ⟨rfl, HB1.out⟩
  have hn2 : decide ((30 : Int) < (n : Int)) = false := by simp; omega
  go_enter Try.func3, Try.ntmps3
  go_wp2_with fail
  refine (awake11_c w).mono ?_
  rintro en w1 ⟨rfl, hb1⟩
  have HB1 := Lib.hid hb1
  clear hb1
  go_wp2_with fail
  refine (newT_c a w1).mono ?_
  rintro en w2 (⟨ha1, ha2, ⟨g, rfl, ht⟩, hb2⟩ | ⟨hno, rfl, hb2⟩)
  rotate_left
  · have HB2 := Lib.hid (HB1.out.trans (hb2.mono HB1.out.size))
    clear hb2
    by_cases h1 : a < 1
    · have d1 : decide (a < 1) = true := by simpa using h1
      clear hno
      go_wp2
      go_ret
      exact ⟨rfl, HB2.out⟩
    · have d1 : decide (a < 1) = false := by simpa using h1
      have d2 : decide ((132 : Int) < a) = true := by simp; omega
      clear hno
      go_wp2
      go_ret
      exact ⟨rfl, HB2.out⟩
  obtain ⟨C, rfl⟩ : ∃ C : Nat, a = C := ⟨a.toNat, by omega⟩
  have hC1 : 1 ≤ C := by omega
  have hC2 : C ≤ 132 := by omega
  have d1 : decide ((C : Int) < 1) = false := by simp; omega
  have d2 : decide ((132 : Int) < (C : Int)) = false := by simp; omega
  rw [show ((C : Int)).toNat = C by omega] at ht
  have HT2 : Hid (TAt w2 g (newT w) C newP) := ht.mono (fun i hi => Nat.le_trans HB1.out.size hi)
  have HB2 := Lib.hid (HB1.out.trans (hb2.mono HB1.out.size))
  clear ht hb2 HB1 ha1 ha2
  go_wp2_with fail
  refine (refNew_c C w2 hC2).mono ?_
  rintro en w3 ⟨v, rfl, hm3⟩
  obtain ⟨A3, c3, rfl⟩ := own_form hm3.1
  have HP3 : Hid (Pl w w3 g (fun i => newT w i ∧ i < w2.heap.size) C newP A3 c3) := ⟨HT2.out.clip.below hm3.2, fun i hi => ⟨Nat.lt_of_lt_of_le hi.2 hm3.2.size, hi.1⟩, own_readsB hm3.1, fun ad e hi => by
    have := own_base hm3.1 ad.block (by rw [e]; rfl)
    have := hi.2
    omega, HB2.out.trans (hm3.2.mono HB2.out.size)⟩
  clear hm3 d1 d2
  go_upto_region 12 with (fail)
  go_loopw [7, 8] (fun v i wr => ∃ (j m kk : Nat) (A7 : Option Addr) (F : Nat → Prop) (p : Nat → Bool), j ≤ n ∧ i = .int .i64 j ∧ v = .slice A7 m kk ∧ Hid (Pl w wr g F m p A7 kk)) (fun _ i _ => n - (intOf i).toNat)
  case atStart => exact ⟨0, C, c3, A3, _, newP, Nat.zero_le _, rfl, rfl, HP3⟩
  case round =>
    obtain ⟨j, m, kk, A7, F, p, hj, rfl, rfl, HP⟩ := hrel
    clear HP3 HT2 HB2 hC1 hC2
    by_cases hlt : j < n
    · have hlt2 : (j : Int) < (n : Int) := by omega
      have hj0 : (0 : Int) ≤ (j : Int) := by omega
      have hjl : j < l.length := by rw [HLen.out]; exact hlt
      obtain ⟨ad, rfl, _, hca⟩ := (HR.out.keep HP.out.bel).cell j hjl
      obtain ⟨a0, a1⟩ := twoT hca
      have hjn : j ≤ 30 := by omega
      obtain ⟨⟨kd, x⟩, HX⟩ : ∃ x, Hid (l[j] = x) := ⟨l[j], rfl⟩
      rw [HX.out] at a0 a1
      have HD := Lib.hid (do_c (n := m) (k := kk) kd x HP.out.at_ (fun i hi => (HP.out.own i hi).1) HP.out.row HP.out.off)
      simp only [topV] at HD
      clear hca
      go_wp2_with fail
      refine HD.out.mono ?_
      rintro en w4 ⟨m', p', F', A', k', rfl, ht4, hF4, hr4, hA4, hc4, _⟩
      have HP4 : Hid (Pl w w4 g F' m' p' A' k') := ⟨ht4, fun i hi => ⟨(hF4 i hi).1, (hF4 i hi).2.elim (fun h => (HP.out.own i h).2) (fun h => Nat.le_trans HP.out.bel.size h)⟩, hr4, hA4, hc4.below HP.out.bel HP.out.bel.size (fun i hi => (HP.out.own i hi).2)⟩
      have hm132 := ht4.cap
      have HL := Lib.hid (list_c g F' m' p' w4 ht4)
      clear ht4 hF4 hr4 hA4 hc4 a0 a1
      go_wp2_with fail
      refine HL.out.mono ?_
      rintro en w5 ⟨v, rfl, hm5⟩
      obtain ⟨A5, c5, rfl⟩ := own_form hm5.1
      have HRw := Lib.hid (HP4.out.row.keep hm5.2)
      have HRd := Lib.hid (own_reads hm5.1 (stp_small p' hm132))
      have HP5 : Hid (Pl w w5 g F' m' p' A' k') := ⟨HP4.out.at_.below hm5.2, fun i hi => ⟨Nat.lt_of_lt_of_le (HP4.out.own i hi).1 hm5.2.size, (HP4.out.own i hi).2⟩, HRw.out, HP4.out.off, HP4.out.bel.trans (hm5.2.mono HP4.out.bel.size)⟩
      have hNle := stp_length m' p'
      obtain ⟨N, hN⟩ : ∃ N, Hid ((stp m' p').length = N) := ⟨_, rfl⟩
      rw [hN.out] at hNle HRd ⊢
      clear hm5
      go_upto_region 18 with (fail)
      generalize w5 = w6 at *
      go_loopw [11, 12] (fun kq c wr => ∃ q : Nat, q ≤ m' ∧ c = .int .i64 q ∧ kq = .int .i64 ((stp q p').length : Nat) ∧ w6 = wr) (fun _ c _ => m' - (intOf c).toNat)
      case atStart => exact ⟨0, Nat.zero_le _, rfl, rfl, by trivial⟩
      case round =>
        obtain ⟨q, hq, rfl, rfl, rfl⟩ := hrel
        by_cases hqm : q < m'
        · have hqz : (q : Int) < (m' : Int) := by omega
          have hq0 : (0 : Int) ≤ (q : Int) := by omega
          obtain ⟨bd, rfl, _, hcb⟩ := HRw.out.cell q hqm
          have hs := stp_succ q p'
          have hsl := stp_length q p'
          cases hp : p' q with
          | false =>
            rw [hp] at hcb hs
            have hs2 : Hid ((stp (q + 1) p').length = (stp q p').length) := by
              show _ = _
              rw [hs, if_neg (by decide), List.append_nil]
            generalize (stp q p').length = K at *
            clear hs hp
            go_wp2
            go_roundw
            case rel => exact ⟨q + 1, hqm, by go_num, by rw [hs2.out], by trivial⟩
            case measure => simp [intOf]; omega
          | true =>
            have hsp := stp_split p' (show q ≤ m' by omega)
            rw [stpR_cons p' hqm, if_pos hp] at hsp
            rw [hp] at hcb hs
            have hs2 : Hid ((stp (q + 1) p').length = (stp q p').length + 1) := by
              show _ = _
              rw [hs, if_pos rfl, List.length_append]
              rfl
            have hKN : (stp q p').length < N := by
              rw [← hN.out, hsp, List.length_append, List.length_cons]
              omega
            obtain ⟨ed, rfl, _, hce⟩ := HRd.out.cell (stp q p').length (by rw [hN.out]; exact hKN)
            have hget : (stp m' p')[(stp q p').length]? = some q := by
              rw [hsp, List.getElem?_append_right (Nat.le_refl _), Nat.sub_self]
              rfl
            rw [List.getElem?_eq_getElem (by rw [hN.out]; exact hKN)] at hget
            rw [Option.some.inj hget] at hce
            generalize (stp q p').length = K at *
            have t1 : decide ((N : Int) ≤ (K : Int)) = false ∧ decide (N ≤ K) = false := ⟨by simp; omega, by simp; omega⟩
            have t2 : (((q : Nat) : Int) != (q : Int)) = false := by simp
            obtain ⟨t1, t1'⟩ := t1
            have hKz : (K : Int) < (N : Int) := by omega
            have hK0 : (0 : Int) ≤ (K : Int) := by omega
            clear hs hp hsp hget
            go_wp2
            go_roundw
            case rel => exact ⟨q + 1, hqm, by go_num, by rw [hs2.out]; go_num, by trivial⟩
            case measure => simp [intOf]; omega
        · have hqz : ¬ (q : Int) < (m' : Int) := by omega
          have hK : Hid ((stp q p').length = N) := by
            show _ = _
            rw [← hN.out, show q = m' by omega]
          rw [hK.out]
          go_wp2
          go_roundw
          case rel => exact ⟨j + 1, m', k', A', F', p', by omega, by go_num, rfl, HP5⟩
          case measure => simp [intOf]; omega
    · have hlt2 : ¬ (j : Int) < (n : Int) := by omega
      go_wp2
      go_ret
      exact ⟨rfl, HP.out.bel⟩
end Go.Proofs.Ytdjpeopjfhoglaa.tabsPlays
