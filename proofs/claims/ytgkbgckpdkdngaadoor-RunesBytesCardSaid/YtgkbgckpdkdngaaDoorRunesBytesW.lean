/- The statement RunesBytes walked: for every number, the bytes are the reference's, and they are read as it, if it is a code point. Conditions: the two tables of unicode/utf8 hold what their text lays. -/
import Derived.Test.YtgkbgckpdkdngaaDoorAwake8
import Derived.Test.YtgkbgckpdkdngaaDoorRune3
import Derived.Test.YtgkbgckpdkdngaaDoorRuneR1
namespace Go.Proofs.YtgkbgckpdkdngaaDoor.runesBytes
open Go.ChangeShapes Go.WideShapes Go.RowKit Go.Lib
theorem all_one (a : Int) : allN (uniZ a) = [fixZ a] := by
  have := all_text [a]
  rwa [show textZ [a] = uniZ a from by simp [textZ]] at this
theorem range_i32 (z : Int) (h : (Lit.int .i32 z).wf = true) : -2147483648 ≤ z ∧ z ≤ 2147483647 := by
  simp [Lit.wf, IntKind.min, IntKind.max, IntKind.signed, IntKind.bits] at h; omega
theorem wrap_in (z : Int) (h0 : -2147483648 ≤ z) (h1 : z ≤ 2147483647) : IntKind.i64.wrap z = z := by
  rw [IntKind.wrap_i64]
  omega
set_option maxHeartbeats 3200000 in
set_option maxRecDepth 100000 in
theorem walk (a : Int) (w : World) (wa : (Lit.int .i32 a).wf = true) (kt : Tabs w) : Calls Tryd.prog 4 #[.int .i32 a] w fun e w' => e = .returned (.bool true) ∧ Below w.heap.size w w' := by
  obtain ⟨ha0, ha1⟩ := range_i32 a wa
  have hwr := wrap_in a ha0 ha1
  have HA := Lib.hid (awake8_c w kt)
  have HT := Lib.hid kt
  obtain ⟨x, hx⟩ : ∃ x, Hid ((fixZ a : Int) = x) := ⟨_, Lib.hid rfl⟩
  have HX2 : Hid (x = if signZ a = true then a else 65533) := by
    show _ = _
    rw [← hx.out, fixZ]
    by_cases hs : signZ a = true
    · have h := hs
      simp only [signZ, decide_eq_true_eq] at h
      rw [if_pos hs, if_pos hs]; omega
    · rw [if_neg hs, if_neg hs]; rfl
  clear kt wa
  go_enter Tryd.func4, Tryd.ntmps4
  go_wp2_with fail
  refine HA.out.mono ?_
  rintro en w1 ⟨rfl, hb1⟩
  have HB1 := Lib.hid hb1
  clear hb1
  go_wp2_with fail
  refine (rbytes_c a w1 ha0 ha1).mono ?_
  rintro en w2 ⟨v2, rfl, ho2, hb2⟩
  obtain ⟨A2, c2, rfl, hr2⟩ := Reads.of_own ho2 (fun y hy => wf_u8.2 (uniZ_byte a y hy))
  have HB2 := Lib.hid hb2
  have HR2 := Lib.hid hr2
  clear ho2 hb2 hr2
  go_wp2_with fail
  refine (all_c _ _ _ _ w2 HR2.out ((HT.out.keep HB1.out).keep HB2.out) (by have := (uniZ_len a).2; omega)).mono ?_
  rw [all_one]
  rintro en w3 ⟨v3, rfl, ho3, hb3⟩
  obtain ⟨A3, c3, rfl, hr3⟩ := Reads.of_own ho3 (fun y hy => wf_i32.2 (by
    rw [List.mem_singleton.1 hy]
    have h := fixZ_sign a
    simp only [signZ, decide_eq_true_eq] at h
    omega))
  obtain ⟨ad, rfl, hlt3, hc3⟩ := hr3.cell 0 (by simp)
  simp only [List.getElem_cons_zero, show ad.add 0 = ad from by simp [Addr.add]] at hc3
  rw [hx.out] at hc3
  have HB3 := Lib.hid hb3
  have HC3 := Lib.hid hc3
  have HLT3 := Lib.hid hlt3
  clear ho3 hb3 hr3 hc3 hlt3
  by_cases hs : signZ a = true
  · have HS := Lib.hid (sign_c a w3)
    rw [hs] at HS
    have HX3 : Hid (x = a) := by show _ = _; rw [HX2.out, if_pos hs]
    rw [HX3.out] at HC3
    clear hs
    go_wp2_with fail
    refine HS.out.mono ?_
    rintro en w4 ⟨rfl, rfl⟩
    go_wp2_with fail
    refine (refBytes_c a _).mono ?_
    rintro en w5 ⟨v5, rfl, ho5, hb5⟩
    obtain ⟨A5, c5, rfl, hr5⟩ := Reads.of_own ho5 (fun y hy => wf_u8.2 (uniZ_byte a y hy))
    have HB5 := Lib.hid hb5
    have HR5 := Lib.hid hr5
    have hc5 := (hb5.cell HLT3.out).trans HC3.out
    have HC5 := Lib.hid hc5
    clear ho5 hb5 hr5 hc5
    go_wp2_with fail
    refine (same_c _ _ _ _ _ _ _ _ w5 ((HR2.out.keep HB3.out).keep HB5.out) HR5.out).mono ?_
    rw [decide_eq_true rfl]
    rintro en w6 ⟨rfl, q, rfl⟩
    have hc6 : (w5.drewN q).cell? ad = some (.int .i32 a) := HC5.out
    go_wp2
    go_ret
    exact ⟨rfl, belowDrewN (HB1.out.trans ((HB2.out.trans ((HB3.out.trans (HB5.out.mono HB3.out.size)).mono HB2.out.size)).mono HB1.out.size)) _⟩
  · have hs' : signZ a = false := by simpa using hs
    have HS := Lib.hid (sign_c a w3)
    rw [hs'] at HS
    have HX3 : Hid (x = 65533) := by show _ = _; rw [HX2.out, if_neg hs]
    rw [HX3.out] at HC3
    clear hs hs'
    go_wp2_with fail
    refine HS.out.mono ?_
    rintro en w4 ⟨rfl, rfl⟩
    go_wp2_with fail
    refine (refBytes_c a _).mono ?_
    rintro en w5 ⟨v5, rfl, ho5, hb5⟩
    obtain ⟨A5, c5, rfl, hr5⟩ := Reads.of_own ho5 (fun y hy => wf_u8.2 (uniZ_byte a y hy))
    have HB5 := Lib.hid hb5
    have HR5 := Lib.hid hr5
    have hc5 := (hb5.cell HLT3.out).trans HC3.out
    have HC5 := Lib.hid hc5
    clear ho5 hb5 hr5 hc5
    go_wp2_with fail
    refine (same_c _ _ _ _ _ _ _ _ w5 ((HR2.out.keep HB3.out).keep HB5.out) HR5.out).mono ?_
    rw [decide_eq_true rfl]
    rintro en w6 ⟨rfl, q, rfl⟩
    have hc6 : (w5.drewN q).cell? ad = some (.int .i32 65533) := HC5.out
    go_wp2
    go_ret
    exact ⟨rfl, belowDrewN (HB1.out.trans ((HB2.out.trans ((HB3.out.trans (HB5.out.mono HB3.out.size)).mono HB2.out.size)).mono HB1.out.size)) _⟩
end Go.Proofs.YtgkbgckpdkdngaaDoor.runesBytes
