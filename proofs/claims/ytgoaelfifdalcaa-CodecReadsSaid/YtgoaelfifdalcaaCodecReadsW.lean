/- The walk through CodecReads: what any bytes are read as, kind by kind, is what the reference says. Conditions: the bytes and the kinds read as lists. -/
import Derived.Test.YtgoaelfifdalcaaCodecNext
import Derived.Test.YtgoaelfifdalcaaOpen3
namespace Go.Proofs.Ytgoaelfifdalcaa.codecReads
open Go.ChangeShapes Go.WideShapes Go.RowKit
theorem byteR_err (e : Int) (he : e ≠ 0) : byteR ([], e) = (0, ([], e)) := by rw [byteR, failR_err _ _ he]
theorem numberR_err (e : Int) (he : e ≠ 0) : numberR ([], e) = (0, ([], e)) := by rw [numberR, if_neg he]
theorem signedR_err (e : Int) (he : e ≠ 0) : signedR ([], e) = (0, ([], e)) := by rw [signedR, numberR_err e he]; simp [sgnR]
theorem textR_err (most e : Int) (he : e ≠ 0) : textR most ([], e) = ([], ([], e)) := by
  rw [textR, numberR_err e he]
  split
  · rw [failR_err _ _ he]
  · rfl
theorem keyR_err (e : Int) (he : e ≠ 0) : keyR ([], e) = (zeroK, ([], e)) := by
  have : nextR 32 ([], e) = ([], ([], e)) := by rw [nextR, if_pos (by simp), failR_err _ _ he]
  rw [keyR, this]; rfl
theorem boolR_err (e : Int) (he : e ≠ 0) : boolR ([], e) = (false, ([], e)) := by rw [boolR, byteR_err e he]; rfl
theorem doneR_err (e : Int) (he : e ≠ 0) : doneR ([], e) = e := by rw [doneR, if_neg (fun h => he h.1)]
theorem key_lit (g : Nat) (D : Option Nat) (e : Int) (w : World) (he : e ≠ 0) (h : RAt w g D ([], e)) : Calls Try.prog 23 #[.pointer (some ⟨g, 0, none⟩)] w (RPost w g D ([], e) (.agg #[.int .u8 0, .int .u8 0, .int .u8 0, .int .u8 0, .int .u8 0, .int .u8 0, .int .u8 0, .int .u8 0, .int .u8 0, .int .u8 0, .int .u8 0, .int .u8 0, .int .u8 0, .int .u8 0, .int .u8 0, .int .u8 0, .int .u8 0, .int .u8 0, .int .u8 0, .int .u8 0, .int .u8 0, .int .u8 0, .int .u8 0, .int .u8 0, .int .u8 0, .int .u8 0, .int .u8 0, .int .u8 0, .int .u8 0, .int .u8 0, .int .u8 0, .int .u8 0])) := by
  have := rkey_c g D _ w h
  rw [keyR_err e he] at this
  exact this
set_option maxRecDepth 100000 in
set_option maxHeartbeats 3200000 in
theorem walk (A : Option Addr) (n c : Nat) (B : List Nat) (KA : Option Addr) (kn kc : Nat) (ks : List Int) (most : Int) (w : World) (hr : Reads .u8 w A n c B) (hk : ReadsI .i64 w KA kn kc ks) (_hm : (Lit.int .i64 most).wf = true) :
    Calls Try.prog 4 #[.slice A n c, .slice KA kn kc, .int .i64 most] w fun e w' => e = .returned (.bool true) ∧ Below w.heap.size w w' := by
  obtain ⟨i0, hi0, _⟩ := info_parts infoU8
  have HR := Lib.hid hr
  have HK := Lib.hid hk
  have HL := Lib.hid hr.len
  have HKL := Lib.hid hk.len
  clear hr hk
  by_cases hn : n ≤ 300 ∧ kn ≤ 30
  · obtain ⟨hn1, hn2⟩ := hn
    have d1 : decide ((300 : Int) < (n : Int)) = false := by simp; omega
    have d2 : decide ((30 : Int) < (kn : Int)) = false := by simp; omega
    have HEQ : Hid (∀ W, (Op.equalIn 10000 31 (.agg #[.int .u8 0, .int .u8 0, .int .u8 0, .int .u8 0, .int .u8 0, .int .u8 0, .int .u8 0, .int .u8 0, .int .u8 0, .int .u8 0, .int .u8 0, .int .u8 0, .int .u8 0, .int .u8 0, .int .u8 0, .int .u8 0, .int .u8 0, .int .u8 0, .int .u8 0, .int .u8 0, .int .u8 0, .int .u8 0, .int .u8 0, .int .u8 0, .int .u8 0, .int .u8 0, .int .u8 0, .int .u8 0, .int .u8 0, .int .u8 0, .int .u8 0, .int .u8 0]) (.agg #[.int .u8 0, .int .u8 0, .int .u8 0, .int .u8 0, .int .u8 0, .int .u8 0, .int .u8 0, .int .u8 0, .int .u8 0, .int .u8 0, .int .u8 0, .int .u8 0, .int .u8 0, .int .u8 0, .int .u8 0, .int .u8 0, .int .u8 0, .int .u8 0, .int .u8 0, .int .u8 0, .int .u8 0, .int .u8 0, .int .u8 0, .int .u8 0, .int .u8 0, .int .u8 0, .int .u8 0, .int .u8 0, .int .u8 0, .int .u8 0, .int .u8 0, .int .u8 0])).run Try.prog W = .ok true W) := fun W => run_eq_ints W 9998 Try.underlying31 hi0 (by kernel_rfl) Try.underlying5 zeroK rfl
    clear hi0
    go_enter Try.func4, Try.ntmps4
    go_wp2_with fail
    refine (awake6_c w).mono ?_
    rintro en w1 ⟨rfl, hb1⟩
    go_wp2_with fail
    refine (newReader_c A n c B w1 (HR.out.keep hb1) (by omega)).mono ?_
    rintro en w2 ⟨g, D, rfl, hg, hD, h2, hb⟩
    have hb2 := hb1.trans (hb.mono hb1.size)
    have hg2 : w.heap.size ≤ g := Nat.le_trans hb1.size hg
    have H2 := Lib.hid h2
    clear h2 hb hg hb1 hD
    have hoff : 0 < n → Off A g := by
      intro h0 ad e
      obtain ⟨ad', e', hl, _⟩ := HR.out.cell 0 (by rw [HL.out]; exact h0)
      rw [e] at e'
      cases e'
      omega
    have HOFF := Lib.hid hoff
    clear hoff
    go_wp2_with fail
    go_loopw [8, 9, 10] (fun p z x wr => ∃ (i a : Nat) (s : List Nat × Int), i ≤ kn ∧ p = .int .i64 (a : Int) ∧ z = .int .i64 s.2 ∧ x = .int .i64 (i : Int) ∧ Hid (RAt wr g D s) ∧ Hid (s.2 = 0 → a ≤ n ∧ s.1 = B.drop a) ∧ Below w.heap.size w wr) (fun _ _ x _ => kn - (intOf x).toNat)
    case atStart => exact ⟨0, 0, (B, 0), Nat.zero_le _, rfl, rfl, rfl, H2, (fun _ => ⟨Nat.zero_le _, rfl⟩), hb2⟩
    case round =>
      clear H2 hb2
      obtain ⟨i, a, ⟨rs, e⟩, hi, rfl, rfl, rfl, HA, HS, hbw⟩ := hrel
      simp only at *
      by_cases hlt : i < kn
      · have hlt2 : (i : Int) < (kn : Int) := by omega
        have hi0 : (0 : Int) ≤ (i : Int) := by omega
        by_cases he : e = 0
        · subst he
          obtain ⟨ha, hdrop⟩ := HS.out rfl
          rw [hdrop] at HA
          have hik : i < ks.length := by rw [HKL.out]; exact hlt
          obtain ⟨kd, hkd⟩ : ∃ kd, Hid (ks[i] = kd) := ⟨ks[i], rfl⟩
          obtain ⟨ad, hKA, hadlt, hcell⟩ := (HK.out.keep hbw).cell i hik
          subst hKA
          rw [hkd.out] at hcell
          clear hdrop HS hadlt
          go_wp2_with fail
          refine (nexts_c g D most A n c a B wr (HR.out.keep hbw) ha HOFF.out HA.out kd (by omega)).mono ?_
          rintro en w3 ⟨to, ⟨rs', e'⟩, rfl, h3, hto, k3⟩
          have H3 := Lib.hid h3
          have HTO : Hid (e' = 0 → to ≤ n ∧ rs' = B.drop to) := fun h => by have := hto h; rw [HL.out] at this; exact this
          have hb3 := below_of_only hbw k3 hbw.size hg2
          clear h3 hto k3 HA hcell hbw
          simp only
          go_wp2_with fail
          refine (rerr_c g D _ w3 H3.out).mono ?_
          rintro en w4 ⟨rfl, rfl⟩
          simp only
          go_wp2
          go_roundw
          case rel => exact ⟨i + 1, to, (rs', e'), by omega, rfl, rfl, by go_num, H3, HTO, hb3⟩
          case measure => simp [intOf]; omega
        · obtain rfl : rs = [] := HA.out.err he
          have hne : (e != 0) = true := by simpa using he
          have HE := Lib.hid he
          clear he
          go_wp2_with fail
          refine (rbyte_c g D _ wr HA.out).mono ?_
          rw [byteR_err e HE.out]
          rintro en w3 ⟨rfl, h3, k3⟩
          have hb3 := below_of_only hbw k3 hbw.size hg2
          have H3 := Lib.hid h3
          clear h3 k3 HA hbw
          go_wp2_with fail
          refine (rnumber_c g D _ w3 H3.out).mono ?_
          rw [numberR_err e HE.out]
          rintro en w4 ⟨rfl, h4, k4⟩
          have hb4 := below_of_only hb3 k4 hb3.size hg2
          have H4 := Lib.hid h4
          clear h4 k4 H3 hb3
          go_wp2_with fail
          refine (rsigned_c g D _ w4 H4.out).mono ?_
          rw [signedR_err e HE.out]
          rintro en w5 ⟨rfl, h5, k5⟩
          have hb5 := below_of_only hb4 k5 hb4.size hg2
          have H5 := Lib.hid h5
          clear h5 k5 H4 hb4
          go_wp2_with fail
          refine (rtext_c g D most _ w5 H5.out (by simp)).mono ?_
          rw [textR_err most e HE.out]
          rintro en w6 ⟨V, m, d, rfl, hr6, _, h6, k6⟩
          obtain rfl : 0 = m := hr6.len
          have hb6 := below_of_only hb5 k6 hb5.size hg2
          have H6 := Lib.hid h6
          clear h6 k6 H5 hb5 hr6
          go_wp2_with fail
          refine (key_lit g D e w6 HE.out H6.out).mono ?_
          rintro en w7 ⟨rfl, h7, k7⟩
          have hb7 := below_of_only hb6 k7 hb6.size hg2
          have H7 := Lib.hid h7
          clear h7 k7 H6 hb6
          go_wp2_with fail
          rw [HEQ.out]
          go_simp
          go_wp2_with fail
          refine (rbool_c g D _ w7 H7.out).mono ?_
          rw [boolR_err e HE.out]
          rintro en w8 ⟨rfl, h8, k8⟩
          have hb8 := below_of_only hb7 k8 hb7.size hg2
          have H8 := Lib.hid h8
          clear h8 k8 H7 hb7
          go_wp2
          go_roundw
          case rel => exact ⟨i + 1, a, ([], e), by omega, rfl, rfl, by go_num, H8, (fun h => absurd h HE.out), hb8⟩
          case measure => simp [intOf]; omega
      · obtain rfl : i = kn := by omega
        by_cases he : e = 0
        · subst he
          obtain ⟨ha, hdrop⟩ := HS.out rfl
          rw [hdrop] at HA
          clear hdrop HS
          go_wp2_with fail
          refine (newReader_c A n c B wr (HR.out.keep hbw) (by omega)).mono ?_
          rintro en w3 ⟨g3, D3, rfl, hg3, hD3, h3, hb⟩
          have hb3 := hbw.trans (hb.mono hbw.size)
          have hg32 : w.heap.size ≤ g3 := Nat.le_trans hbw.size hg3
          have hgg : g3 ≠ g := by have := HA.out.lt; omega
          have hDg : D ≠ some g3 := fun e => by have := HA.out.low _ e; omega
          have HA3 := Lib.hid (HA.out.below hb)
          have H3 := Lib.hid h3
          clear h3 hb hg3 hD3 hbw HA
          go_wp2_with fail
          refine (rfail_c g3 D3 _ 7 w3 H3.out (by decide)).mono ?_
          rw [failR_ok _ _ rfl (by decide)]
          rintro en w4 ⟨⟨v, rfl⟩, h4, k4⟩
          have hb4 := below_of_only hb3 k4 hb3.size hg32
          have HA4 := Lib.hid (HA3.out.only k4 hgg hDg)
          have H4 := Lib.hid h4
          clear h4 k4 H3 hb3 HA3
          go_wp2_with fail
          refine (rbyte_c g3 D3 _ w4 H4.out).mono ?_
          rw [byteR_err 7 (by decide)]
          rintro en w5 ⟨rfl, h5, k5⟩
          have hb5 := below_of_only hb4 k5 hb4.size hg32
          have HA5 := Lib.hid (HA4.out.only k5 hgg hDg)
          have H5 := Lib.hid h5
          clear h5 k5 H4 hb4 HA4
          go_wp2_with fail
          refine (rdone_c g3 D3 _ w5 H5.out).mono ?_
          rw [doneR_err 7 (by decide)]
          rintro en w6 ⟨rfl, rfl⟩
          go_wp2_with fail
          refine (rleft_c g3 D3 _ w5 H5.out).mono ?_
          rintro en w6 ⟨rfl, rfl⟩
          simp only [List.length_nil]
          go_wp2_with fail
          refine (rleft_c g D _ w5 HA5.out).mono ?_
          rintro en w6 ⟨rfl, rfl⟩
          simp only [List.length_drop, HL.out]
          have hd : ((n - a : Nat) : Int) = (n : Int) - (a : Int) := by omega
          rw [hd]
          clear hd
          by_cases hlast : a < n
          · have hz : doneR (B.drop a, 0) = 5 := by rw [doneR, if_pos ⟨rfl, by simp only [List.length_drop, HL.out]; omega⟩]
            have e1 : decide ((a : Int) < (n : Int)) = true := by simp; omega
            have e2 : ((a : Int) == (n : Int)) = false := by simp; omega
            have HZ := Lib.hid hz
            clear hz
            go_wp2_with fail
            refine (rdone_c g D _ w5 HA5.out).mono ?_
            rw [HZ.out]
            rintro en w6 ⟨rfl, rfl⟩
            go_wp2_with fail
            refine (rdone_c g D _ w5 HA5.out).mono ?_
            rw [HZ.out]
            rintro en w6 ⟨rfl, rfl⟩
            go_wp2
            go_ret
            exact ⟨rfl, hb5⟩
          · obtain rfl : a = n := by omega
            have hz : doneR (B.drop a, 0) = 0 := by rw [doneR, if_neg (by simp only [List.length_drop, HL.out]; omega)]
            have HZ := Lib.hid hz
            clear hz
            go_wp2_with fail
            refine (rdone_c g D _ w5 HA5.out).mono ?_
            rw [HZ.out]
            rintro en w6 ⟨rfl, rfl⟩
            go_wp2_with fail
            refine (rdone_c g D _ w5 HA5.out).mono ?_
            rw [HZ.out]
            rintro en w6 ⟨rfl, rfl⟩
            go_wp2
            go_ret
            exact ⟨rfl, hb5⟩
        · obtain rfl : rs = [] := HA.out.err he
          have hne : (e != 0) = true := by simpa using he
          have HE := Lib.hid he
          clear he
          go_wp2_with fail
          refine (rfail_c g D _ 7 wr HA.out (by decide)).mono ?_
          rw [failR_err _ _ HE.out]
          rintro en w3 ⟨⟨v, rfl⟩, h3, k3⟩
          have hb3 := below_of_only hbw k3 hbw.size hg2
          have H3 := Lib.hid h3
          clear h3 k3 HA hbw
          go_wp2_with fail
          refine (rdone_c g D _ w3 H3.out).mono ?_
          rw [doneR_err e HE.out]
          rintro en w4 ⟨rfl, rfl⟩
          go_wp2_with fail
          refine (rleft_c g D _ w3 H3.out).mono ?_
          rintro en w4 ⟨rfl, rfl⟩
          simp only [List.length_nil]
          go_wp2
          go_ret
          exact ⟨rfl, hb3⟩
  · by_cases h1 : 300 < n
    · have d1 : decide ((300 : Int) < (n : Int)) = true := by simp; omega
      clear hn
      go_enter Try.func4, Try.ntmps4
      go_wp2_with fail
      refine (awake6_c w).mono ?_
      rintro en w1 ⟨rfl, hb1⟩
      go_wp2
      go_ret
      exact ⟨rfl, hb1⟩
    · have d1 : decide ((300 : Int) < (n : Int)) = false := by simp; omega
      have d2 : decide ((30 : Int) < (kn : Int)) = true := by simp; omega
      clear hn
      go_enter Try.func4, Try.ntmps4
      go_wp2_with fail
      refine (awake6_c w).mono ?_
      rintro en w1 ⟨rfl, hb1⟩
      go_wp2
      go_ret
      exact ⟨rfl, hb1⟩
end Go.Proofs.Ytgoaelfifdalcaa.codecReads
