/- The walk through CodecOne: bytes that are read as a number, with nothing left, are the number's. Conditions: the bytes read as a list. -/
import Derived.Test.YtgoaelfifdalcaaAwake6
namespace Go.Proofs.Ytgoaelfifdalcaa.codecOne
open Go.ChangeShapes Go.WideShapes Go.RowKit
set_option maxHeartbeats 1600000 in
theorem walk (A : Option Addr) (n c : Nat) (B : List Nat) (w : World) (hr : Reads .u8 w A n c B) :
    Calls Try.prog 5 #[.slice A n c] w fun e w' => e = .returned (.bool true) ∧ Below w.heap.size w w' := by
  have HR := Lib.hid hr
  clear hr
  by_cases hn : 20 < n
  · have hn2 : decide ((20 : Int) < (n : Int)) = true := by simp; omega
    go_enter Try.func5, Try.ntmps5
    go_wp2_with fail
    refine (awake6_c w).mono ?_
    rintro en w1 ⟨rfl, hb1⟩
    go_wp2
    go_ret
    exact ⟨rfl, hb1⟩
  · have hn2 : decide ((20 : Int) < (n : Int)) = false := by simp; omega
    obtain ⟨E, N, r, hN⟩ : ∃ E N r, Hid (readL B = (E, N, r)) := ⟨_, _, _, rfl⟩
    have hq : numberR (B, 0) = (N, (r, (E : Int))) := by rw [numberR, if_pos rfl, hN.out]
    have HQ := Lib.hid hq
    clear hq
    go_enter Try.func5, Try.ntmps5
    go_wp2_with fail
    refine (awake6_c w).mono ?_
    rintro en w1 ⟨rfl, hb1⟩
    go_wp2_with fail
    refine (newReader_c A n c B w1 (HR.out.keep hb1) (by omega)).mono ?_
    rintro en w2 ⟨g, D, rfl, hg, _, h2, hb⟩
    have hb2 := hb1.trans (hb.mono hb1.size)
    have hg2 : w.heap.size ≤ g := Nat.le_trans hb1.size hg
    have H2 := Lib.hid h2
    clear h2 hb hg
    go_wp2_with fail
    refine (rnumber_c g D _ w2 H2.out).mono ?_
    rw [HQ.out]
    rintro en w3 ⟨rfl, h3, k3⟩
    have H3 := Lib.hid h3
    have hb3 := below_of_only hb2 k3 hb2.size hg2
    clear h3 k3 hb2 hb1 H2
    go_wp2_with fail
    refine (rdone_c g D _ w3 H3.out).mono ?_
    rintro en w4 ⟨rfl, rfl⟩
    by_cases hd : doneR (r, (E : Int)) = 0
    · have hE : E = 0 ∧ r = [] := by
        unfold doneR at hd
        simp only at hd
        by_cases h : (E : Int) = 0 ∧ 0 < r.length
        · rw [if_pos h] at hd; exact absurd hd (by decide)
        · rw [if_neg h] at hd
          exact ⟨by omega, List.eq_nil_of_length_eq_zero (by omega)⟩
      obtain ⟨rfl, rfl⟩ := hE
      have hone := readL_one N B [] (fun x hx => wf_u8.1 (HR.out.wf x hx)) hN.out
      rw [List.append_nil] at hone
      obtain ⟨e1, hNlt⟩ := hone
      have HB := Lib.hid e1
      rw [hd]
      clear e1 hd HQ hN
      go_wp2_with fail
      refine (newWriter_c w3).mono ?_
      rintro en w5 ⟨rfl, h5, hb5⟩
      have H5 := Lib.hid h5
      clear h5
      go_wp2_with fail
      refine (wnumber_ok _ _ _ N w5 H5.out hNlt (by simp)).mono ?_
      rw [wrote_ok _ _ rfl]
      rintro en w6 ⟨⟨v, rfl⟩, h6, k6⟩
      have H6 := Lib.hid h6
      have hb6 := newer_below hb5 k6
      clear h6 k6 H5 hb5
      go_wp2_with fail
      refine (bytes_c _ _ _ w6 H6.out (by have := numL_len 7 N hNlt; simp; omega)).mono ?_
      rintro en w7 ⟨V, m, d, rfl, hr7, _, hb7⟩
      have hb73 := hb6.trans (hb7.mono hb6.size)
      have hb8 := hb3.trans (hb73.mono hb3.size)
      have HR7 := Lib.hid hr7
      clear hr7 hb7 hb6 H6 hb73
      go_wp2_with fail
      refine (same_c V A m d n c (numL N) B w7 (by simpa using HR7.out) (HR.out.keep hb8)).mono ?_
      rintro en w9 ⟨rfl, k, rfl⟩
      go_wp2
      go_ret
      exact ⟨ret_bool (by rw [decide_eq_true_iff]; exact HB.out.symm), belowDrewN hb8 k⟩
    · have hd2 : (doneR (r, (E : Int)) != 0) = true := by simpa using hd
      clear hd
      generalize doneR (r, (E : Int)) = z at *
      go_wp2
      go_ret
      exact ⟨rfl, hb3⟩
end Go.Proofs.Ytgoaelfifdalcaa.codecOne
