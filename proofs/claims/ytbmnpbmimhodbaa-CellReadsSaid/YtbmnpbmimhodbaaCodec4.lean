/- What the methods Number, Signed, Text, Key and Bool of a Reader of package codec do, for every Reader, as a walk through the translated text. Conditions: the Reader lies in a block of its own. -/
import Derived.Test.YtbmnpbmimhodbaaCodec3
namespace Go.Proofs.Ytbmnpbmimhodbaa
open Go.ChangeShapes Go.WideShapes Go.RowKit
theorem RAt.errCell {w : World} {g : Nat} {D : Option Nat} {s : List Nat × Int} (h : RAt w g D s) : w.cell? ⟨g, 1, none⟩ = some (.int .i64 s.2) := by
  obtain ⟨A, n, c, hblk, _, _⟩ := h.ex
  exact hblk.cell 1
/-- The next number, and what is left behind it. -/
def numberR (s : List Nat × Int) : Nat × (List Nat × Int) := if s.2 = 0 then ((readL s.1).2.1, ((readL s.1).2.2, ((readL s.1).1 : Int))) else (0, s)
set_option maxHeartbeats 800000 in
theorem rnumber_err (g : Nat) (D : Option Nat) (s : List Nat × Int) (w : World) (h : RAt w g D s) (he : s.2 ≠ 0) :
    Calls Try.prog 38 #[.pointer (some ⟨g, 0, none⟩)] w (RPost w g D s (.int .i64 0)) := by
  obtain ⟨b, e⟩ := s
  obtain rfl : b = [] := h.err he
  have HC := Lib.hid (rbyte_c g D _ w h)
  have HE : Hid (byteR ([], e) = (0, ([], e))) := by show _ = _; rw [byteR, failR_err _ _ he]
  rw [HE.out] at HC
  have he' : (e != 0) = true := by simpa using he
  clear h he HE
  go_enter Try.func38, Try.ntmps38
  go_wp2_with fail
  go_loopw [3, 6] (fun n i wr => n = .int .i64 0 ∧ i = .int .i64 0 ∧ wr = w) (fun _ _ _ => 0)
  case atStart => exact ⟨rfl, rfl, rfl⟩
  case round =>
    obtain ⟨rfl, rfl, rfl⟩ := hrel
    go_wp2_with fail
    refine HC.out.mono ?_
    rintro en w1 ⟨rfl, h1, h2⟩
    have c1 := h1.errCell
    go_wp2
    go_ret
    exact ⟨rfl, h1, h2⟩
theorem pow_le8 (i : Nat) (h : i ≤ 8) : 128 ^ i ≤ 72057594037927936 := Nat.pow_le_pow_right (by decide) h
theorem pow7 (i : Nat) : 2 ^ (7 * i) = 128 ^ i := by rw [Nat.pow_mul]
set_option maxHeartbeats 3200000 in
theorem rnumber_ok (g : Nat) (D : Option Nat) (b : List Nat) (w : World) (E N : Nat) (r : List Nat) (h : RAt w g D (b, 0)) (hR : Hid (readL b = (E, N, r))) :
    Calls Try.prog 38 #[.pointer (some ⟨g, 0, none⟩)] w (RPost w g D (r, (E : Int)) (.int .i64 (N : Int))) := by
  have H := Lib.hid h
  clear h
  go_enter Try.func38, Try.ntmps38
  go_wp2_with fail
  go_loopw [3, 6] (fun n x wr => ∃ (i acc : Nat) (b : List Nat), i ≤ 8 ∧ acc < 128 ^ i ∧ n = .int .i64 (acc : Int) ∧ x = .int .i64 (i : Int) ∧ Hid (RAt wr g D (b, 0)) ∧ w.grownBy wr (some g) ∧ Hid (numR (8 - i) i acc b = (E, N, r))) (fun _ x _ => 8 - (intOf x).toNat)
  case atStart => exact ⟨0, 0, b, by decide, by decide, rfl, rfl, H, World.grownBy.refl _ _, hR⟩
  case round =>
    clear H hR
    obtain ⟨i, acc, b, hi8, hacc, rfl, rfl, H, hgr, hR⟩ := hrel
    by_cases hi : i < 8
    · have hi2 : decide ((i : Int) < 8) = true := by simp; omega
      obtain ⟨k, hk⟩ : ∃ k, Hid (8 - i = k + 1) := ⟨7 - i, by show _ = _; omega⟩
      have HC := Lib.hid (rbyte_c g D _ wr H.out)
      rw [hk.out] at hR
      cases b with
      | nil =>
        have HE : Hid (byteR ([], 0) = (0, ([], 4))) := rfl
        rw [HE.out] at HC
        have HR : Hid ((4, 0, ([] : List Nat)) = (E, N, r)) := by show _ = _; rw [← hR.out]; rfl
        clear HE hR
        go_wp2_with fail
        refine HC.out.mono ?_
        rintro en w1 ⟨rfl, h1, h2⟩
        have c1 := h1.errCell
        go_wp2
        go_ret
        obtain ⟨rfl, rfl, rfl⟩ : E = 4 ∧ N = 0 ∧ r = [] := by have := HR.out; simp only [Prod.mk.injEq] at this; exact ⟨this.1.symm, this.2.1.symm, this.2.2.symm⟩
        exact ⟨rfl, h1, only_trans hgr h2⟩
      | cons x b =>
        have HE : Hid (byteR (x :: b, 0) = (x, (b, 0))) := rfl
        rw [HE.out] at HC
        have hx8 : x < 256 := H.out.byte x (by simp)
        clear HE
        by_cases hz : x = 0 ∧ 0 < i
        · obtain ⟨rfl, hi0⟩ := hz
          have HR : Hid ((6, 0, ([] : List Nat)) = (E, N, r)) := by show _ = _; rw [← hR.out]; exact (numR_form k i acc b hi0).symm
          have hi1 : decide ((0 : Int) < (i : Int)) = true := by simp; omega
          clear hR
          go_wp2_with fail
          refine HC.out.mono ?_
          rintro en w1 ⟨rfl, h1, h2⟩
          have c1 := h1.errCell
          have H1 := Lib.hid h1
          clear h1
          go_wp2_with fail
          refine (rfail_c g D _ 6 w1 H1.out (by decide)).mono ?_
          rw [failR_ok _ _ rfl (by decide)]
          rintro en w2 ⟨⟨v, rfl⟩, h3, h4⟩
          go_wp2
          go_ret
          obtain ⟨rfl, rfl, rfl⟩ : E = 6 ∧ N = 0 ∧ r = [] := by have := HR.out; simp only [Prod.mk.injEq] at this; exact ⟨this.1.symm, this.2.1.symm, this.2.2.symm⟩
          exact ⟨rfl, h3, only_trans hgr (only_trans h2 h4)⟩
        · by_cases hx0 : x = 0
          · subst hx0
            obtain rfl : i = 0 := by omega
            have HR : Hid ((0, acc, b) = (E, N, r)) := by show _ = _; rw [← hR.out, numR_last k 0 acc 0 b hz (by decide)]; rfl
            clear hR
            go_wp2_with fail
            refine HC.out.mono ?_
            rintro en w1 ⟨rfl, h1, h2⟩
            have c1 := h1.errCell
            have H1 := Lib.hid h1
            clear h1
            go_wp2
            go_ret
            obtain ⟨rfl, rfl, rfl⟩ : E = 0 ∧ N = acc ∧ r = b := by have := HR.out; simp only [Prod.mk.injEq] at this; exact ⟨this.1.symm, this.2.1.symm, this.2.2.symm⟩
            exact ⟨rfl, H1.out, only_trans hgr h2⟩
          · obtain ⟨p, hp⟩ : ∃ p, Hid (p = x % 128 * 128 ^ i) := ⟨_, rfl⟩
            have hpl : p ≤ 127 * 128 ^ i := by rw [hp.out]; exact Nat.mul_le_mul_right _ (by omega)
            have hu7 : 128 ^ i ≤ 562949953421312 := Nat.pow_le_pow_right (n := 128) (i := i) (j := 7) (by decide) (by omega)
            have hpe : ((x : Int) % 128) * 2 ^ (7 * i) = (p : Int) := by rw [hp.out, ← pow7]; simp
            have HPE := Lib.hid hpe
            clear hpe
            have hxz : ((x : Int) == 0) = false := by simp; omega
            go_wp2_with fail
            refine HC.out.mono ?_
            rintro en w1 ⟨rfl, h1, h2⟩
            have c1 := h1.errCell
            have H1 := Lib.hid h1
            clear h1
            go_upto_region 12 with (fail)
            rw [HPE.out, IntWalk.wrap64_in (p : Int) (by omega), IntWalk.wrap64_in ((acc : Int) + (p : Int)) (by omega), show (acc : Int) + (p : Int) = ((acc + p : Nat) : Int) by omega]
            obtain ⟨q, hq⟩ : ∃ q, Hid (acc + p = q) := ⟨_, rfl⟩
            have hql : q < 128 ^ (i + 1) := by rw [← hq.out, Nat.pow_succ]; omega
            rw [hq.out]
            by_cases h128 : x < 128
            · have HR : Hid ((0, q, b) = (E, N, r)) := by show _ = _; rw [← hR.out, numR_last k i acc x b hz h128, ← hq.out, hp.out, Nat.mod_eq_of_lt h128]
              have h128' : decide ((x : Int) < 128) = true := by simp; omega
              clear hR hpl hql
              go_wp2
              go_ret
              obtain ⟨rfl, rfl, rfl⟩ : E = 0 ∧ N = q ∧ r = b := by have := HR.out; simp only [Prod.mk.injEq] at this; exact ⟨this.1.symm, this.2.1.symm, this.2.2.symm⟩
              exact ⟨rfl, H1.out, only_trans hgr h2⟩
            · have HR : Hid (numR (8 - (i + 1)) (i + 1) q b = (E, N, r)) := by
                show _ = _
                rw [← hR.out, numR_more k i acc x b h128, ← hq.out, hp.out]
                congr 1
                have := hk.out
                omega
              have h128' : decide ((x : Int) < 128) = false := by simp; omega
              clear hR hpl
              have hgr2 := only_trans hgr h2
              go_wp2
              go_roundw
              case rel => exact ⟨i + 1, q, b, by omega, hql, rfl, by go_num, H1, hgr2, HR⟩
              case measure => simp [intOf]; omega
    · obtain rfl : i = 8 := by omega
      have HR : Hid ((5, 0, ([] : List Nat)) = (E, N, r)) := by show _ = _; rw [← hR.out]; rfl
      clear hR hi hi8
      go_wp2_with fail
      refine (rfail_c g D _ 5 wr H.out (by decide)).mono ?_
      rw [failR_ok _ _ rfl (by decide)]
      rintro en w2 ⟨⟨v, rfl⟩, h3, h4⟩
      go_wp2
      go_ret
      obtain ⟨rfl, rfl, rfl⟩ : E = 5 ∧ N = 0 ∧ r = [] := by have := HR.out; simp only [Prod.mk.injEq] at this; exact ⟨this.1.symm, this.2.1.symm, this.2.2.symm⟩
      exact ⟨rfl, h3, only_trans hgr h4⟩
theorem rnumber_c (g : Nat) (D : Option Nat) (s : List Nat × Int) (w : World) (h : RAt w g D s) :
    Calls Try.prog 38 #[.pointer (some ⟨g, 0, none⟩)] w (RPost w g D (numberR s).2 (.int .i64 ((numberR s).1 : Int))) := by
  obtain ⟨b, e⟩ := s
  by_cases he : e = 0
  · subst he
    rw [numberR, if_pos rfl]
    exact rnumber_ok g D b w _ _ _ h rfl
  · rw [numberR, if_neg he]
    exact rnumber_err g D _ w h he
theorem numberR_lt (s : List Nat × Int) (hb : ∀ x ∈ s.1, x < 256) : (numberR s).1 < 72057594037927936 := by
  unfold numberR; split
  · exact readL_lt _ hb
  · exact (by decide : 0 < 72057594037927936)
end Go.Proofs.Ytbmnpbmimhodbaa
