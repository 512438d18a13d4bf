/- What the methods Number, Signed, Text and Key of a Writer of package codec do, for every argument, as a walk through the translated text. Conditions: as in the text before. -/
import Derived.Test.YtgoaelfifdalcaaCodec1
namespace Go.Proofs.Ytgoaelfifdalcaa
open Go.ChangeShapes Go.WideShapes Go.RowKit
set_option maxHeartbeats 800000 in
theorem wnumber_err (g : Nat) (F : Nat → Prop) (s : List Nat × Int) (n : Int) (w : World) (h : WAt w g F s) (hn : ¬ (0 ≤ n ∧ n ≤ 72057594037927935)) :
    Calls Try.prog 27 #[.pointer (some ⟨g, 0, none⟩), .int .i64 n] w (WPost w g F (wrote s (1, []))) := by
  have H := Lib.hid h
  clear h
  by_cases h0 : n < 0
  · clear hn
    go_enter Try.func27, Try.ntmps27
    go_wp2_with fail
    refine (wfail_c g F s 1 w H.out (by decide)).mono ?_
    rintro en w1 ⟨⟨v, rfl⟩, h1, h2⟩
    go_wp2
    go_end0
    exact ⟨⟨_, rfl⟩, h1, h2⟩
  · have h1 : 72057594037927935 < n := by omega
    clear hn
    go_enter Try.func27, Try.ntmps27
    go_wp2_with fail
    refine (wfail_c g F s 1 w H.out (by decide)).mono ?_
    rintro en w1 ⟨⟨v, rfl⟩, h1, h2⟩
    go_wp2
    go_end0
    exact ⟨⟨_, rfl⟩, h1, h2⟩
set_option maxHeartbeats 1600000 in
theorem wnumber_ok (g : Nat) (F : Nat → Prop) (s : List Nat × Int) (n : Nat) (w : World) (h : WAt w g F s) (hn : n < 72057594037927936) (hb : s.1.length + 8 ≤ 1099511627776) :
    Calls Try.prog 27 #[.pointer (some ⟨g, 0, none⟩), .int .i64 (n : Int)] w (WPost w g F (wrote s (0, numL n))) := by
  have H := Lib.hid h
  clear h
  obtain ⟨L, hL⟩ : ∃ L, Hid (numL n = L) := ⟨_, rfl⟩
  have hLl : Hid (L.length ≤ 8) := by show _ ≤ _; rw [← hL.out]; exact numL_len 7 n hn
  rw [hL.out]
  go_enter Try.func27, Try.ntmps27
  go_wp2_with fail
  go_loopw [1] (fun x wr => ∃ (m : Nat) (pre : List Nat), x = .int .i64 (m : Int) ∧ m < 72057594037927936 ∧ Hid (L = pre ++ numL m) ∧ Hid (WAt wr g (orNew F w) (wrote s (0, pre))) ∧ Chg F w wr) (fun x _ => (intOf x).toNat)
  case atStart => exact ⟨n, [], rfl, hn, hL.out.symm, by show WAt _ _ _ _; rw [wrote_none]; exact H.out.mono inNew, Chg.refl _ _⟩
  case round =>
    obtain ⟨m, pre, rfl, hm, hpre, hat, hchg⟩ := hrel
    have hpl : pre.length + (numL m).length ≤ 8 := by rw [← List.length_append, ← hpre.out]; exact hLl.out
    have hsl : (wrote s (0, pre)).1.length ≤ s.1.length + pre.length := wrote_len _ _
    by_cases h1 : m < 128
    · have h128 : decide ((128 : Int) ≤ (m : Int)) = false := by simp; omega
      have HP : Hid (wrote (wrote s (0, pre)) (0, [m]) = wrote s (0, L)) := by show _ = _; rw [wrote_two, hpre.out, numL_lt m h1]
      have hm8 : m < 256 := by omega
      have hlen : (numL m).length = 1 := by rw [numL_lt m h1]; rfl
      rw [hlen] at hpl
      clear hlen
      go_wp2_with fail
      refine (put_new g (orNew F w) (wrote s (0, pre)) [m] _ 1 _ wr hat.out rfl rfl (by decide) (by simpa using hm8) (by omega)).mono ?_
      rw [HP.out]
      intro en w1 hpost
      obtain ⟨⟨v, rfl⟩, h2, h3⟩ := WPost.behind hchg hpost
      clear hpost
      go_wp2
      go_end0
      exact ⟨⟨_, rfl⟩, h2, h3⟩
    · have h128 : decide ((128 : Int) ≤ (m : Int)) = true := by simp; omega
      obtain ⟨b, hb'⟩ : ∃ b, Hid (b = m % 128 + 128) := ⟨_, rfl⟩
      have hb8 : b < 256 := by have := hb'.out; omega
      have HP : Hid (L = (pre ++ [b]) ++ numL (m / 128)) := by show _ = _; rw [hpre.out, numL_ge m h1, hb'.out]; simp
      have hpl1 : 1 ≤ (numL m).length := by rw [numL_ge m h1]; simp
      have hcast : (m : Int) % 128 + 128 = (b : Int) := by have := hb'.out; omega
      have HC := Lib.hid hcast
      clear hcast
      go_wp2_with fail
      rw [HC.out]
      refine (put_new g (orNew F w) (wrote s (0, pre)) [b] _ 1 _ wr hat.out rfl rfl (by decide) (by simpa using hb8) (by omega)).mono ?_
      rw [wrote_two]
      intro en w1 hpost
      obtain ⟨⟨v, rfl⟩, h2, h3⟩ := WPost.behind hchg hpost
      clear hpost
      have H2 := Lib.hid h2
      clear h2
      go_wp2
      go_roundw
      case rel => exact ⟨m / 128, pre ++ [b], by go_num, by omega, HP, H2, h3⟩
      case measure => simp [intOf]; omega
theorem wnumber_c (g : Nat) (F : Nat → Prop) (s : List Nat × Int) (n : Int) (w : World) (h : WAt w g F s) (hb : s.1.length + 8 ≤ 1099511627776) :
    Calls Try.prog 27 #[.pointer (some ⟨g, 0, none⟩), .int .i64 n] w (WPost w g F (wrote s (encN n))) := by
  unfold encN
  by_cases hn : 0 ≤ n ∧ n ≤ 72057594037927935
  · rw [if_pos hn]
    have := wnumber_ok g F s n.toNat w h (by omega) hb
    rwa [Int.toNat_of_nonneg hn.1] at this
  · rw [if_neg hn]
    exact wnumber_err g F s n w h hn
set_option maxHeartbeats 800000 in
theorem wsigned_c (g : Nat) (F : Nat → Prop) (s : List Nat × Int) (n : Int) (w : World) (h : WAt w g F s) (hb : s.1.length + 8 ≤ 1099511627776) :
    Calls Try.prog 28 #[.pointer (some ⟨g, 0, none⟩), .int .i64 n] w (WPost w g F (wrote s (encS n))) := by
  have H := Lib.hid h
  clear h
  by_cases hn : -36028797018963968 ≤ n ∧ n ≤ 36028797018963967
  · obtain ⟨ha, hz⟩ := hn
    have HE : Hid (encS n = (0, numL (sgnN n))) := by show _ = _; rw [encS, if_pos ⟨ha, hz⟩]
    have hlt := sgnN_lt n ha hz
    rw [HE.out]
    by_cases h0 : n < 0
    · have HS : Hid (-1 - 2 * n = (sgnN n : Int)) := by show _ = _; rw [sgnN, if_pos h0]; omega
      generalize sgnN n = m at *
      go_enter Try.func28, Try.ntmps28
      go_wp2_with fail
      rw [HS.out]
      refine (wnumber_ok g F s m w H.out hlt hb).mono ?_
      rintro en w1 ⟨⟨v, rfl⟩, h1, h2⟩
      go_wp2
      go_end0
      exact ⟨⟨_, rfl⟩, h1, h2⟩
    · have HS : Hid (2 * n = (sgnN n : Int)) := by show _ = _; rw [sgnN, if_neg h0]; omega
      generalize sgnN n = m at *
      go_enter Try.func28, Try.ntmps28
      go_wp2_with fail
      rw [HS.out]
      refine (wnumber_ok g F s m w H.out hlt hb).mono ?_
      rintro en w1 ⟨⟨v, rfl⟩, h1, h2⟩
      go_wp2
      go_end0
      exact ⟨⟨_, rfl⟩, h1, h2⟩
  · have HE : Hid (encS n = (1, [])) := by show _ = _; rw [encS, if_neg hn]
    rw [HE.out]
    by_cases h0 : n < -36028797018963968
    all_goals
      have h1 : ¬ (-36028797018963968 ≤ n) ∨ 36028797018963967 < n := by omega
      clear hn
      first
        | (have h2 : 36028797018963967 < n := by omega)
        | skip
      clear h1
      go_enter Try.func28, Try.ntmps28
      go_wp2_with fail
      refine (wfail_c g F s 1 w H.out (by decide)).mono ?_
      rintro en w1 ⟨⟨v, rfl⟩, h1, h2⟩
      go_wp2
      go_end0
      exact ⟨⟨_, rfl⟩, h1, h2⟩
set_option maxHeartbeats 800000 in
theorem wtext_c (g : Nat) (F : Nat → Prop) (s : List Nat × Int) (A : Option Addr) (n c : Nat) (l : List Nat) (w : World) (h : WAt w g F s) (hr : Reads .u8 w A n c l) (ho : 0 < n → ∀ ad, A = some ad → ¬ F ad.block) (hb : s.1.length + n + 8 ≤ 1099511627776) :
    Calls Try.prog 30 #[.pointer (some ⟨g, 0, none⟩), .slice A n c] w (WPost w g F (wrote s (0, numL n ++ l))) := by
  have H := Lib.hid h
  have HR := Lib.hid hr
  have hc := hr.room
  have HO := Lib.hid ho
  clear h hr ho
  have hl := wrote_len s (0, numL n)
  have hl2 : (numL n).length ≤ 8 := numL_len 7 n (by omega)
  go_enter Try.func30, Try.ntmps30
  go_wp2_with fail
  refine (wnumber_ok g F s n w H.out (by omega) (by omega)).mono ?_
  rintro en w1 ⟨⟨v, rfl⟩, h1, h2⟩
  have H1 := Lib.hid h1
  clear h1
  go_wp2_with fail
  refine (put_c g (orNew F w) _ A n c l w1 H1.out (HR.out.chg h2 HO.out) (by omega)).mono ?_
  rw [wrote_two]
  intro en w2 hpost
  obtain ⟨⟨v, rfl⟩, h3, h4⟩ := WPost.behind h2 hpost
  clear hpost
  go_wp2
  go_end0
  exact ⟨⟨_, rfl⟩, h3, h4⟩
set_option maxHeartbeats 800000 in
theorem wkey_c (g : Nat) (F : Nat → Prop) (s : List Nat × Int) (l : List Nat) (w : World) (h : WAt w g F s) (hl : l.length = 32) (hx : ∀ x ∈ l, x < 256) (hb : s.1.length + 32 ≤ 1099511627776) :
    Calls Try.prog 31 #[.pointer (some ⟨g, 0, none⟩), .agg (ints .u8 l).toArray] w (WPost w g F (wrote s (0, l))) := by
  have H := Lib.hid h
  have HL := Lib.hid hl
  have HX := Lib.hid hx
  clear h hl hx
  go_enter Try.func31, Try.ntmps31
  go_wp2_with fail
  refine (put_new g F s l _ 32 _ w H.out rfl HL.out (by decide) HX.out hb).mono ?_
  rintro en w1 ⟨⟨v, rfl⟩, h1, h2⟩
  go_wp2
  go_end0
  exact ⟨⟨_, rfl⟩, h1, h2⟩
end Go.Proofs.Ytgoaelfifdalcaa
