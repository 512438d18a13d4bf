/- What the methods Number, Signed, Text and Key of a Writer of package codec do, for every argument, as a walk through the translated text. Conditions: as in the text before. -/
import Derived.Test.YtbmnpbmimhodbaaCodec1
namespace Go.Proofs.Ytbmnpbmimhodbaa
open Go.ChangeShapes Go.WideShapes Go.RowKit
set_option maxHeartbeats 800000 in
theorem wnumber_err (g : Nat) (F : Nat → Prop) (s : List Nat × Int) (n : Int) (w : World) (h : WAt w g F s) (hn : ¬ (0 ≤ n ∧ n ≤ 72057594037927935)) :
    Calls Try.prog 37 #[.pointer (some ⟨g, 0, none⟩), .int .i64 n] w (WPost w g F (wrote s (1, []))) := by
  have H := Lib.hid h
  clear h
  by_cases h0 : n < 0
  · clear hn
    go_enter Try.func37, Try.ntmps37
    go_wp2_with fail
    refine (wfail_c g F s 1 w H.out (by decide)).mono ?_
    rintro en w1 ⟨⟨v, rfl⟩, h1, h2⟩
    go_wp2
    go_end0
    exact ⟨⟨_, rfl⟩, h1, h2⟩
  · have h1 : 72057594037927935 < n := by omega
    clear hn
    go_enter Try.func37, Try.ntmps37
    go_wp2_with fail
    refine (wfail_c g F s 1 w H.out (by decide)).mono ?_
    rintro en w1 ⟨⟨v, rfl⟩, h1, h2⟩
    go_wp2
    go_end0
    exact ⟨⟨_, rfl⟩, h1, h2⟩
set_option maxHeartbeats 1600000 in
theorem wnumber_ok (g : Nat) (F : Nat → Prop) (s : List Nat × Int) (n : Nat) (w : World) (h : WAt w g F s) (hn : n < 72057594037927936) (hb : s.1.length + 8 ≤ 1099511627776) :
    Calls Try.prog 37 #[.pointer (some ⟨g, 0, none⟩), .int .i64 (n : Int)] w (WPost w g F (wrote s (0, numL n))) := by
  have H := Lib.hid h
  clear h
  obtain ⟨L, hL⟩ : ∃ L, Hid (numL n = L) := ⟨_, rfl⟩
  have hLl : Hid (L.length ≤ 8) := by show _ ≤ _; rw [← hL.out]; exact numL_len 7 n hn
  rw [hL.out]
  go_enter Try.func37, Try.ntmps37
  go_wp2_with fail
  go_loopw [1] (fun x wr => ∃ (m : Nat) (pre : List Nat), x = .int .i64 (m : Int) ∧ m < 72057594037927936 ∧ Hid (L = pre ++ numL m) ∧ Hid (WAt wr g (orNew F w) (wrote s (0, pre))) ∧ Chg F w wr) (fun x _ => (intOf x).toNat)
  case atStart => exact ⟨n, [], rfl, hn, hL.out.symm, by show WAt _ _ _ _; rw [wrote_none]; exact H.out.mono inNew, Chg.refl _ _⟩
  case round =>
    obtain ⟨m, pre, rfl, hm, hpre, hat, hchg⟩ := hrel
    have hpl : pre.length + (numL m).length ≤ 8 := by rw [← List.length_append, ← hpre.out]; exact hLl.out
    have hsl : (wrote s (0, pre)).1.length ≤ s.1.length + pre.length := wrote_len _ _
    by_cases h1 : m < 128
    · have h128 : decide ((128 : Int) ≤ (m : Int)) = false := by simp; omega
      have HP : Hid (wrote (wrote s (0, pre)) (0, [m]) = wrote s (0, L)) := by show _ = _; rw [wrote_two, hpre.out, numL_lt m h1]
      have hm8 : m < 256 := by omega
      have hlen : (numL m).length = 1 := by rw [numL_lt m h1]; rfl
      rw [hlen] at hpl
      clear hlen
      go_wp2_with fail
      refine (wput_new g (orNew F w) (wrote s (0, pre)) [m] _ 1 _ wr hat.out rfl rfl (by decide) (by simpa using hm8) (by omega)).mono ?_
      rw [HP.out]
      intro en w1 hpost
      obtain ⟨⟨v, rfl⟩, h2, h3⟩ := WPost.behind hchg hpost
      clear hpost
      go_wp2
      go_end0
      exact ⟨⟨_, rfl⟩, h2, h3⟩
    · have h128 : decide ((128 : Int) ≤ (m : Int)) = true := by simp; omega
      obtain ⟨b, hb'⟩ : ∃ b, Hid (b = m % 128 + 128) := ⟨_, rfl⟩
      have hb8 : b < 256 := by have := hb'.out; omega
      have HP : Hid (L = (pre ++ [b]) ++ numL (m / 128)) := by show _ = _; rw [hpre.out, numL_ge m h1, hb'.out]; simp
      have hpl1 : 1 ≤ (numL m).length := by rw [numL_ge m h1]; simp
      have hcast : (m : Int) % 128 + 128 = (b : Int) := by have := hb'.out; omega
      have HC := Lib.hid hcast
      clear hcast
      go_wp2_with fail
      rw [HC.out]
      refine (wput_new g (orNew F w) (wrote s (0, pre)) [b] _ 1 _ wr hat.out rfl rfl (by decide) (by simpa using hb8) (by omega)).mono ?_
      rw [wrote_two]
      intro en w1 hpost
      obtain ⟨⟨v, rfl⟩, h2, h3⟩ := WPost.behind hchg hpost
      clear hpost
      have H2 := Lib.hid h2
      clear h2
      go_wp2
      go_roundw
      case rel => exact ⟨m / 128, pre ++ [b], by go_num, by omega, HP, H2, h3⟩
      case measure => simp [intOf]; omega
theorem wnumber_c (g : Nat) (F : Nat → Prop) (s : List Nat × Int) (n : Int) (w : World) (h : WAt w g F s) (hb : s.1.length + 8 ≤ 1099511627776) :
    Calls Try.prog 37 #[.pointer (some ⟨g, 0, none⟩), .int .i64 n] w (WPost w g F (wrote s (encN n))) := by
  unfold encN
  by_cases hn : 0 ≤ n ∧ n ≤ 72057594037927935
  · rw [if_pos hn]
    have := wnumber_ok g F s n.toNat w h (by omega) hb
    rwa [Int.toNat_of_nonneg hn.1] at this
  · rw [if_neg hn]
    exact wnumber_err g F s n w h hn
end Go.Proofs.Ytbmnpbmimhodbaa
