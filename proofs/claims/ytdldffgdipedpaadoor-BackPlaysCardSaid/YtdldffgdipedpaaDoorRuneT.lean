/- What Text of package runes returns, for every argument, as a walk through the translated text. Conditions: slices read as lists. -/
import Derived.Test.YtdldffgdipedpaaDoorRuneFeed
import Derived.Test.YtdldffgdipedpaaDoorRegs
import Derived.Test.YtdldffgdipedpaaDoorOpen3
import Derived.Test.YtdldffgdipedpaaDoorChecked
import Derived.Laws.Cover4
import Derived.Laws.RangeAny
namespace Go.Proofs.YtdldffgdipedpaaDoor
open Go.ChangeShapes Go.WideShapes Go.RowKit Go.Lib
/-! ### Text -/
theorem strL_uni (c : Int) : strL (Utf8.encode c) = uniZ c := by
  have hv : Utf8.valid c = signZ c := by
    rw [Bool.eq_iff_iff]
    simp only [Utf8.valid, signZ, Bool.or_eq_true, Bool.and_eq_true, decide_eq_true_eq]
    omega
  have hc : (if Utf8.valid c = true then c.toNat else Utf8.runeError) = fixZ c := by rw [hv]; rfl
  have hf := fixZ_sign c
  simp only [signZ, decide_eq_true_eq] at hf
  unfold Utf8.encode uniZ
  rw [hc]
  generalize fixZ c = n at *
  by_cases h1 : n < 128
  · rw [if_pos h1, uniN_1 n h1]; simp [strL]; omega
  · rw [if_neg h1]
    by_cases h2 : n < 2048
    · rw [if_pos h2, uniN_2 n (by omega) h2]; simp [strL]; omega
    · rw [if_neg h2]
      by_cases h3 : n < 65536
      · rw [if_pos h3, uniN_3 n (by omega) h3]; simp [strL]; omega
      · rw [if_neg h3, uniN_4 n (by omega)]; simp [strL]; omega
theorem strL_runes (zs : List Int) : strL (runesBytes zs) = textZ zs := by
  have : ∀ (zs : List Int) (s : ByteArray), strL (zs.foldl (fun s n => s ++ Utf8.encode n) s) = strL s ++ textZ zs := by
    intro zs
    induction zs with
    | nil => intro s; simp [textZ]
    | cons z zs ih => intro s; rw [List.foldl_cons, ih, strL_append, strL_uni]; simp [textZ]
  exact this zs .empty
set_option maxHeartbeats 800000 in
theorem text_c (A : Option Addr) (n c : Nat) (zs : List Int) (w : World) (hr : ReadsI .i32 w A n c zs) : Calls Tryd.prog 21 #[.slice A n c] w fun en w' => ∃ t : ByteArray, en = .returned (.string t) ∧ strL t = textZ zs ∧ w' = w := by
  have hcv : ∃ t : ByteArray, (convert 47 9 (.slice A n c)).run Tryd.prog w = .ok (.string t) w ∧ strL t = textZ zs := by
    cases A with
    | none =>
      refine ⟨_, run_convert_runes_nil w 47 9 21 n c Tryd.underlying47 Tryd.underlying21 Tryd.underlying9, ?_⟩
      have : zs = [] := by
        cases zs with
        | nil => rfl
        | cons z r => obtain ⟨ad, e, _⟩ := hr.cell 0 (by simp); cases e
      subst this
      rfl
    | some ad =>
      refine ⟨_, run_convert_runes w 47 9 21 ad n c zs (by rw [hr.len]; exact Nat.le_refl _) Tryd.underlying47 Tryd.underlying21 Tryd.underlying9 (fun j hj => ?_), ?_⟩
      · obtain ⟨ad', e, _, hc⟩ := hr.cell j hj
        cases e
        rw [hc, List.getD_eq_getElem?_getD, List.getElem?_eq_getElem hj]; rfl
      · rw [List.take_of_length_le (by rw [hr.len]; exact Nat.le_refl _), strL_runes]
  obtain ⟨t, ht, hs⟩ := hcv
  have HS := Lib.hid hs
  clear hr hs
  go_enter Tryd.func21, Tryd.ntmps21
  go_wp2
  go_ret
  exact ⟨t, rfl, HS.out, rfl⟩
end Go.Proofs.YtdldffgdipedpaaDoor
