/- What Bytes, Text, malformed and Valid of package runes return, for every argument, as a walk through the translated text. Conditions: slices read as lists; the two tables of unicode/utf8 hold what their text lays. -/
import Derived.Test.YtgkbgckpdkdngaaDoorRune2
import Derived.Test.YtgkbgckpdkdngaaDoorOpen3
import Derived.Laws.Cover4
import Derived.Laws.RangeAny
namespace Go.Proofs.YtgkbgckpdkdngaaDoor
open Go.ChangeShapes Go.WideShapes Go.RowKit Go.Lib
/-! ### Bytes -/
theorem cells_uni (c : Int) : Lib.runeCells c = ints .u8 (uniZ c) := by
  unfold Lib.runeCells uniZ ints
  by_cases hs : signZ c = true
  · have h := hs
    simp only [signZ, decide_eq_true_eq] at h
    obtain ⟨n, rfl⟩ : ∃ n : Nat, c = (n : Int) := ⟨c.toNat, by omega⟩
    rw [fixZ_fix n hs]
    by_cases h1 : n < 128
    · rw [uniN_1 n h1, encodeRuneZ_one (by omega) (by omega)]; rfl
    · by_cases h2 : n < 2048
      · rw [uniN_2 n (by omega) h2, encodeRuneZ_two (by omega) (by omega)]; rfl
      · by_cases h3 : n < 65536
        · rw [uniN_3 n (by omega) h3, encodeRuneZ_three (by omega)]; rfl
        · rw [uniN_4 n (by omega), encodeRuneZ_four (by omega) (by omega)]; rfl
  · rw [fixZ, if_neg hs]
    have h := hs
    simp only [signZ, decide_eq_true_eq] at h
    have e : encodeRuneZ c = [239, 191, 189] := by
      unfold encodeRuneZ
      rw [if_neg (by omega), if_neg (by omega), if_neg (by omega), if_neg (by omega)]
    rw [e]; rfl
set_option maxHeartbeats 800000 in
theorem rbytes_c (c : Int) (w : World) (h0 : -2147483648 ≤ c) (h1 : c ≤ 2147483647) : Calls Tryd.prog 13 #[.int .i32 c] w (RowPost w 5 (uniZ c).length (ints .u8 (uniZ c))) := by
  have HC := Lib.hid (Tryd.utf8_AppendRune_plain w.heap.size (.slice none 0 0) 0 [] c h0 h1 w (World.ownsRow_nil _ _ _ _) (by decide) (Nat.le_refl _))
  rw [cells_uni] at HC
  clear h0 h1
  go_enter Tryd.func13, Tryd.ntmps13
  go_wp2_with fail
  refine HC.out.mono ?_
  rintro en w1 ⟨v, rfl, ho, o, hg⟩
  rw [Nat.zero_add, List.nil_append, length_ints] at ho
  obtain ⟨A1, c1, rfl⟩ := own_form ho
  have HO := Lib.hid ho
  have HG := Lib.hid hg
  clear ho hg
  go_wp2
  go_ret
  exact ⟨_, rfl, HO.out, ((Below.refl _ _).alloc (Nat.le_refl _) o).grown HG.out (by simp) (by simp [Value.ownBlock])⟩
/-! ### Text -/
theorem strL_uni (c : Int) : strL (Utf8.encode c) = uniZ c := by
  have hv : Utf8.valid c = signZ c := by
    rw [Bool.eq_iff_iff]
    simp only [Utf8.valid, signZ, Bool.or_eq_true, Bool.and_eq_true, decide_eq_true_eq]
    omega
  have hc : (if Utf8.valid c = true then c.toNat else Utf8.runeError) = fixZ c := by rw [hv]; rfl
  have hf := fixZ_sign c
  simp only [signZ, decide_eq_true_eq] at hf
  unfold Utf8.encode uniZ
  rw [hc]
  generalize fixZ c = n at *
  by_cases h1 : n < 128
  · rw [if_pos h1, uniN_1 n h1]; simp [strL]; omega
  · rw [if_neg h1]
    by_cases h2 : n < 2048
    · rw [if_pos h2, uniN_2 n (by omega) h2]; simp [strL]; omega
    · rw [if_neg h2]
      by_cases h3 : n < 65536
      · rw [if_pos h3, uniN_3 n (by omega) h3]; simp [strL]; omega
      · rw [if_neg h3, uniN_4 n (by omega)]; simp [strL]; omega
theorem strL_runes (zs : List Int) : strL (runesBytes zs) = textZ zs := by
  have : ∀ (zs : List Int) (s : ByteArray), strL (zs.foldl (fun s n => s ++ Utf8.encode n) s) = strL s ++ textZ zs := by
    intro zs
    induction zs with
    | nil => intro s; simp [textZ]
    | cons z zs ih => intro s; rw [List.foldl_cons, ih, strL_append, strL_uni]; simp [textZ]
  exact this zs .empty
set_option maxHeartbeats 800000 in
theorem text_c (A : Option Addr) (n c : Nat) (zs : List Int) (w : World) (hr : ReadsI .i32 w A n c zs) : Calls Tryd.prog 23 #[.slice A n c] w fun en w' => ∃ t : ByteArray, en = .returned (.string t) ∧ strL t = textZ zs ∧ w' = w := by
  have hcv : ∃ t : ByteArray, (convert 30 9 (.slice A n c)).run Tryd.prog w = .ok (.string t) w ∧ strL t = textZ zs := by
    cases A with
    | none =>
      refine ⟨_, run_convert_runes_nil w 30 9 21 n c Tryd.underlying30 Tryd.underlying21 Tryd.underlying9, ?_⟩
      have : zs = [] := by
        cases zs with
        | nil => rfl
        | cons z r => obtain ⟨ad, e, _⟩ := hr.cell 0 (by simp); cases e
      subst this
      rfl
    | some ad =>
      refine ⟨_, run_convert_runes w 30 9 21 ad n c zs (by rw [hr.len]; exact Nat.le_refl _) Tryd.underlying30 Tryd.underlying21 Tryd.underlying9 (fun j hj => ?_), ?_⟩
      · obtain ⟨ad', e, _, hc⟩ := hr.cell j hj
        cases e
        rw [hc, List.getD_eq_getElem?_getD, List.getElem?_eq_getElem hj]; rfl
      · rw [List.take_of_length_le (by rw [hr.len]; exact Nat.le_refl _), strL_runes]
  obtain ⟨t, ht, hs⟩ := hcv
  have HS := Lib.hid hs
  clear hr hs
  go_enter Tryd.func23, Tryd.ntmps23
  go_wp2
  go_ret
  exact ⟨t, rfl, HS.out, rfl⟩
/-! ### malformed -/
def pfB (l : List Nat) : Bool := [239, 191, 189].isPrefixOf l
def badB (l : List Nat) : Bool := decide ((decL l).1 = 65533) && !pfB l
theorem beq_byte (a b : UInt8) : (a == b) = (a.toNat == b.toNat) := by
  rw [Bool.eq_iff_iff]; simp [UInt8.toNat_inj]
theorem has_pre (x : ByteArray) : Lib.hasPrefix x.data.toList [239, 191, 189] = pfB (strL x) := by
  unfold Lib.hasPrefix pfB strL
  generalize x.data.toList = l
  match l with
  | [] => rfl
  | [a] => simp [List.isPrefixOf, beq_byte]
  | [a, b] => simp [List.isPrefixOf, beq_byte]
  | a :: b :: c :: r => simp [List.isPrefixOf, beq_byte]
theorem pfB_iff (l : List Nat) : pfB l = true ↔ ∃ r, l = [239, 191, 189] ++ r := by
  unfold pfB
  rw [List.isPrefixOf_iff_prefix]
  exact ⟨fun ⟨r, h⟩ => ⟨r, h.symm⟩, fun ⟨r, h⟩ => ⟨r, h.symm⟩⟩
theorem bad_yes (l : List Nat) (h0 : 0 < l.length) (hb : ∀ x ∈ l, x < 256) (h : badB l = true) : (∀ k, okL (l.take k) = false) ∧ decL l = (65533, 1) := by
  rcases dec_cases l h0 hb with ⟨e, r, rfl, he, hd⟩ | h'
  · exfalso
    simp only [badB, hd, Bool.and_eq_true, decide_eq_true_eq, Bool.not_eq_true'] at h
    have h2 := (ok_enc e he).1
    rw [h.1] at h2
    have : pfB (e ++ r) = true := (pfB_iff _).2 ⟨r, by rw [← h2]; rfl⟩
    rw [h.2] at this
    cases this
  · exact h'
theorem bad_no (l : List Nat) (h0 : 0 < l.length) (hb : ∀ x ∈ l, x < 256) (h : badB l = false) : ∃ e r, l = e ++ r ∧ okL e = true ∧ decL l = (valL e, e.length) := by
  rcases dec_cases l h0 hb with h' | ⟨hk, hd⟩
  · exact h'
  · exfalso
    simp only [badB, hd, decide_true, Bool.true_and, Bool.not_eq_false'] at h
    obtain ⟨r, rfl⟩ := (pfB_iff _).1 h
    have := hk 3
    simp [okL] at this
set_option maxHeartbeats 800000 in
theorem malformed_c (s : ByteArray) (i : Nat) (w : World) (hi : i < s.size) : Calls Tryd.prog 29 #[.string s, .int .i64 (i : Int), .int .i32 ((decL ((strL s).drop i)).1 : Int)] w fun en w' => en = .returned (.bool (badB ((strL s).drop i))) ∧ w' = w := by
  obtain ⟨c, hc⟩ : ∃ c, Hid ((decL ((strL s).drop i)).1 = c) := ⟨_, Lib.hid rfl⟩
  rw [hc.out]
  have HE : Hid (strL (s.extract i s.size) = (strL s).drop i) := by
    show _ = _
    rw [strL_extract, List.take_of_length_le (by rw [length_strL]; exact Nat.le_refl _)]
  by_cases h1 : c = 65533
  · subst h1
    have HR : Hid (badB ((strL s).drop i) = !pfB ((strL s).drop i)) := by show _ = _; rw [badB, hc.out]; simp
    rw [HR.out]
    have HP := Lib.hid (Tryd.strings_HasPrefix (s.extract i s.size) { data := #[239, 191, 189] } w)
    have hle : (i : Int) ≤ (s.size : Int) := by omega
    have h0 : (0 : Int) ≤ (i : Int) := by omega
    go_enter Tryd.func29, Tryd.ntmps29
    go_wp2_with fail
    refine (HP.out).mono ?_
    rintro en w1 ⟨rfl, rfl⟩
    rw [has_pre, HE.out]
    clear HP HR HE hc
    go_wp2
    go_ret
    exact ⟨rfl, rfl⟩
  · have hne : ((c : Int) == 65533) = false := by simpa using (by omega : (c : Int) ≠ 65533)
    have HR : Hid (badB ((strL s).drop i) = false) := by show _ = _; rw [badB, hc.out]; simp [h1]
    rw [HR.out]
    clear hc HR HE hi h1
    go_enter Tryd.func29, Tryd.ntmps29
    go_wp2
    go_ret
    exact ⟨rfl, rfl⟩
end Go.Proofs.YtgkbgckpdkdngaaDoor
