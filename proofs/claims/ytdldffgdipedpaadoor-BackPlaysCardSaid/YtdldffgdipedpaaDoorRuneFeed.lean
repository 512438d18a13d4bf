/- What a decoder holds and yields, byte by byte, and what a text's code points are, as functions of lists of numbers: no program. Conditions: none. -/
import Derived.Test.YtdldffgdipedpaaDoorRuneMath
namespace Go.Proofs.YtdldffgdipedpaaDoor
open Go.Lib
/-! ### one byte -/
def put1 (b : Nat) : List Nat × List Nat := if okL [b] then ([], [valL [b]]) else if preL [b] then ([b], []) else ([], [65533])
/-- The bytes that are held then, and the code points that are told. -/
def putN (h : List Nat) (b : Nat) : List Nat × List Nat :=
  if okL (h ++ [b]) then ([], [valL (h ++ [b])]) else if preL (h ++ [b]) then (h ++ [b], []) else if h = [] then ([], [65533]) else ((put1 b).1, 65533 :: (put1 b).2)
theorem putN_nil (b : Nat) : putN [] b = put1 b := by
  unfold putN put1
  simp
/-- The bytes that a decoder may hold. -/
def HeldL (h : List Nat) : Prop := h = [] ∨ preL h = true
theorem put1_held (b : Nat) : HeldL (put1 b).1 := by
  unfold put1
  repeat' split
  · exact .inl rfl
  · rename_i h; exact .inr h
  · exact .inl rfl
theorem put_held (h : List Nat) (b : Nat) : HeldL (putN h b).1 := by
  unfold putN
  repeat' split
  · exact .inl rfl
  · rename_i h; exact .inr h
  · exact .inl rfl
  · exact put1_held b
theorem put1_len (b : Nat) : (put1 b).1.length ≤ 1 ∧ (put1 b).2.length ≤ 1 := by
  unfold put1
  repeat' split
  all_goals simp
theorem put_len (h : List Nat) (b : Nat) : (putN h b).1.length ≤ h.length + 1 ∧ (putN h b).2.length ≤ 2 := by
  have h1 := put1_len b
  unfold putN
  repeat' split
  all_goals simp
  omega
theorem held_len (h : List Nat) (hh : HeldL h) : h.length ≤ 3 := by
  rcases hh with rfl | hp
  · simp
  · exact (pre_len h hp).2
theorem ok_val (l : List Nat) (h : okL l = true) : valL l ≤ 1114111 := by
  have := (ok_enc l h).2
  simp only [signZ, decide_eq_true_eq] at this
  omega
theorem put1_byte (b : Nat) (hb : b < 256) : (∀ x ∈ (put1 b).1, x < 256) ∧ ∀ x ∈ (put1 b).2, x ≤ 1114111 := by
  unfold put1
  repeat' split
  · rename_i h; exact ⟨by simp, by simpa using ok_val _ h⟩
  · exact ⟨by simpa using hb, by simp⟩
  · exact ⟨by simp, by simp⟩
theorem putN_byte (h : List Nat) (b : Nat) (hh : ∀ x ∈ h, x < 256) (hb : b < 256) : (∀ x ∈ (putN h b).1, x < 256) ∧ ∀ x ∈ (putN h b).2, x ≤ 1114111 := by
  have h1 := put1_byte b hb
  unfold putN
  repeat' split
  · rename_i h; exact ⟨by simp, by simpa using ok_val _ h⟩
  · refine ⟨fun x hx => ?_, by simp⟩
    rcases List.mem_append.1 hx with hx | hx
    · exact hh x hx
    · rw [List.mem_singleton.1 hx]; exact hb
  · exact ⟨by simp, by simp⟩
  · refine ⟨h1.1, fun x hx => ?_⟩
    rcases List.mem_cons.1 hx with rfl | hx
    · decide
    · exact h1.2 x hx
/-! ### many bytes -/
def feed (s : List Nat × List Nat) (l : List Nat) : List Nat × List Nat := l.foldl (fun s b => ((putN s.1 b).1, s.2 ++ (putN s.1 b).2)) s
def endN (h : List Nat) : List Nat := if h = [] then [] else [65533]
def allN (l : List Nat) : List Nat := (feed ([], []) l).2 ++ endN (feed ([], []) l).1
theorem feed_nil (s : List Nat × List Nat) : feed s [] = s := rfl
theorem feed_cons (s : List Nat × List Nat) (b : Nat) (l : List Nat) : feed s (b :: l) = feed ((putN s.1 b).1, s.2 ++ (putN s.1 b).2) l := rfl
theorem feed_append (s : List Nat × List Nat) (l m : List Nat) : feed s (l ++ m) = feed (feed s l) m := by simp [feed]
theorem feed_succ (s : List Nat × List Nat) (l : List Nat) (j : Nat) (h : j < l.length) : feed s (l.take (j + 1)) = ((putN (feed s (l.take j)).1 l[j]).1, (feed s (l.take j)).2 ++ (putN (feed s (l.take j)).1 l[j]).2) := by
  rw [List.take_succ_eq_append_getElem h, feed_append]; rfl
theorem feed_out (h o : List Nat) (l : List Nat) : feed (h, o) l = ((feed (h, []) l).1, o ++ (feed (h, []) l).2) := by
  induction l generalizing h o with
  | nil => simp [feed]
  | cons b l ih =>
    rw [feed_cons, feed_cons, ih, ih (putN h b).1 ([] ++ (putN h b).2)]
    simp
theorem feed_held (s : List Nat × List Nat) (l : List Nat) (h : HeldL s.1) : HeldL (feed s l).1 := by
  induction l generalizing s with
  | nil => exact h
  | cons b l ih => rw [feed_cons]; exact ih _ (put_held _ _)
theorem feed_byte (s : List Nat × List Nat) (l : List Nat) (h : ∀ x ∈ s.1, x < 256) (h2 : ∀ x ∈ s.2, x ≤ 1114111) (hl : ∀ x ∈ l, x < 256) : (∀ x ∈ (feed s l).1, x < 256) ∧ ∀ x ∈ (feed s l).2, x ≤ 1114111 := by
  induction l generalizing s with
  | nil => exact ⟨h, h2⟩
  | cons b l ih =>
    rw [feed_cons]
    have := putN_byte s.1 b h (hl b (by simp))
    refine ih _ this.1 (fun x hx => ?_) (fun x hx => hl x (by simp [hx]))
    rcases List.mem_append.1 hx with hx | hx
    · exact h2 x hx
    · exact this.2 x hx
theorem feed_len (s : List Nat × List Nat) (l : List Nat) : (feed s l).2.length ≤ s.2.length + 2 * l.length := by
  induction l generalizing s with
  | nil => simp [feed]
  | cons b l ih =>
    rw [feed_cons]
    have h1 := ih ((putN s.1 b).1, s.2 ++ (putN s.1 b).2)
    have h2 := (put_len s.1 b).2
    simp only [List.length_append, List.length_cons] at h1 ⊢
    omega
theorem endN_len (h : List Nat) : (endN h).length ≤ 1 := by unfold endN; split <;> simp
theorem endN_le (h : List Nat) : ∀ x ∈ endN h, x ≤ 1114111 := by unfold endN; split <;> simp
theorem allN_len (l : List Nat) : (allN l).length ≤ 2 * l.length + 1 := by
  have h1 := feed_len ([], []) l
  have h2 := endN_len (feed ([], []) l).1
  simp only [allN, List.length_append, List.length_nil] at h1 ⊢
  omega
theorem allN_le (l : List Nat) (hl : ∀ x ∈ l, x < 256) : ∀ x ∈ allN l, x ≤ 1114111 := by
  intro x hx
  rcases List.mem_append.1 hx with hx | hx
  · exact (feed_byte ([], []) l (by simp) (by simp) hl).2 x hx
  · exact endN_le _ x hx
/-! ### an encoding -/
theorem goes_on (h : List Nat) (b : Nat) (hp : preL h = true) (hn : ¬ (128 ≤ b ∧ b ≤ 191)) : okL (h ++ [b]) = false ∧ preL (h ++ [b]) = false := by
  match h with
  | [] => simp [preL] at hp
  | [a] => simp only [preL, decide_eq_true_eq] at hp; simp only [List.cons_append, List.nil_append, okL, preL, decide_eq_false_iff_not]; omega
  | [a, c] => simp only [preL, decide_eq_true_eq] at hp; simp only [List.cons_append, List.nil_append, okL, preL, decide_eq_false_iff_not]; omega
  | [a, c, d] => simp only [preL, decide_eq_true_eq] at hp; refine ⟨?_, rfl⟩; simp only [List.cons_append, List.nil_append, okL, decide_eq_false_iff_not]; omega
  | a :: c :: d :: e :: r => simp [preL] at hp
theorem put_first (h : List Nat) (b : Nat) (hh : HeldL h) (hn : ¬ (128 ≤ b ∧ b ≤ 191)) : putN h b = ((put1 b).1, endN h ++ (put1 b).2) := by
  rcases hh with rfl | hp
  · rw [putN_nil]; rfl
  · have h0 : h ≠ [] := fun e => by rw [e] at hp; cases hp
    have := goes_on h b hp hn
    rw [putN, this.1, this.2, if_neg (by simp), if_neg (by simp), if_neg h0, endN, if_neg h0]
    rfl
theorem feed_first (h o : List Nat) (b : Nat) (l : List Nat) (hh : HeldL h) (hn : ¬ (128 ≤ b ∧ b ≤ 191)) : feed (h, o) (b :: l) = feed ([], o ++ endN h) (b :: l) := by
  rw [feed_cons, feed_cons, put_first h b hh hn, putN_nil]
  simp
theorem putN_ok (h : List Nat) (b : Nat) (h1 : okL (h ++ [b]) = true) : putN h b = ([], [valL (h ++ [b])]) := by rw [putN, if_pos h1]
theorem put_pre (h : List Nat) (b : Nat) (h1 : preL (h ++ [b]) = true) : putN h b = (h ++ [b], []) := by
  rw [putN, if_neg, if_pos h1]
  intro hk
  rw [ok_pre _ hk] at h1
  cases h1
theorem feed_pre (h o : List Nat) (b : Nat) (l : List Nat) (h1 : preL (h ++ [b]) = true) : feed (h, o) (b :: l) = feed (h ++ [b], o) l := by
  rw [feed_cons, put_pre h b h1, List.append_nil]
theorem feed_end (h o : List Nat) (b : Nat) (h1 : okL (h ++ [b]) = true) : feed (h, o) [b] = ([], o ++ [valL (h ++ [b])]) := by
  rw [feed_cons, putN_ok h b h1]; rfl
theorem feed_ok (h o e : List Nat) (hh : HeldL h) (he : okL e = true) : feed (h, o) e = ([], o ++ endN h ++ [valL e]) := by
  match e with
  | [] => simp [okL] at he
  | [a] =>
    have h' := he
    simp only [okL, decide_eq_true_eq] at h'
    rw [feed_first h o a [] hh (by omega)]
    exact feed_end [] _ a he
  | [a, b] =>
    have h' := he
    simp only [okL, decide_eq_true_eq] at h'
    rw [feed_first h o a _ hh (by omega), feed_pre [] _ a _ (by simp only [List.nil_append, preL, decide_eq_true_eq]; omega)]
    exact feed_end [a] _ b he
  | [a, b, c] =>
    have h' := he
    simp only [okL, decide_eq_true_eq] at h'
    rw [feed_first h o a _ hh (by omega), feed_pre [] _ a _ (by simp only [List.nil_append, preL, decide_eq_true_eq]; omega), feed_pre _ _ b _ (by simp only [List.cons_append, List.nil_append, preL, decide_eq_true_eq]; omega)]
    exact feed_end [a, b] _ c he
  | [a, b, c, d] =>
    have h' := he
    simp only [okL, decide_eq_true_eq] at h'
    rw [feed_first h o a _ hh (by omega), feed_pre [] _ a _ (by simp only [List.nil_append, preL, decide_eq_true_eq]; omega), feed_pre _ _ b _ (by simp only [List.cons_append, List.nil_append, preL, decide_eq_true_eq]; omega), feed_pre _ _ c _ (by simp only [List.cons_append, List.nil_append, preL, decide_eq_true_eq]; omega)]
    exact feed_end [a, b, c] _ d he
  | a :: b :: c :: d :: e :: r => simp [okL] at he
/-! ### texts -/
/-- The encodings of numbers, one behind the other. -/
def textZ (l : List Int) : List Nat := l.flatMap uniZ
theorem feed_text (l : List Int) (o : List Nat) : feed ([], o) (textZ l) = ([], o ++ l.map fixZ) := by
  induction l generalizing o with
  | nil => simp [textZ, feed]
  | cons c l ih =>
    have h := uniN_ok (fixZ c) (fixZ_sign c)
    rw [show textZ (c :: l) = uniZ c ++ textZ l from by simp [textZ], feed_append, feed_ok [] o (uniZ c) (.inl rfl) h.1, ih]
    simp only [uniZ, h.2, endN, List.map_cons, if_true]
    simp
theorem all_text (l : List Int) : allN (textZ l) = l.map fixZ := by
  rw [allN, feed_text]; simp [endN]
/-- Are the bytes encodings one behind the other? -/
def Good (l : List Nat) : Prop := ∃ zs : List Int, l = textZ zs
theorem good_nil : Good [] := ⟨[], rfl⟩
theorem good_snoc {l e : List Nat} (h : Good l) (he : okL e = true) : Good (l ++ e) := by
  obtain ⟨zs, rfl⟩ := h
  have h2 := ok_enc e he
  refine ⟨zs ++ [(valL e : Int)], ?_⟩
  simp [textZ, uniZ, fixZ_fix _ h2.2, h2.1]
theorem good_text (zs : List Int) : Good (textZ zs) := ⟨zs, rfl⟩
theorem ok_inj {e e' r r' : List Nat} (h : okL e = true) (h' : okL e' = true) (eq : e ++ r = e' ++ r') : e = e' ∧ r = r' := by
  have h1 := dec_ok e r h
  have h2 := dec_ok e' r' h'
  rw [eq, h2] at h1
  have hl : e'.length = e.length := congrArg Prod.snd h1
  exact List.append_inj eq hl.symm
/-- What stands behind encodings are encodings again, or it is none. -/
theorem good_rest {l r : List Nat} (h : Good l) (h2 : Good (l ++ r)) : Good r := by
  obtain ⟨zs, rfl⟩ := h
  induction zs with
  | nil => exact h2
  | cons c zs ih =>
    apply ih
    obtain ⟨ys, hy⟩ := h2
    have hc := (uniN_ok (fixZ c) (fixZ_sign c)).1
    cases ys with
    | nil =>
      have h1 := (uniZ_len c).1
      have := congrArg List.length hy
      rw [show textZ (c :: zs) ++ r = uniZ c ++ (textZ zs ++ r) from by simp [textZ], List.length_append, show (textZ []).length = 0 from rfl] at this
      omega
    | cons y ys =>
      have hy' := (uniN_ok (fixZ y) (fixZ_sign y)).1
      rw [show textZ (c :: zs) ++ r = uniZ c ++ (textZ zs ++ r) from by simp [textZ], show textZ (y :: ys) = uniZ y ++ textZ ys from by simp [textZ]] at hy
      exact ⟨ys, (ok_inj hc hy' hy).2⟩
theorem good_head {l : List Nat} (h : Good l) (h0 : l ≠ []) : ∃ e r, l = e ++ r ∧ okL e = true := by
  obtain ⟨zs, rfl⟩ := h
  cases zs with
  | nil => exact absurd rfl h0
  | cons c zs => exact ⟨uniZ c, textZ zs, by simp [textZ], (uniN_ok (fixZ c) (fixZ_sign c)).1⟩
theorem bad_not {l r : List Nat} (h : Good l) (h0 : r ≠ []) (hn : ∀ k, okL (r.take k) = false) : ¬ Good (l ++ r) := by
  intro h2
  obtain ⟨e, q, rfl, he⟩ := good_head (good_rest h h2) h0
  have := hn e.length
  rw [List.take_left] at this
  rw [this] at he
  cases he
/-- Either an encoding stands ahead, or none. -/
theorem dec_cases (l : List Nat) (h0 : 0 < l.length) (hb : ∀ x ∈ l, x < 256) :
    (∃ e r, l = e ++ r ∧ okL e = true ∧ decL l = (valL e, e.length)) ∨ ((∀ k, okL (l.take k) = false) ∧ decL l = (65533, 1)) := by
  by_cases h : ∃ k, okL (l.take k) = true
  · obtain ⟨k, hk⟩ := h
    refine .inl ⟨l.take k, l.drop k, (List.take_append_drop k l).symm, hk, ?_⟩
    have := dec_ok (l.take k) (l.drop k) hk
    rwa [List.take_append_drop] at this
  · have h' : ∀ k, okL (l.take k) = false := fun k => by
      cases hk : okL (l.take k) with
      | false => rfl
      | true => exact absurd ⟨k, hk⟩ h
    exact .inr ⟨h', dec_bad l h0 hb h'⟩
/-- Text of the code points is the text again exactly if it is good. -/
theorem text_all (l : List Nat) (hl : ∀ x ∈ l, x < 256) : textZ ((allN l).map fun x : Nat => (x : Int)) = l ↔ Good l := by
  constructor
  · intro h; exact ⟨_, h.symm⟩
  · rintro ⟨zs, rfl⟩
    rw [all_text]
    simp only [textZ, List.map_map, List.flatMap_map]
    congr 1
    funext c
    simp only [Function.comp, uniZ, fixZ_fix _ (fixZ_sign c)]
/-- A good text ahead: the counts add up. -/
theorem all_good_append (l m : List Nat) (h : Good l) : allN (l ++ m) = allN l ++ allN m := by
  obtain ⟨zs, rfl⟩ := h
  rw [all_text, allN, feed_append, feed_text, feed_out]
  simp [allN]
/-! ### what the reference looks for -/
def nextsL : List Nat := [128, 159, 160, 143, 144, 191]
theorem pre_of_ok (b r : List Nat) (h : okL (b ++ r) = true) (hb : b ≠ []) (hr : r ≠ []) : preL b = true := by
  match b, r with
  | [], _ => exact absurd rfl hb
  | _, [] => exact absurd rfl hr
  | [a], [x] => simp only [List.cons_append, List.nil_append, okL, decide_eq_true_eq] at h; simp only [preL, decide_eq_true_eq]; omega
  | [a], [x, y] => simp only [List.cons_append, List.nil_append, okL, decide_eq_true_eq] at h; simp only [preL, decide_eq_true_eq]; omega
  | [a], [x, y, z] => simp only [List.cons_append, List.nil_append, okL, decide_eq_true_eq] at h; simp only [preL, decide_eq_true_eq]; omega
  | [a], x :: y :: z :: u :: r => simp [okL] at h
  | [a, c], [x] => simp only [List.cons_append, List.nil_append, okL, decide_eq_true_eq] at h; simp only [preL, decide_eq_true_eq]; omega
  | [a, c], [x, y] => simp only [List.cons_append, List.nil_append, okL, decide_eq_true_eq] at h; simp only [preL, decide_eq_true_eq]; omega
  | [a, c], x :: y :: z :: r => simp [okL] at h
  | [a, c, d], [x] => simp only [List.cons_append, List.nil_append, okL, decide_eq_true_eq] at h; simp only [preL, decide_eq_true_eq]; omega
  | [a, c, d], x :: y :: r => simp [okL] at h
  | a :: c :: d :: e :: q, x :: r =>
    have := (ok_len _ h).2
    simp at this
/-- The try: next behind b, then 128 till there are n. -/
def tryL (b : List Nat) (n x : Nat) : List Nat := b ++ x :: List.replicate (n - b.length - 1) 128
theorem tryL_pre (b : List Nat) (n x : Nat) (h : okL (tryL b n x) = true) (hb : b ≠ []) : preL b = true := pre_of_ok b _ h hb (by simp)
theorem pre_try (b : List Nat) (h : preL b = true) : ∃ n x, b.length < n ∧ n ≤ 4 ∧ x ∈ nextsL ∧ okL (tryL b n x) = true := by
  match b with
  | [] => simp [preL] at h
  | [a] =>
    simp only [preL, decide_eq_true_eq] at h
    by_cases h1 : a ≤ 223
    · exact ⟨2, 128, by simp, by simp, by simp [nextsL], by show okL [a, 128] = true; simp only [okL, decide_eq_true_eq]; omega⟩
    · by_cases h2 : a ≤ 239
      · by_cases h3 : a = 237
        · exact ⟨3, 128, by simp, by simp, by simp [nextsL], by show okL [a, 128, 128] = true; simp only [okL, decide_eq_true_eq]; omega⟩
        · exact ⟨3, 160, by simp, by simp, by simp [nextsL], by show okL [a, 160, 128] = true; simp only [okL, decide_eq_true_eq]; omega⟩
      · by_cases h3 : a = 240
        · exact ⟨4, 144, by simp, by simp, by simp [nextsL], by show okL [a, 144, 128, 128] = true; simp only [okL, decide_eq_true_eq]; omega⟩
        · exact ⟨4, 128, by simp, by simp, by simp [nextsL], by show okL [a, 128, 128, 128] = true; simp only [okL, decide_eq_true_eq]; omega⟩
  | [a, c] =>
    simp only [preL, decide_eq_true_eq] at h
    by_cases h2 : a ≤ 239
    · exact ⟨3, 128, by simp, by simp, by simp [nextsL], by show okL [a, c, 128] = true; simp only [okL, decide_eq_true_eq]; omega⟩
    · exact ⟨4, 128, by simp, by simp, by simp [nextsL], by show okL [a, c, 128, 128] = true; simp only [okL, decide_eq_true_eq]; omega⟩
  | [a, c, d] =>
    simp only [preL, decide_eq_true_eq] at h
    exact ⟨4, 128, by simp, by simp, by simp [nextsL], by show okL [a, c, d, 128] = true; simp only [okL, decide_eq_true_eq]; omega⟩
  | a :: c :: d :: e :: r => simp [preL] at h
end Go.Proofs.YtdldffgdipedpaaDoor
