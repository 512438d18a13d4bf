/- What a board's methods leave and what the reference lays are the same, place by place. Conditions: none; it speaks of no memory. -/
import Derived.Test.YtgmfmhlboehdoaaGrid11
import Derived.Test.YtgmfmhlboehdoaaGridR4
import Derived.Test.YtgmfmhlboehdoaaGridR5
import Derived.Test.YtgmfmhlboehdoaaGridR6
namespace Go.Proofs.Ytgmfmhlboehdoaa
open Go.RowKit
theorem split_at {C i : Nat} (hC : 0 < C) : i / C * C + i % C = i ∧ i % C < C := ⟨by rw [Nat.mul_comm]; exact Nat.div_add_mod i C, Nat.mod_lt i hC⟩
theorem div_lt_rows {R C i : Nat} (hi : i < R * C) : i / C < R := Nat.div_lt_of_lt_mul (by rw [Nat.mul_comm]; exact hi)
theorem part_iff {C i q a z : Nat} (hC : 0 < C) (hz : z ≤ C) : (q * C + a ≤ i ∧ i < q * C + z) ↔ (i / C = q ∧ a ≤ i % C ∧ i % C < z) := by
  obtain ⟨e, hm⟩ := split_at (i := i) hC
  constructor
  · rintro ⟨h1, h2⟩
    have hq : i / C = q := Nat.div_eq_of_lt_le (by omega) (by rw [Nat.add_mul]; omega)
    rw [hq] at e
    exact ⟨hq, by omega, by omega⟩
  · rintro ⟨h1, h2, h3⟩
    rw [h1] at e
    omega
theorem atG_in {R C : Nat} {f : Nat → CellV} {q p : Nat} {r c : Int} {y : CellV} (hr : r = (q : Int)) (hc : c = (p : Int)) (hq : q < R) (hp : p < C) : atG R C f r c y = f (q * C + p) := by
  subst hr hc
  rw [atG, if_pos]
  · rfl
  · simp [hasB]; omega
theorem atG_out {R C : Nat} {f : Nat → CellV} {r c : Int} {y : CellV} (h : ¬ (0 ≤ r ∧ r < R ∧ 0 ≤ c ∧ c < C)) : atG R C f r c y = y := by
  rw [atG, if_neg]
  intro h2
  exact h (of_decide_eq_true h2)
theorem fill_eq {R C i : Nat} {f : Nat → CellV} {r fr to : Int} {y : CellV} (hC : 0 < C) (hi : i < R * C) : (if hasB R C r 0 then fillF C r.toNat (max fr 0).toNat (min to C).toNat y f else f) i = filledF C f r fr to y i := by
  have hq := div_lt_rows hi
  have hp := Nat.mod_lt i hC
  unfold filledF filledV
  by_cases h : hasB R C r 0 = true
  · have h1 := of_decide_eq_true h
    rw [if_pos h, fillF]
    by_cases h2 : ((i / C : Nat) : Int) = r ∧ fr ≤ ((i % C : Nat) : Int) ∧ ((i % C : Nat) : Int) < to
    · rw [if_pos h2, if_pos ((part_iff hC (by omega)).2 ⟨by omega, by omega, by omega⟩)]
    · rw [if_neg h2, if_neg]
      intro h3
      have := (part_iff hC (by omega)).1 h3
      omega
  · rw [if_neg h, if_neg]
    rintro ⟨h2, _⟩
    apply h
    rw [hasB, decide_eq_true_eq]
    generalize i / C = q at h2 hq
    omega
theorem rows_iff {C i t d : Nat} (hC : 0 < C) : (t * C ≤ i ∧ i < (d + 1) * C) ↔ (t ≤ i / C ∧ i / C ≤ d) := by
  rw [Nat.le_div_iff_mul_le hC]
  have := Nat.div_lt_iff_lt_mul (x := i) (y := d + 1) hC
  omega
theorem up_eq {R C i t d : Nat} {n : Int} {f : Nat → CellV} {y : CellV} (hC : 0 < C) (hi : i < R * C) (hR : R ≤ 60) (htd : t ≤ d) (hd : d < R) (hn : 1 ≤ n) : upF C t d (min n.toNat (d + 1 - t)) y f i = rollF R C f t d (min n 200) y i := by
  have hq := div_lt_rows hi
  obtain ⟨e, hp⟩ := split_at (i := i) hC
  obtain ⟨m, hm⟩ : ∃ m, m = min n.toNat (d + 1 - t) := ⟨_, rfl⟩
  rw [← hm]
  unfold upF rollF rollV
  generalize hqq : i / C = q at *
  generalize hpp : i % C = p at *
  by_cases h1 : t ≤ q ∧ q ≤ d
  · rw [if_pos ((rows_iff hC).2 (by rw [hqq]; exact h1)), if_neg (show ¬ ((q : Int) < (t : Int) ∨ (d : Int) < (q : Int)) by omega)]
    have h2 : i + m * C < (d + 1) * C ↔ q + m < d + 1 := by
      rw [← Nat.div_lt_iff_lt_mul hC, Nat.add_mul_div_right _ _ hC, hqq]
    by_cases h3 : q + m < d + 1
    · rw [if_pos (h2.2 h3), if_neg (show ¬ ((d : Int) < (q : Int) + min n 200 ∨ (q : Int) + min n 200 < (t : Int)) by omega), atG_in (q := q + m) (p := p) (by omega) rfl (by omega) hp]
      congr 1
      rw [Nat.add_mul]; omega
    · rw [if_neg (fun h => h3 (h2.1 h)), if_pos (show ((d : Int) < (q : Int) + min n 200 ∨ (q : Int) + min n 200 < (t : Int)) by omega)]
  · rw [if_neg (fun h => h1 (by have := (rows_iff hC).1 h; rw [hqq] at this; exact this)), if_pos (show ((q : Int) < (t : Int) ∨ (d : Int) < (q : Int)) by omega), atG_in (q := q) (p := p) rfl rfl hq hp, e]
theorem down_eq {R C i t d : Nat} {n : Int} {f : Nat → CellV} {y : CellV} (hC : 0 < C) (hi : i < R * C) (hR : R ≤ 60) (htd : t ≤ d) (hd : d < R) (hn : 1 ≤ n) : downF C t d (min n.toNat (d + 1 - t)) y f i = rollF R C f t d (0 - min n 200) y i := by
  have hq := div_lt_rows hi
  obtain ⟨e, hp⟩ := split_at (i := i) hC
  obtain ⟨m, hm⟩ : ∃ m, m = min n.toNat (d + 1 - t) := ⟨_, rfl⟩
  rw [← hm]
  unfold downF rollF rollV
  generalize hqq : i / C = q at *
  generalize hpp : i % C = p at *
  by_cases h1 : t ≤ q ∧ q ≤ d
  · rw [if_pos ((rows_iff hC).2 (by rw [hqq]; exact h1)), if_neg (show ¬ ((q : Int) < (t : Int) ∨ (d : Int) < (q : Int)) by omega)]
    have h2 : t * C + m * C ≤ i ↔ t + m ≤ q := by
      rw [← Nat.add_mul, ← Nat.le_div_iff_mul_le hC, hqq]
    by_cases h3 : t + m ≤ q
    · rw [if_pos (h2.2 h3), if_neg (show ¬ ((d : Int) < (q : Int) + (0 - min n 200) ∨ (q : Int) + (0 - min n 200) < (t : Int)) by omega), atG_in (q := q - m) (p := p) (by omega) rfl (by omega) hp]
      congr 1
      have h4 : (q - m) * C + m * C = q * C := by rw [← Nat.add_mul]; congr 1; omega
      omega
    · rw [if_neg (fun h => h3 (h2.1 h)), if_pos (show ((d : Int) < (q : Int) + (0 - min n 200) ∨ (q : Int) + (0 - min n 200) < (t : Int)) by omega)]
  · rw [if_neg (fun h => h1 (by have := (rows_iff hC).1 h; rw [hqq] at this; exact this)), if_pos (show ((q : Int) < (t : Int) ∨ (d : Int) < (q : Int)) by omega), atG_in (q := q) (p := p) rfl rfl hq hp, e]
theorem ins_eq {R C i q0 p0 : Nat} {n : Int} {f : Nat → CellV} {y : CellV} (hi : i < R * C) (hCb : C ≤ 132) (hp0 : p0 < C) (hn : 1 ≤ n) : insF C q0 p0 (min n.toNat (C - p0)) y f i = slideF R C f q0 p0 (0 - min n 200) y i := by
  have hC : 0 < C := by omega
  have hq := div_lt_rows hi
  obtain ⟨e, hp⟩ := split_at (i := i) hC
  obtain ⟨m, hm⟩ : ∃ m, m = min n.toNat (C - p0) := ⟨_, rfl⟩
  rw [← hm]
  have hiff := part_iff (C := C) (i := i) (q := q0) (a := p0) (z := C) hC (Nat.le_refl C)
  unfold insF slideF slideV
  generalize hqq : i / C = q at *
  generalize hpp : i % C = p at *
  by_cases h1 : q = q0 ∧ p0 ≤ p
  · rw [if_pos (hiff.2 ⟨h1.1, h1.2, hp⟩), if_neg (show ¬ ((q : Int) ≠ (q0 : Int) ∨ (p : Int) < (p0 : Int)) by omega)]
    obtain ⟨rfl, h1⟩ := h1
    by_cases h3 : p0 + m ≤ p
    · rw [if_pos (show q * C + p0 + m ≤ i by omega), if_neg (show ¬ ((p : Int) + (0 - min n 200) < (p0 : Int)) by omega), atG_in (q := q) (p := p - m) rfl (by omega) hq (by omega)]
      congr 1; omega
    · rw [if_neg (show ¬ (q * C + p0 + m ≤ i) by omega), if_pos (show (p : Int) + (0 - min n 200) < (p0 : Int) by omega)]
  · rw [if_neg (fun h => h1 ⟨(hiff.1 h).1, (hiff.1 h).2.1⟩), if_pos (show ((q : Int) ≠ (q0 : Int) ∨ (p : Int) < (p0 : Int)) by omega)]
theorem del_eq {R C i q0 p0 : Nat} {n : Int} {f : Nat → CellV} {y : CellV} (hi : i < R * C) (hCb : C ≤ 132) (hp0 : p0 < C) (hn : 1 ≤ n) : delF C q0 p0 (min n.toNat (C - p0)) y f i = slideF R C f q0 p0 (min n 200) y i := by
  have hC : 0 < C := by omega
  have hq := div_lt_rows hi
  obtain ⟨e, hp⟩ := split_at (i := i) hC
  obtain ⟨m, hm⟩ : ∃ m, m = min n.toNat (C - p0) := ⟨_, rfl⟩
  rw [← hm]
  have hiff := part_iff (C := C) (i := i) (q := q0) (a := p0) (z := C) hC (Nat.le_refl C)
  unfold delF slideF slideV
  generalize hqq : i / C = q at *
  generalize hpp : i % C = p at *
  by_cases h1 : q = q0 ∧ p0 ≤ p
  · rw [if_pos (hiff.2 ⟨h1.1, h1.2, hp⟩), if_neg (show ¬ ((q : Int) ≠ (q0 : Int) ∨ (p : Int) < (p0 : Int)) by omega), if_neg (show ¬ ((p : Int) + min n 200 < (p0 : Int)) by omega)]
    obtain ⟨rfl, h1⟩ := h1
    by_cases h3 : p + m < C
    · rw [if_pos (show i + m < q * C + C by omega), atG_in (q := q) (p := p + m) rfl (by omega) hq h3]
      congr 1; omega
    · rw [if_neg (show ¬ (i + m < q * C + C) by omega), atG_out (by omega)]
  · rw [if_neg (fun h => h1 ⟨(hiff.1 h).1, (hiff.1 h).2.1⟩), if_pos (show ((q : Int) ≠ (q0 : Int) ∨ (p : Int) < (p0 : Int)) by omega)]
theorem res_eq {R C D i : Nat} {f : Nat → CellV} : resF R C D f i = sizedF R C D f i := by
  unfold resF sizedF
  by_cases h : i / D < R ∧ i % D < C
  · rw [if_pos h, atG_in (q := i / D) (p := i % D) rfl rfl h.1 h.2]
  · rw [if_neg h, atG_out (by omega)]
end Go.Proofs.Ytgmfmhlboehdoaa
