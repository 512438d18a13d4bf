/- The walk through PenColours: for every slice of numbers it returns true and leaves old memory as it was. Conditions: the two tables of the attributes hold what the program lays there. -/
import Derived.Test.YtajllkfoaigdlaaDoorAwake12
namespace Go.Proofs.YtajllkfoaigdlaaDoor.penColours
open Go.ChangeShapes Go.WideShapes Go.RowKit
set_option maxRecDepth 100000 in
set_option maxHeartbeats 6400000 in
theorem walk (A : Option Addr) (n c : Nat) (l : List Int) (w : World) (hr : ReadsI .i64 w A n c l) (kt : PT w) :
    Calls Tryd.prog 5 #[.slice A n c] w fun e w' => e = .returned (.bool true) ∧ Below w.heap.size w w' := by
  have hn : n ≤ 9223372036854775807 := by have := hr.room; have := hr.cap; unfold maxLen at this; omega
  have HA := Lib.hid (awake12_c w kt)
  have HR := Lib.hid hr
  clear kt hr
  go_enter Tryd.func5, Tryd.ntmps5
  go_wp2_with fail
  refine HA.out.mono ?_
  rintro en w1 ⟨rfl, hb1⟩
  have HB1 := Lib.hid hb1
  have HR1 := Lib.hid (HR.out.keep hb1)
  have HLen := Lib.hid HR.out.len
  clear hb1 HA HR
  by_cases hn20 : 20 < n
  · have t1 : decide ((20 : Int) < (n : Int)) = true ∧ decide (20 < n) = true := by simp; omega
    obtain ⟨t1, t1'⟩ := t1
    go_wp2
    go_ret
    exact ⟨rfl, HB1.out⟩
  · have t1 : decide ((20 : Int) < (n : Int)) = false ∧ decide (20 < n) = false := by simp; omega
    obtain ⟨t1, t1'⟩ := t1
    go_wp2_with fail
    refine (colour_c A n c l w1 HR1.out).mono ?_
    rintro en w2 ⟨rfl, rfl⟩
    cases l with
    | nil =>
      have hn0 : n = 0 := HLen.out.symm
      subst hn0
      rw [colZ_nil]
      go_wp2
      go_ret
      exact ⟨rfl, HB1.out⟩
    | cons x r =>
      obtain ⟨ad, rfl, c0⟩ := HR1.out.first
      have hlen := HLen.out
      have hn1 : r.length + 1 = n := by simpa using hlen
      have t0 : decide (n = 0) = false ∧ ((n : Int) == 0) = false ∧ (0 : Int) < (n : Int) ∧ 0 < n := by simp; omega
      obtain ⟨t0, t0', p0, p1⟩ := t0
      by_cases h2 : x = 2
      · subst h2
        rw [colZ_two, hn1]
        rcases Nat.lt_or_ge n 4 with h4 | h4
        · rw [Nat.min_eq_right (by omega)]
          have d4 : (n : Int) < 4 := by omega
          have d4' : decide ((n : Int) < 4) = true ∧ decide (n < 4) = true ∧ ((n : Int) == 4) = false ∧ decide (n = 4) = false := by simp; omega
          obtain ⟨d5, d6, d7, d8⟩ := d4'
          clear hn1 hlen HR1 HLen
          go_wp2
          go_ret
          exact ⟨rfl, HB1.out⟩
        · rw [Nat.min_eq_left h4]
          clear hn1 hlen HR1 HLen
          go_wp2
          go_ret
          exact ⟨rfl, HB1.out⟩
      · have t1 : (x == 2) = false ∧ decide (x = 2) = false := by simp [h2]
        obtain ⟨t2, t2'⟩ := t1
        by_cases h5 : x = 5
        · subst h5
          cases r with
          | nil =>
            have hn1' : n = 1 := hn1.symm
            subst hn1'
            rw [colZ_other [] h2 (.inr rfl)]
            clear hn1 hlen HLen
            go_wp2
            go_ret
            exact ⟨rfl, HB1.out⟩
          | cons y r =>
            have c1 := HR1.out.second
            have hn2 : r.length + 2 = n := by simpa using hlen
            have t3 : decide (n = 1) = false ∧ ((n : Int) == 1) = false ∧ (1 : Int) < (n : Int) ∧ 1 < n := by simp; omega
            obtain ⟨t3, t3', p2, p3⟩ := t3
            by_cases hy : y < 0
            · rw [colZ_bad r (.inl hy)]
              have t4 : decide (y < 0) = true := by simpa using hy
              clear hn1 hn2 hlen HR1 HLen
              go_wp2
              go_ret
              exact ⟨rfl, HB1.out⟩
            · have t4 : decide (y < 0) = false := by simpa using hy
              by_cases hz : 255 < y
              · rw [colZ_bad r (.inr hz)]
                have t5 : decide (255 < y) = true := by simpa using hz
                clear hn1 hn2 hlen HR1 HLen
                go_wp2
                go_ret
                exact ⟨rfl, HB1.out⟩
              · rw [colZ_hit r (by omega) (by omega)]
                have t5 : decide (255 < y) = false := by simpa using hz
                clear hn1 hn2 hlen HR1 HLen
                go_wp2
                go_ret
                exact ⟨rfl, HB1.out⟩
        · rw [colZ_other r h2 (.inl h5)]
          have t6 : (x != 5) = true ∧ decide (x ≠ 5) = true ∧ decide (x = 5) = false := by simp [h5]
          obtain ⟨t6, t6', t6''⟩ := t6
          clear hn1 hlen HR1 HLen h2 h5
          go_wp2
          go_ret
          exact ⟨rfl, HB1.out⟩
end Go.Proofs.YtajllkfoaigdlaaDoor.penColours
