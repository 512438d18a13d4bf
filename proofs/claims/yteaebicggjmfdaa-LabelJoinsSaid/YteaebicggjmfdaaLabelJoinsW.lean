/- The walks of the statement LabelJoins: the text of any parts is what the reference says, and Split of it returns these parts; more than 64 parts have none. Conditions: the parts read as a list of lists of bytes. -/
import Derived.Test.YteaebicggjmfdaaAwake4
import Derived.Test.YteaebicggjmfdaaLabel3
namespace Go.Proofs.Yteaebicggjmfdaa.labelJoins
open Go.ChangeShapes Go.WideShapes Go.RowKit
set_option maxHeartbeats 800000 in
theorem walk_much (A : Option Addr) (n c : Nat) (ls : List (List Nat)) (w : World) (hr : ReadsAll .u8 w A n c ls) (hs : ¬ (n ≤ 70 ∧ ∀ l ∈ ls, l.length ≤ 100)) :
    Calls Try.prog 3 #[.slice A n c] w fun e w' => e = .returned (.bool true) ∧ Below w.heap.size w w' := by
  have HS := Lib.hid hs
  clear hs
  go_enter Try.func3, Try.ntmps3
  go_wp2_with fail
  refine (awake4_c _).mono ?_
  rintro e w1 ⟨rfl, hb1⟩
  go_wp2_with fail
  refine (few_no _ _ _ _ _ (hr.keep hb1) HS.out).mono ?_
  rintro e w2 ⟨rfl, rfl⟩
  go_wp2
  go_ret
  exact ⟨rfl, hb1⟩
set_option maxHeartbeats 800000 in
theorem walk_full (A : Option Addr) (n c : Nat) (ls : List (List Nat)) (w : World) (hr : ReadsAll .u8 w A n c ls) (hn : n ≤ 70) (hs : ∀ l ∈ ls, l.length ≤ 100) (h64 : 64 < n) :
    Calls Try.prog 3 #[.slice A n c] w fun e w' => e = .returned (.bool true) ∧ Below w.heap.size w w' := by
  have HS := Lib.hid hs
  have hd : decide ((64 : Int) < (n : Int)) = true := by simp; omega
  clear hs
  go_enter Try.func3, Try.ntmps3
  go_wp2_with fail
  refine (awake4_c _).mono ?_
  rintro e w1 ⟨rfl, hb1⟩
  go_wp2_with fail
  refine (few_yes _ _ _ _ _ (hr.keep hb1) hn HS.out).mono ?_
  rintro e w2 ⟨rfl, rfl⟩
  go_wp2_with fail
  refine (join_full _ _ _ _ h64).mono ?_
  rintro e w2 ⟨rfl, rfl⟩
  go_wp2
  go_ret
  exact ⟨rfl, hb1⟩
set_option maxRecDepth 100000 in
set_option maxHeartbeats 1600000 in
theorem walk_ok (A : Option Addr) (n c : Nat) (ls : List (List Nat)) (w : World) (hr : ReadsAll .u8 w A n c ls) (hs : ∀ l ∈ ls, l.length ≤ 100) (h64 : n ≤ 64) :
    Calls Try.prog 3 #[.slice A n c] w fun e w' => e = .returned (.bool true) ∧ Below w.heap.size w w' := by
  have HS := Lib.hid hs
  have HS2 : Hid (∀ l ∈ ls, l.length ≤ 1048576) := fun l hl => Nat.le_trans (hs l hl) (by decide)
  have HX : Hid (∀ x ∈ joinL ls, x < 256) := joinL_lt ls (fun l hl x hx => by
    obtain ⟨i, hi, rfl⟩ := List.getElem_of_mem hl
    obtain ⟨_, _, _, _, _, _, _, hrow⟩ := hr.row i hi
    exact wf_u8.1 (hrow.wf x hx))
  have HJ : Hid (splitL (joinL ls) = (0, ls)) := split_join ls (by rw [hr.len]; exact h64) HS2.out
  have hd : decide ((64 : Int) < (n : Int)) = false := by simp; omega
  clear hs
  go_enter Try.func3, Try.ntmps3
  go_wp2_with fail
  refine (awake4_c _).mono ?_
  rintro e w1 ⟨rfl, hb1⟩
  have HR1 := Lib.hid (hr.keep hb1)
  clear hr
  go_wp2_with fail
  refine (few_yes _ _ _ _ _ HR1.out (by omega) HS.out).mono ?_
  rintro e w2 ⟨rfl, rfl⟩
  go_wp2_with fail
  refine (join_c _ _ _ _ _ HR1.out h64 HS2.out).mono ?_
  rintro e w2 ⟨v2, rfl, hm2⟩
  obtain ⟨A2, c2, rfl, hr2⟩ := Reads.of_own hm2.1 (fun x hx => wf_u8.2 (HX.out x hx))
  have hb2 := hm2.2
  have hbw2 := hb1.trans (hb2.mono hb1.size)
  replace HR1 := Lib.hid (HR1.out.keep hb2)
  have HR2 := Lib.hid hr2
  obtain ⟨N, hN⟩ : ∃ N, Hid ((joinL ls).length = N) := ⟨_, rfl⟩
  rw [hN.out] at HR2
  rw [hN.out]
  clear hr2 hm2 hb2 hb1
  go_wp2_with fail
  refine (split_c _ _ _ _ 0 ls _ HR2.out HJ).mono ?_
  rintro e w3 ⟨V, m, d, rfl, hall, hb3⟩
  have hbw3 := hbw2.trans (hb3.mono hbw2.size)
  replace HR1 := Lib.hid (HR1.out.keep hb3)
  replace HR2 := Lib.hid (HR2.out.keep hb3)
  have HA := Lib.hid hall
  clear hall hb3 hbw2
  go_wp2_with fail
  refine (refJoin_c _ _ _ _ _ HR1.out h64 HS2.out).mono ?_
  rintro e w4 ⟨v4, rfl, hm4⟩
  obtain ⟨A4, c4, rfl, hr4⟩ := Reads.of_own hm4.1 (fun x hx => wf_u8.2 (HX.out x hx))
  have hb4 := hm4.2
  have hbw4 := hbw3.trans (hb4.mono hbw3.size)
  replace HR1 := Lib.hid (HR1.out.keep hb4)
  replace HR2 := Lib.hid (HR2.out.keep hb4)
  replace HA := Lib.hid (HA.out.keep hb4)
  have HR4 := Lib.hid hr4
  rw [hN.out] at HR4
  rw [hN.out]
  clear hr4 hm4 hb4 hbw3
  go_wp2_with fail
  refine (same_c _ _ _ _ _ _ _ _ _ HR2.out HR4.out).mono ?_
  rintro e w5 ⟨rfl, k5, hw5⟩
  rw [decide_eq_true rfl]
  have hh5 : w5.heap = w4.heap := by rw [hw5]; rfl
  have hbw5 : Below w.heap.size w w5 := by rw [hw5]; exact belowDrewN hbw4 _
  replace HR1 := Lib.hid (HR1.out.of_heap hh5)
  replace HA := Lib.hid (HA.out.of_heap hh5)
  clear hw5 hh5 HR2 HR4 hbw4
  go_wp2_with fail
  refine (sames_c _ _ _ _ _ _ _ _ _ HA.out HR1.out).mono ?_
  rintro e w6 ⟨rfl, k6, hw6⟩
  rw [decide_eq_true rfl]
  have hbw6 : Below w.heap.size w w6 := by rw [hw6]; exact belowDrewN hbw5 _
  clear hw6 HA HR1 hbw5
  go_wp2
  go_ret
  exact ⟨rfl, hbw6⟩
theorem walk (A : Option Addr) (n c : Nat) (ls : List (List Nat)) (w : World) (hr : ReadsAll .u8 w A n c ls) :
    Calls Try.prog 3 #[.slice A n c] w fun e w' => e = .returned (.bool true) ∧ Below w.heap.size w w' := by
  by_cases hs : n ≤ 70 ∧ ∀ l ∈ ls, l.length ≤ 100
  · by_cases h64 : 64 < n
    · exact walk_full A n c ls w hr hs.1 hs.2 h64
    · exact walk_ok A n c ls w hr hs.2 (by omega)
  · exact walk_much A n c ls w hr hs
end Go.Proofs.Yteaebicggjmfdaa.labelJoins
