/- The walks of the statement LabelSplits: which parts any bytes have, or why they have none, is what the reference says; the text of the parts is these bytes. Conditions: the bytes read as a list. -/
import Derived.Test.YteaebicggjmfdaaAwake4
import Derived.Test.YteaebicggjmfdaaLabel4
namespace Go.Proofs.Yteaebicggjmfdaa.labelSplits
open Go.ChangeShapes Go.WideShapes Go.RowKit
set_option maxHeartbeats 800000 in
theorem walk_much (A : Option Addr) (n c : Nat) (w : World) (hn : 400 < n) :
    Calls Try.prog 4 #[.slice A n c] w fun e w' => e = .returned (.bool true) ∧ Below w.heap.size w w' := by
  have hd : decide ((400 : Int) < (n : Int)) = true := by simp; omega
  go_enter Try.func4, Try.ntmps4
  go_wp2_with fail
  refine (awake4_c _).mono ?_
  rintro e w1 ⟨rfl, hb1⟩
  go_wp2
  go_ret
  exact ⟨rfl, hb1⟩
set_option maxRecDepth 100000 in
set_option maxHeartbeats 1600000 in
theorem walk_ok (A : Option Addr) (n c : Nat) (b : List Nat) (w : World) (hr : Reads .u8 w A n c b) (hn : n ≤ 400) :
    Calls Try.prog 4 #[.slice A n c] w fun e w' => e = .returned (.bool true) ∧ Below w.heap.size w w' := by
  have hd : decide ((400 : Int) < (n : Int)) = false := by simp; omega
  obtain ⟨E, ps, hS⟩ : ∃ E ps, Hid (splitL b = (E, ps)) := ⟨_, _, rfl⟩
  have HW : Hid (∀ x ∈ b, x < 256) := fun x hx => wf_u8.1 (hr.wf x hx)
  go_enter Try.func4, Try.ntmps4
  go_wp2_with fail
  refine (awake4_c _).mono ?_
  rintro e w1 ⟨rfl, hb1⟩
  have HR := Lib.hid (hr.keep hb1)
  clear hr
  go_wp2_with fail
  refine (split_c _ _ _ _ E ps _ HR.out hS).mono ?_
  rintro e w2 ⟨V, m, d, rfl, hall, hb2⟩
  have hbw2 := hb1.trans (hb2.mono hb1.size)
  replace HR := Lib.hid (HR.out.keep hb2)
  have HA := Lib.hid hall
  clear hall hb2 hb1
  go_wp2_with fail
  refine (refSplit_c _ _ _ _ E ps _ HR.out hS (by omega)).mono ?_
  rintro e w3 ⟨V3, m3, d3, rfl, hall3, hb3⟩
  have hbw3 := hbw2.trans (hb3.mono hbw2.size)
  replace HR := Lib.hid (HR.out.keep hb3)
  replace HA := Lib.hid (HA.out.keep hb3)
  have HA3 := Lib.hid hall3
  have hEE : ((E : Int) != (E : Int)) = false := by simp
  clear hall3 hb3 hbw2
  go_wp2_with fail
  refine (sames_c _ _ _ _ _ _ _ _ _ HA.out HA3.out).mono ?_
  rintro e w4 ⟨rfl, k4, hw4⟩
  rw [decide_eq_true rfl]
  have hh4 : w4.heap = w3.heap := by rw [hw4]; rfl
  have hbw4 : Below w.heap.size w w4 := by rw [hw4]; exact belowDrewN hbw3 _
  replace HR := Lib.hid (HR.out.of_heap hh4)
  replace HA := Lib.hid (HA.out.of_heap hh4)
  clear hw4 hh4 HA3 hbw3
  by_cases hE : E = 0
  · subst hE
    obtain ⟨j1, j2, j3⟩ := join_split b ps HW.out hS.out
    have J1 := Lib.hid j1
    have J2 := Lib.hid j2
    have J3 := Lib.hid j3
    clear j1 j2 j3
    go_wp2_with fail
    refine (join_c _ _ _ _ _ HA.out (by rw [← HA.out.len]; exact J2.out) J3.out).mono ?_
    rintro e w5 ⟨v5, rfl, hm5⟩
    rw [J1.out] at hm5
    obtain ⟨A5, c5, rfl, hr5⟩ := Reads.of_own hm5.1 (fun x hx => wf_u8.2 (HW.out x hx))
    have hb5 := hm5.2
    have hbw5 := hbw4.trans (hb5.mono hbw4.size)
    replace HR := Lib.hid (HR.out.keep hb5)
    have HR5 := Lib.hid hr5
    clear hm5 hr5 hb5 hbw4 HA
    go_wp2_with fail
    refine (same_c _ _ _ _ _ _ _ _ _ HR5.out HR.out).mono ?_
    rintro e w6 ⟨rfl, k6, hw6⟩
    rw [decide_eq_true rfl]
    have hbw6 : Below w.heap.size w w6 := by rw [hw6]; exact belowDrewN hbw5 _
    clear hw6 HR HR5 hbw5
    go_wp2
    go_ret
    exact ⟨rfl, hbw6⟩
  · have hde : ((E : Int) != 0) = true := by rw [bne_iff_ne]; omega
    clear hS HR HA
    go_wp2
    go_ret
    exact ⟨rfl, hbw4⟩
theorem walk (A : Option Addr) (n c : Nat) (b : List Nat) (w : World) (hr : Reads .u8 w A n c b) :
    Calls Try.prog 4 #[.slice A n c] w fun e w' => e = .returned (.bool true) ∧ Below w.heap.size w w' := by
  by_cases hn : n ≤ 400
  · exact walk_ok A n c b w hr hn
  · exact walk_much A n c w (by omega)
end Go.Proofs.Yteaebicggjmfdaa.labelSplits
