/- The walk through CrcSums: for every sum and bytes it returns true and leaves old memory as it was. Conditions: none. -/
import Derived.Test.YtnfjghihjpdpiaaAwake7
namespace Go.Proofs.Ytnfjghihjpdpiaa.crcSums
open Go.ChangeShapes Go.WideShapes Go.RowKit
set_option maxHeartbeats 1600000 in
theorem walk (a : Int) (A : Option Addr) (n c : Nat) (l : List Nat) (w : World) (ha : (Lit.int .u32 a).wf = true) (hr : Reads .u8 w A n c l) :
    Calls Try.prog 3 #[.int .u32 a, .slice A n c] w fun e w' => e = .returned (.bool true) ∧ Below w.heap.size w w' := by
  obtain ⟨s, rfl⟩ := word_of_wf ha
  have HR := Lib.hid hr
  clear hr ha
  by_cases hn : 300 < n
  · have hn2 : decide ((300 : Int) < (n : Int)) = true := by simp; omega
    go_enter Try.func3, Try.ntmps3
    go_wp2_with fail
    refine (awake7_c w).mono ?_
    rintro en w1 ⟨rfl, hb1⟩
    go_wp2
    go_ret
    exact ⟨rfl, hb1⟩
  · have hn2 : decide ((300 : Int) < (n : Int)) = false := by simp; omega
    go_enter Try.func3, Try.ntmps3
    go_wp2_with fail
    refine (awake7_c w).mono ?_
    rintro en w1 ⟨rfl, hb1⟩
    have HR1 := Lib.hid (HR.out.keep hb1)
    go_wp2_with fail
    refine (more_c s A n c l w1 HR1.out).mono ?_
    rintro en w2 ⟨rfl, rfl⟩
    go_wp2_with fail
    refine (refMore_c s A n c l w1 HR1.out).mono ?_
    rintro en w2 ⟨rfl, rfl⟩
    generalize moreW s l = x
    go_wp2_with fail
    refine (sum_c A n c l w1 HR1.out).mono ?_
    rintro en w2 ⟨rfl, rfl⟩
    go_wp2_with fail
    refine (refMore_c 0#32 A n c l w1 HR1.out).mono ?_
    rintro en w2 ⟨rfl, rfl⟩
    generalize moreW 0#32 l = y
    go_wp2
    go_ret
    exact ⟨rfl, hb1⟩
end Go.Proofs.Ytnfjghihjpdpiaa.crcSums
