/- Plain words for the proof of CrcBursts: what is known while the bits of a burst are turned one behind the other. Conditions: none; it speaks of no program. -/
import Derived.Test.YtnfjghihjpdpiaaCrcMath
namespace Go.Proofs.Ytnfjghihjpdpiaa
open Go.RowKit
/-- l with some bits turned, from place k on: i bits have been looked at, m are those turned, ch says whether there were any. -/
structure Burst (l xl : List Nat) (k i : Nat) (ch : Bool) (m : BitVec 32) : Prop where
  len : xl.length = l.length
  lt : ∀ x ∈ xl, x < 256
  run : runW (~~~0#32) xl = runW (~~~0#32) l ^^^ stepsW (8 * l.length - k) m
  high : ∀ j, i ≤ j → m.getLsbD j = false
  any : ch = true ↔ m ≠ 0#32
theorem Burst.start (l : List Nat) (k : Nat) (h : ∀ x ∈ l, x < 256) : Burst l l k 0 false 0#32 :=
  ⟨rfl, h, by rw [stepsW_zero, BitVec.xor_zero], by simp, by simp⟩
theorem Burst.skip {l xl : List Nat} {k i : Nat} {ch : Bool} {m : BitVec 32} (h : Burst l xl k i ch m) : Burst l xl k (i + 1) ch m :=
  ⟨h.len, h.lt, h.run, fun j hj => h.high j (by omega), h.any⟩
theorem Burst.flip {l xl : List Nat} {k i : Nat} {ch : Bool} {m : BitVec 32} (h : Burst l xl k i ch m) (hi : i < 32) (hk : (k + i) / 8 < xl.length) :
    Burst l (xl.set ((k + i) / 8) (xl[(k + i) / 8] ^^^ 2 ^ ((k + i) % 8))) k (i + 1) true (m ^^^ unitW i) where
  len := by rw [List.length_set, h.len]
  lt x hx := by
    rcases List.mem_or_eq_of_mem_set hx with hx | rfl
    · exact h.lt x hx
    · refine Nat.xor_lt_two_pow (n := 8) (h.lt _ (List.getElem_mem _)) ?_
      exact Nat.pow_lt_pow_right (by decide) (Nat.mod_lt _ (by decide))
  run := by rw [runW_burst _ xl k i hi hk, h.run, h.len, stepsW_xor, BitVec.xor_assoc]
  high j hj := by
    rw [BitVec.getLsbD_xor, h.high j (by omega), getLsbD_unitW i j hi]
    simp; omega
  any := by
    refine ⟨fun _ e => ?_, fun _ => rfl⟩
    have e1 : (m ^^^ unitW i).getLsbD i = (0#32).getLsbD i := by rw [e]
    rw [BitVec.getLsbD_xor, h.high i (Nat.le_refl _), getLsbD_unitW i i hi, BitVec.getLsbD_zero] at e1
    simp at e1
theorem Burst.done {l xl : List Nat} {k i : Nat} {ch : Bool} {m : BitVec 32} (h : Burst l xl k i ch m) : moreW 0#32 xl = moreW 0#32 l ↔ ch = false := by
  unfold moreW
  rw [h.run]
  have e1 : (~~~(runW (~~~0#32) l ^^^ stepsW (8 * l.length - k) m) = ~~~runW (~~~0#32) l) ↔ m = 0#32 := by
    generalize runW (~~~0#32) l = r
    constructor
    · intro e
      apply stepsW_ne (8 * l.length - k)
      have e2 : r ^^^ stepsW (8 * l.length - k) m = r := by
        have := congrArg (fun x => ~~~x) e
        simpa using this
      have e3 : r ^^^ (r ^^^ stepsW (8 * l.length - k) m) = r ^^^ r := by rw [e2]
      rwa [← BitVec.xor_assoc, BitVec.xor_self, BitVec.zero_xor] at e3
    · rintro rfl
      rw [stepsW_zero, BitVec.xor_zero]
  rw [e1]
  have := h.any
  cases ch
  · simpa using this
  · simpa using this
end Go.Proofs.Ytnfjghihjpdpiaa
