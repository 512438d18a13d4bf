/- What further functions of package word and of the reference batonref01 return, for every argument, as a walk through the translated text: number, Get, Xor, Bytes, Words; the reference's Get and Same. Conditions: slices read as lists; Bytes: at most 2^40 words. -/
import Derived.Test.YteaebicggjmfdaaWord
namespace Go.Proofs.Yteaebicggjmfdaa
open Go.ChangeShapes Go.WideShapes Go.RowKit

theorem number_step (n b : Nat) (hb : b < 256) : bits BinOp.or IntKind.u64 (IntKind.u64.wrap ((n : Int) * 256)) (b : Int) = ((n * 256 + b) % 18446744073709551616 : Nat) := by
  have e := u64_or_nat (n * 256 % 18446744073709551616) b (Nat.mod_lt _ (by decide)) (by omega)
  rw [or_low n b hb] at e
  rw [← e, IntKind.wrap_u64]; simp
theorem be_mod_step (l : List Nat) (j m x : Nat) (h : j < l.length) (hm : be (l.take j) % 18446744073709551616 = m) (hx : l[j] = x) : (m * 256 + x) % 18446744073709551616 = be (l.take (j + 1)) % 18446744073709551616 := by
  rw [be_take_succ l j h, hx, ← hm]
  omega
set_option maxHeartbeats 400000 in
theorem number_c (A : Option Addr) (n c : Nat) (l : List Nat) (w : World) (h : Reads .u8 w A n c l) :
    Calls Try.prog 20 #[.slice A n c] w fun e w' => e = .returned (.int .u64 (be l % 18446744073709551616 : Nat)) ∧ w = w' := by
  have hn : n ≤ 9223372036854775807 := by have := h.room; have := h.cap; unfold maxLen at this; omega
  go_enter Try.func20, Try.ntmps20
  go_wp2
  go_loop [3, 8] (fun t i => ∃ j : Nat, j ≤ n ∧ i = .int .i64 j ∧ t = .int .u64 (be (l.take j) % 18446744073709551616 : Nat)) (fun _ i => n - (intOf i).toNat)
  case atStart => exact ⟨0, Nat.zero_le _, rfl, rfl⟩
  case round =>
    obtain ⟨j, hj, rfl, rfl⟩ := hrel
    by_cases hlt : j < n
    · have hjl : j < l.length := by rw [h.len]; exact hlt
      obtain ⟨ad, rfl, hb, hc⟩ := h.cell j hjl
      have hX : l[j] < 256 := wf_u8.1 (h.wf _ (List.getElem_mem _))
      generalize hM : be (l.take j) % 18446744073709551616 = m at *
      generalize hx : l[j] = x at *
      have HF : Hid (bits BinOp.or IntKind.u64 (IntKind.u64.wrap ((m : Int) * 256)) (x : Int) = (be (l.take (j + 1)) % 18446744073709551616 : Nat)) := by
        show _ = _
        rw [number_step m x hX, be_mod_step l j m x hjl hM hx]
      clear hM hx
      go_wp2
      go_round
      case rel => exact ⟨j + 1, by omega, by go_num, by rw [HF.out]⟩
      case measure => simp [intOf]; omega
    · have : l.take j = l := List.take_of_length_le (by rw [h.len]; omega)
      have H := Lib.hid this
      clear this
      go_wp2
      go_ret
      exact ⟨ret_int (by rw [H.out]), rfl⟩
set_option maxHeartbeats 400000 in
theorem get_no (A : Option Addr) (n c : Nat) (w : World) (h : (n : Int) < 1 ∨ 8 < (n : Int)) :
    Calls Try.prog 19 #[.slice A n c] w fun e w' => e = .returned (.tuple #[.int .u64 0, .int .i64 1]) ∧ w = w' := by
  go_enter Try.func19, Try.ntmps19
  go_wp2_with fail
  refine (good_no _ _ h).mono ?_
  rintro e w' ⟨rfl, rfl⟩
  go_wp2
  go_ret2
  exact ⟨rfl, rfl⟩
set_option maxHeartbeats 400000 in
theorem get_yes (A : Option Addr) (n c : Nat) (l : List Nat) (w : World) (h : Reads .u8 w A n c l) (h0 : 1 ≤ (n : Int)) (h1 : (n : Int) ≤ 8) :
    Calls Try.prog 19 #[.slice A n c] w fun e w' => e = .returned (.tuple #[.int .u64 (be l % 18446744073709551616 : Nat), .int .i64 0]) ∧ w = w' := by
  go_enter Try.func19, Try.ntmps19
  go_wp2_with fail
  refine (good_yes _ _ h0 h1).mono ?_
  rintro e w' ⟨rfl, rfl⟩
  go_wp2_with fail
  refine (number_c _ _ _ _ _ h).mono ?_
  rintro e w' ⟨rfl, rfl⟩
  generalize hm : be l % 18446744073709551616 = m
  have HM := Lib.hid hm
  clear hm
  go_wp2
  go_ret2
  exact ⟨by rw [HM.out]; rfl, rfl⟩

/-! ### Same -/
theorem take_same_succ {a b : List Nat} {j : Nat} (ha : j < a.length) (hb : j < b.length) (h : a.take j = b.take j) (e : a[j] = b[j]) : a.take (j + 1) = b.take (j + 1) := by
  rw [List.take_succ_eq_append_getElem ha, List.take_succ_eq_append_getElem hb, h, e]
set_option maxHeartbeats 800000 in
theorem same_c (A B : Option Addr) (n c m d : Nat) (a b : List Nat) (w : World) (ha : Reads .u8 w A n c a) (hb : Reads .u8 w B m d b) :
    Calls Try.prog 10 #[.slice A n c, .slice B m d] w fun e w' => e = .returned (.bool (decide (a = b))) ∧ ∃ k, w' = w.drewN k := by
  have hn : n ≤ 9223372036854775807 := by have := ha.room; have := ha.cap; unfold maxLen at this; omega
  have hla := ha.len
  have hlb := hb.len
  by_cases hnm : n = m
  · subst hnm
    have Hla := Lib.hid hla
    have Hlb := Lib.hid hlb
    clear hla hlb
    go_enter Try.func10, Try.ntmps10
    go_wp2
    go_loopw [5] (fun i wr => ∃ j : Nat, j ≤ n ∧ i = .int .i64 j ∧ Hid (a.take j = b.take j) ∧ ∃ k, wr = w.drewN k) (fun i _ => n - (intOf i).toNat)
    case atStart => exact ⟨0, Nat.zero_le _, rfl, rfl, 0, rfl⟩
    case round =>
      obtain ⟨j, hj, rfl, hT, k, rfl⟩ := hrel
      by_cases hlt : j < n
      · have hja : j < a.length := by rw [Hla.out]; exact hlt
        have hjb : j < b.length := by rw [Hlb.out]; exact hlt
        obtain ⟨ad, rfl, _, hca⟩ := ha.cell j hja
        obtain ⟨bd, rfl, _, hcb⟩ := hb.cell j hjb
        have hlt2 : (j : Int) < (n : Int) := by omega
        have hj0 : (0 : Int) ≤ (j : Int) := by omega
        generalize hx : a[j] = x at *
        generalize hy : b[j] = y at *
        have HX := Lib.hid hx
        have HY := Lib.hid hy
        clear hx hy
        by_cases hxy : x = y
        · subst hxy
          go_wp2_with fail
          go_quiet (fail)
          go_wp2
          go_roundw
          case rel => exact ⟨j + 1, by omega, by go_num, take_same_succ hja hjb hT.out (HX.out.trans HY.out.symm), _, rfl⟩
          case measure => simp [intOf]; omega
        · have hne : ((x : Int) != (y : Int)) = true := by rw [bne_iff_ne]; omega
          have Hxy := Lib.hid hxy
          clear hxy
          go_wp2_with fail
          go_quiet (fail)
          go_wp2
          go_ret
          refine ⟨ret_bool ?_, _, World.drewN_drewN _ _ _⟩
          symm
          rw [decide_eq_false_iff_not]
          intro e
          subst e
          exact Hxy.out (HX.out.symm.trans HY.out)
      · go_wp2
        go_ret
        refine ⟨ret_bool ?_, _, rfl⟩
        symm
        rw [decide_eq_true_iff]
        have h1 : a.take j = a := List.take_of_length_le (by rw [Hla.out]; omega)
        have h2 : b.take j = b := List.take_of_length_le (by rw [Hlb.out]; omega)
        rw [← h1, ← h2]
        exact hT.out
  · have hne : ((n : Int) != (m : Int)) = true := by rw [bne_iff_ne]; omega
    have Hnm : Hid (a ≠ b) := by intro e; subst e; omega
    clear hla hlb hnm
    go_enter Try.func10, Try.ntmps10
    go_wp2
    go_ret
    exact ⟨ret_bool (by rw [eq_comm, decide_eq_false_iff_not]; exact Hnm.out), 0, rfl⟩

/-! ### Xor -/
/-- Bit by bit. -/
def xorL (a b : List Nat) : List Nat := List.zipWith (· ^^^ ·) a b
theorem length_xorL (a b : List Nat) (n : Nat) (ha : a.length = n) (hb : b.length = n) : (xorL a b).length = n := by simp [xorL, ha, hb]
theorem xorL_get (a b : List Nat) (j : Nat) (h : j < (xorL a b).length) (ha : j < a.length) (hb : j < b.length) : (xorL a b)[j] = a[j] ^^^ b[j] := by simp [xorL]
theorem xor_lt (x y : Nat) (hx : x < 256) (hy : y < 256) : x ^^^ y < 256 := Nat.xor_lt_two_pow (n := 8) hx hy
theorem xorL_lt (a b : List Nat) (ha : ∀ x ∈ a, x < 256) (hb : ∀ x ∈ b, x < 256) : ∀ x ∈ xorL a b, x < 256 := by
  intro x hx
  obtain ⟨j, hj, rfl⟩ := List.getElem_of_mem hx
  have h1 : j < a.length := by simp [xorL] at hj; omega
  have h2 : j < b.length := by simp [xorL] at hj; omega
  rw [xorL_get a b j hj h1 h2]
  exact xor_lt _ _ (ha _ (List.getElem_mem _)) (hb _ (List.getElem_mem _))

/-! ### Bytes, Words -/
theorem infoU32 : (Try.prog.info? 60).map (fun i => (i.zero, i.size, i.bytes)) = some (some (.int .u32 0), 1, 4) := by kernel_rfl
def bytesL (l : List Nat) : List Nat := l.flatMap bytes4
theorem length_bytesL (l : List Nat) : (bytesL l).length = 4 * l.length := by
  induction l with
  | nil => rfl
  | cons x l ih => simp only [bytesL, List.flatMap_cons, List.length_append, length_bytes4, List.length_cons] at *; omega
theorem bytesL_take_succ (l : List Nat) (j : Nat) (h : j < l.length) : bytesL (l.take (j + 1)) = bytesL (l.take j) ++ bytes4 l[j] := by
  rw [List.take_succ_eq_append_getElem h, bytesL, List.flatMap_append]; simp [bytesL]
def wordsL (l : List Nat) : List Nat := (List.range (l.length / 4)).map fun i => be ((l.drop (4 * i)).take 4)
theorem length_wordsL (l : List Nat) : (wordsL l).length = l.length / 4 := by simp [wordsL]
theorem rem4_no (n : Nat) (h : n % 4 ≠ 0) : ((n : Int) % 4 != 0) = true := by
  rw [bne_iff_ne]; omega
theorem rem4_yes (n : Nat) (h : n % 4 = 0) : ((n : Int) % 4 != 0) = false := by
  rw [bne_eq_false_iff_eq]; omega
end Go.Proofs.Yteaebicggjmfdaa
