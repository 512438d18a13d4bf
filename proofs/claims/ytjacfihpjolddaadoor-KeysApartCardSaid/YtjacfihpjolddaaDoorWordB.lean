/- What further functions of package word and of the reference batonref01 return, for every argument, as a walk through the translated text: number, Get, Xor, Bytes, Words; the reference's Get and Same. Conditions: slices read as lists; Bytes: at most 2^40 words. -/
import Derived.Test.YtjacfihpjolddaaDoorWord
namespace Go.Proofs.YtjacfihpjolddaaDoor
open Go.ChangeShapes Go.WideShapes Go.RowKit

theorem number_step (n b : Nat) (hb : b < 256) : bits BinOp.or IntKind.u64 (IntKind.u64.wrap ((n : Int) * 256)) (b : Int) = ((n * 256 + b) % 18446744073709551616 : Nat) := by
  have e := u64_or_nat (n * 256 % 18446744073709551616) b (Nat.mod_lt _ (by decide)) (by omega)
  rw [or_low n b hb] at e
  rw [← e, IntKind.wrap_u64]; simp
theorem be_mod_step (l : List Nat) (j m x : Nat) (h : j < l.length) (hm : be (l.take j) % 18446744073709551616 = m) (hx : l[j] = x) : (m * 256 + x) % 18446744073709551616 = be (l.take (j + 1)) % 18446744073709551616 := by
  rw [be_take_succ l j h, hx, ← hm]
  omega
set_option maxHeartbeats 400000 in
theorem number_c (A : Option Addr) (n c : Nat) (l : List Nat) (w : World) (h : Reads .u8 w A n c l) :
    Calls Tryd.prog 45 #[.slice A n c] w fun e w' => e = .returned (.int .u64 (be l % 18446744073709551616 : Nat)) ∧ w = w' := by
  have hn : n ≤ 9223372036854775807 := by have := h.room; have := h.cap; unfold maxLen at this; omega
  go_enter Tryd.func45, Tryd.ntmps45
  go_wp2
  go_loop [3, 8] (fun t i => ∃ j : Nat, j ≤ n ∧ i = .int .i64 j ∧ t = .int .u64 (be (l.take j) % 18446744073709551616 : Nat)) (fun _ i => n - (intOf i).toNat)
  case atStart => exact ⟨0, Nat.zero_le _, rfl, rfl⟩
  case round =>
    obtain ⟨j, hj, rfl, rfl⟩ := hrel
    by_cases hlt : j < n
    · have hjl : j < l.length := by rw [h.len]; exact hlt
      obtain ⟨ad, rfl, hb, hc⟩ := h.cell j hjl
      have hX : l[j] < 256 := wf_u8.1 (h.wf _ (List.getElem_mem _))
      generalize hM : be (l.take j) % 18446744073709551616 = m at *
      generalize hx : l[j] = x at *
      have HF : Hid (bits BinOp.or IntKind.u64 (IntKind.u64.wrap ((m : Int) * 256)) (x : Int) = (be (l.take (j + 1)) % 18446744073709551616 : Nat)) := by
        show _ = _
        rw [number_step m x hX, be_mod_step l j m x hjl hM hx]
      clear hM hx
      go_wp2
      go_round
      case rel => exact ⟨j + 1, by omega, by go_num, by rw [HF.out]⟩
      case measure => simp [intOf]; omega
    · have : l.take j = l := List.take_of_length_le (by rw [h.len]; omega)
      have H := Lib.hid this
      clear this
      go_wp2
      go_ret
      exact ⟨ret_int (by rw [H.out]), rfl⟩
set_option maxHeartbeats 400000 in
theorem refGet_c (A : Option Addr) (n c : Nat) (l : List Nat) (w : World) (h : Reads .u8 w A n c l) :
    Calls Tryd.prog 31 #[.slice A n c] w fun e w' => e = .returned (.int .u64 (be l % 18446744073709551616 : Nat)) ∧ w = w' := by
  have hn : n ≤ 9223372036854775807 := by have := h.room; have := h.cap; unfold maxLen at this; omega
  go_enter Tryd.func31, Tryd.ntmps31
  go_wp2
  go_loop [3, 4] (fun t i => ∃ j : Nat, j ≤ n ∧ i = .int .i64 j ∧ t = .int .u64 (be (l.take j) % 18446744073709551616 : Nat)) (fun _ i => n - (intOf i).toNat)
  case atStart => exact ⟨0, Nat.zero_le _, rfl, rfl⟩
  case round =>
    obtain ⟨j, hj, rfl, rfl⟩ := hrel
    by_cases hlt : j < n
    · have hjl : j < l.length := by rw [h.len]; exact hlt
      obtain ⟨ad, rfl, hb, hc⟩ := h.cell j hjl
      have hX : l[j] < 256 := wf_u8.1 (h.wf _ (List.getElem_mem _))
      generalize hM : be (l.take j) % 18446744073709551616 = m at *
      generalize hx : l[j] = x at *
      have HF : Hid (IntKind.u64.wrap (IntKind.u64.wrap ((m : Int) * 256) + (x : Int)) = (be (l.take (j + 1)) % 18446744073709551616 : Nat)) := by
        show _ = _
        rw [← be_mod_step l j m x hjl hM hx, IntKind.wrap_u64, IntKind.wrap_u64]
        omega
      clear hM hx
      go_wp2
      go_round
      case rel => exact ⟨j + 1, by omega, by go_num, by rw [HF.out]⟩
      case measure => simp [intOf]; omega
    · have : l.take j = l := List.take_of_length_le (by rw [h.len]; omega)
      have H := Lib.hid this
      clear this
      go_wp2
      go_ret
      exact ⟨ret_int (by rw [H.out]), rfl⟩

/-! ### Same -/
theorem take_same_succ {a b : List Nat} {j : Nat} (ha : j < a.length) (hb : j < b.length) (h : a.take j = b.take j) (e : a[j] = b[j]) : a.take (j + 1) = b.take (j + 1) := by
  rw [List.take_succ_eq_append_getElem ha, List.take_succ_eq_append_getElem hb, h, e]
set_option maxHeartbeats 800000 in
theorem same_c (A B : Option Addr) (n c m d : Nat) (a b : List Nat) (w : World) (ha : Reads .u8 w A n c a) (hb : Reads .u8 w B m d b) :
    Calls Tryd.prog 13 #[.slice A n c, .slice B m d] w fun e w' => e = .returned (.bool (decide (a = b))) ∧ ∃ k, w' = w.drewN k := by
  have hn : n ≤ 9223372036854775807 := by have := ha.room; have := ha.cap; unfold maxLen at this; omega
  have hla := ha.len
  have hlb := hb.len
  by_cases hnm : n = m
  · subst hnm
    have Hla := Lib.hid hla
    have Hlb := Lib.hid hlb
    clear hla hlb
    go_enter Tryd.func13, Tryd.ntmps13
    go_wp2
    go_loopw [5] (fun i wr => ∃ j : Nat, j ≤ n ∧ i = .int .i64 j ∧ Hid (a.take j = b.take j) ∧ ∃ k, wr = w.drewN k) (fun i _ => n - (intOf i).toNat)
    case atStart => exact ⟨0, Nat.zero_le _, rfl, rfl, 0, rfl⟩
    case round =>
      obtain ⟨j, hj, rfl, hT, k, rfl⟩ := hrel
      by_cases hlt : j < n
      · have hja : j < a.length := by rw [Hla.out]; exact hlt
        have hjb : j < b.length := by rw [Hlb.out]; exact hlt
        obtain ⟨ad, rfl, _, hca⟩ := ha.cell j hja
        obtain ⟨bd, rfl, _, hcb⟩ := hb.cell j hjb
        have hlt2 : (j : Int) < (n : Int) := by omega
        have hj0 : (0 : Int) ≤ (j : Int) := by omega
        generalize hx : a[j] = x at *
        generalize hy : b[j] = y at *
        have HX := Lib.hid hx
        have HY := Lib.hid hy
        clear hx hy
        by_cases hxy : x = y
        · subst hxy
          go_wp2_with fail
          go_quiet (fail)
          go_wp2
          go_roundw
          case rel => exact ⟨j + 1, by omega, by go_num, take_same_succ hja hjb hT.out (HX.out.trans HY.out.symm), _, rfl⟩
          case measure => simp [intOf]; omega
        · have hne : ((x : Int) != (y : Int)) = true := by rw [bne_iff_ne]; omega
          have Hxy := Lib.hid hxy
          clear hxy
          go_wp2_with fail
          go_quiet (fail)
          go_wp2
          go_ret
          refine ⟨ret_bool ?_, _, World.drewN_drewN _ _ _⟩
          symm
          rw [decide_eq_false_iff_not]
          intro e
          subst e
          exact Hxy.out (HX.out.symm.trans HY.out)
      · go_wp2
        go_ret
        refine ⟨ret_bool ?_, _, rfl⟩
        symm
        rw [decide_eq_true_iff]
        have h1 : a.take j = a := List.take_of_length_le (by rw [Hla.out]; omega)
        have h2 : b.take j = b := List.take_of_length_le (by rw [Hlb.out]; omega)
        rw [← h1, ← h2]
        exact hT.out
  · have hne : ((n : Int) != (m : Int)) = true := by rw [bne_iff_ne]; omega
    have Hnm : Hid (a ≠ b) := by intro e; subst e; omega
    clear hla hlb hnm
    go_enter Tryd.func13, Tryd.ntmps13
    go_wp2
    go_ret
    exact ⟨ret_bool (by rw [eq_comm, decide_eq_false_iff_not]; exact Hnm.out), 0, rfl⟩

/-! ### Xor -/
/-- Bit by bit. -/
def xorL (a b : List Nat) : List Nat := List.zipWith (· ^^^ ·) a b
theorem length_xorL (a b : List Nat) (n : Nat) (ha : a.length = n) (hb : b.length = n) : (xorL a b).length = n := by simp [xorL, ha, hb]
theorem xorL_get (a b : List Nat) (j : Nat) (h : j < (xorL a b).length) (ha : j < a.length) (hb : j < b.length) : (xorL a b)[j] = a[j] ^^^ b[j] := by simp [xorL]
theorem xor_lt (x y : Nat) (hx : x < 256) (hy : y < 256) : x ^^^ y < 256 := Nat.xor_lt_two_pow (n := 8) hx hy
theorem xorL_lt (a b : List Nat) (ha : ∀ x ∈ a, x < 256) (hb : ∀ x ∈ b, x < 256) : ∀ x ∈ xorL a b, x < 256 := by
  intro x hx
  obtain ⟨j, hj, rfl⟩ := List.getElem_of_mem hx
  have h1 : j < a.length := by simp [xorL] at hj; omega
  have h2 : j < b.length := by simp [xorL] at hj; omega
  rw [xorL_get a b j hj h1 h2]
  exact xor_lt _ _ (ha _ (List.getElem_mem _)) (hb _ (List.getElem_mem _))

/-! ### Bytes, Words -/
theorem infoU32 : (Tryd.prog.info? 53).map (fun i => (i.zero, i.size, i.bytes)) = some (some (.int .u32 0), 1, 4) := by kernel_rfl
def bytesL (l : List Nat) : List Nat := l.flatMap bytes4
theorem length_bytesL (l : List Nat) : (bytesL l).length = 4 * l.length := by
  induction l with
  | nil => rfl
  | cons x l ih => simp only [bytesL, List.flatMap_cons, List.length_append, length_bytes4, List.length_cons] at *; omega
theorem bytesL_take_succ (l : List Nat) (j : Nat) (h : j < l.length) : bytesL (l.take (j + 1)) = bytesL (l.take j) ++ bytes4 l[j] := by
  rw [List.take_succ_eq_append_getElem h, bytesL, List.flatMap_append]; simp [bytesL]
set_option maxHeartbeats 1600000 in
theorem bytes_c (A : Option Addr) (n c : Nat) (l : List Nat) (w : World) (h : Reads .u32 w A n c l) (hbig : n ≤ 1099511627776) :
    Calls Tryd.prog 39 #[.slice A n c] w fun e w' => e = .returned (.slice (some ⟨w.heap.size, 0, none⟩) (4 * n) (4 * n)) ∧
      w'.ownsRow w.heap.size 5 1 (.slice (some ⟨w.heap.size, 0, none⟩) (4 * n) (4 * n)) (4 * n) (ints .u8 (bytesL l)) ∧ Below w.heap.size w w' := by
  obtain ⟨i0, hi, hz0, hz1, hz2⟩ := info_parts infoU8
  have b2 : i0.bytes * (4 * n) ≤ 281474976710656 := by rw [hz2]; omega
  have b3 : 4 * n ≤ maxLen := by unfold maxLen; omega
  have Hl := Lib.hid h.len
  go_enter Tryd.func39, Tryd.ntmps39
  go_wp2_with (at_make; refine wpList_make_own _ rfl (.const (.int .i64 0)) (.tmp 8) 32 rfl w.heap.size 5 i0 (.int .u8 0) 1 Tryd.underlying32 hi hz0 hz1 .i64 .i64 _ (4 * n) rfl rfl (by omega) b2 b3 (Nat.le_refl _) ?_; intro w1 hown hgrow)
  have HO : w1.ownsRow w.heap.size 5 1 (.slice (some ⟨w.heap.size, 0, none⟩) (4 * 0) (4 * n)) (4 * 0) (ints .u8 (bytesL (l.take 0))) := by
    simpa [ints, bytesL] using hown
  have HB : Below w.heap.size w w1 := (Below.refl _ _).grown hgrow (Nat.le_refl _) (by simp)
  clear hown hgrow b2 b3
  go_loopw [3, 12] (fun v i wr => ∃ j : Nat, j ≤ n ∧ i = .int .i64 j ∧ v = .slice (some ⟨w.heap.size, 0, none⟩) (4 * j) (4 * n) ∧ wr.ownsRow w.heap.size 5 1 (.slice (some ⟨w.heap.size, 0, none⟩) (4 * j) (4 * n)) (4 * j) (ints .u8 (bytesL (l.take j))) ∧ Below w.heap.size w wr) (fun _ i _ => n - (intOf i).toNat)
  case atStart => exact ⟨0, Nat.zero_le _, rfl, rfl, HO, HB⟩
  case round =>
    clear HO HB
    obtain ⟨j, hj, rfl, rfl, hown, hbel⟩ := hrel
    by_cases hlt : j < n
    · have hjl : j < l.length := by rw [Hl.out]; exact hlt
      obtain ⟨ad, rfl, hb, hc0⟩ := h.cell j hjl
      have hc := (hbel.cell (p := ad.add j) (by rw [block_add]; exact hb)).trans hc0
      clear hc0
      have hx : l[j] < 4294967296 := wf_u32.1 (h.wf _ (List.getElem_mem _))
      have hS := bytesL_take_succ l j hjl
      generalize l[j] = x at *
      have HS := Lib.hid hS
      clear hS
      have HN : Hid ([Value.int .u8 ((x : Int) / 16777216), Value.int .u8 ((x : Int) / 65536 % 256), Value.int .u8 ((x : Int) / 256 % 256), Value.int .u8 ((x : Int) % 256)] = ints .u8 (bytes4 x)) := by
        simp only [Hid, ints, bytes4, List.map, List.cons.injEq, Value.int.injEq, true_and, and_true]
        omega
      go_wp2_with (at_builtin; refine wpList_append_fits _ rfl (.tmp 16) (.tmp 28) 32 rfl w.heap.size 5 i0 1 Tryd.underlying32 hi hz1 w.heap.size (4 * j) (4 * n) _ rfl (hown.alloc _) ⟨wr.heap.size, 0, none⟩ 4 4 _ rfl rfl (cells_new _ _ _) (by simp [Value.oneCell']) (by omega) ?_; intro w2 hown2 hgrow)
      have hb2 : Below w.heap.size w w2 := (hbel.alloc hbel.size _).grown hgrow (by have := hbel.size; simp; omega) (by simp)
      rw [show (#[Value.int .u8 ((x : Int) / 16777216), Value.int .u8 ((x : Int) / 65536 % 256), Value.int .u8 ((x : Int) / 256 % 256), Value.int .u8 ((x : Int) % 256)] : Array Value).toList = _ from HN.out, ← ints_append, ← HS.out] at hown2
      go_roundw
      case rel => exact ⟨j + 1, by omega, by go_num, rfl, hown2, hb2⟩
      case measure => simp [intOf]; omega
    · have : j = n := by omega
      subst this
      go_wp2
      go_ret
      rw [List.take_of_length_le (Nat.le_of_eq Hl.out)] at hown
      exact ⟨rfl, hown, hbel⟩

def wordsL (l : List Nat) : List Nat := (List.range (l.length / 4)).map fun i => be ((l.drop (4 * i)).take 4)
theorem length_wordsL (l : List Nat) : (wordsL l).length = l.length / 4 := by simp [wordsL]
theorem rem4_no (n : Nat) (h : n % 4 ≠ 0) : ((n : Int) % 4 != 0) = true := by
  rw [bne_iff_ne]; omega
theorem rem4_yes (n : Nat) (h : n % 4 = 0) : ((n : Int) % 4 != 0) = false := by
  rw [bne_eq_false_iff_eq]; omega
set_option maxHeartbeats 400000 in
theorem words_no (A : Option Addr) (n c : Nat) (w : World) (h : n % 4 ≠ 0) :
    Calls Tryd.prog 43 #[.slice A n c] w fun e w' => e = .returned (.tuple #[.slice none 0 0, .int .i64 4]) ∧ w = w' := by
  have hs := rem4_no n h
  clear h
  go_enter Tryd.func43, Tryd.ntmps43
  go_wp2
  go_ret2
  exact ⟨rfl, rfl⟩
set_option maxHeartbeats 1600000 in
theorem words_ok (A : Option Addr) (m n c : Nat) (l : List Nat) (w : World) (h : Reads .u8 w A n c l) (hn : Hid (4 * m = n)) (hbig : m ≤ 1099511627776) (hbig2 : n ≤ 9223372036854775000) :
    Calls Tryd.prog 43 #[.slice A n c] w fun e w' => e = .returned (.tuple #[.slice (some ⟨w.heap.size, 0, none⟩) m m, .int .i64 0]) ∧
      w'.ownsRow w.heap.size 53 1 (.slice (some ⟨w.heap.size, 0, none⟩) m m) m (ints .u32 (wordsL l)) ∧ Below w.heap.size w w' := by
  obtain ⟨i0, hi, hz0, hz1, hz2⟩ := info_parts infoU32
  have b2 : i0.bytes * m ≤ 281474976710656 := by rw [hz2]; omega
  have b3 : m ≤ maxLen := by unfold maxLen; omega
  have Hl := Lib.hid h.len
  have hs := rem4_yes n (by have := hn.out; omega)
  go_enter Tryd.func43, Tryd.ntmps43
  go_wp2_with (at_make; refine wpList_make_own _ rfl (.const (.int .i64 0)) (.tmp 12) 50 rfl w.heap.size 53 i0 (.int .u32 0) 1 Tryd.underlying50 hi hz0 hz1 .i64 .i64 _ m rfl rfl (by have := hn.out; omega) b2 b3 (Nat.le_refl _) ?_; intro w1 hown hgrow)
  have HO : w1.ownsRow w.heap.size 53 1 (.slice (some ⟨w.heap.size, 0, none⟩) 0 m) 0 (ints .u32 ((wordsL l).take 0)) := by
    simpa [ints] using hown
  have HB : Below w.heap.size w w1 := (Below.refl _ _).grown hgrow (Nat.le_refl _) (by simp)
  have HS := Lib.hid hs
  clear hown hgrow b2 b3 hs
  go_loopw [4, 5] (fun v i wr => ∃ j q : Nat, j ≤ m ∧ Hid (4 * j = q) ∧ i = .int .i64 q ∧ v = .slice (some ⟨w.heap.size, 0, none⟩) j m ∧ wr.ownsRow w.heap.size 53 1 (.slice (some ⟨w.heap.size, 0, none⟩) j m) j (ints .u32 ((wordsL l).take j)) ∧ Below w.heap.size w wr) (fun _ i _ => n - (intOf i).toNat)
  case atStart => exact ⟨0, 0, Nat.zero_le _, rfl, rfl, rfl, HO, HB⟩
  case round =>
    clear HO HB
    obtain ⟨j, q, hj, hq, rfl, rfl, hown, hbel⟩ := hrel
    by_cases hlt : j < m
    · have hqn : q + 4 ≤ n := by have := hn.out; have := hq.out; omega
      have hcn := h.room
      obtain ⟨ad, rfl, hb, _⟩ := h.cell q (by rw [Hl.out]; omega)
      have hd : decide (q < n) = true := by simp; omega
      have hr := (h.keep (hbel.mono (Nat.le_refl _))).sub q 4 hqn
      have hb4 : be ((l.drop q).take 4) < 4294967296 := by
        have := be_lt _ (fun x hx => wf_u8.1 (hr.wf x hx))
        rwa [hr.len] at this
      have hW : (wordsL l).take (j + 1) = (wordsL l).take j ++ [be ((l.drop q).take 4)] := by
        rw [List.take_succ_eq_append_getElem (by rw [length_wordsL, Hl.out]; have := hn.out; omega)]
        congr 1
        rw [← hq.out]
        simp [wordsL]
      have HW := Lib.hid hW
      have HR := Lib.hid hr
      clear hW hr
      go_wp2_with fail
      refine (number_c _ _ _ _ _ HR.out).mono ?_
      rintro e w' ⟨rfl, rfl⟩
      generalize be ((l.drop q).take 4) = x at *
      rw [Nat.mod_eq_of_lt (show x < 18446744073709551616 by omega)]
      go_wp2_with (at_builtin; refine wpList_append_fits _ rfl (.tmp 20) (.tmp 28) 50 rfl w.heap.size 53 i0 1 Tryd.underlying50 hi hz1 w.heap.size j m _ rfl (hown.alloc _) ⟨wr.heap.size, 0, none⟩ 1 1 _ rfl rfl (cells_new _ _ _) (by simp [Value.oneCell']) (by omega) ?_; intro w2 hown2 hgrow)
      have hb2 : Below w.heap.size w w2 := (hbel.alloc hbel.size _).grown hgrow (by have := hbel.size; simp; omega) (by simp)
      rw [show (#[Value.int .u32 (x : Int)] : Array Value).toList = ints .u32 [x] from rfl, ← ints_append, ← HW.out] at hown2
      go_roundw
      case rel => exact ⟨j + 1, q + 4, by omega, by have := hq.out; show _ = _; omega, by go_num, rfl, hown2, hb2⟩
      case measure => simp [intOf]; omega
    · have : j = m := by omega
      subst this
      have hqn : ¬ q < n := by have := hn.out; have := hq.out; omega
      go_wp2
      go_ret2
      rw [List.take_of_length_le (by rw [length_wordsL, Hl.out]; have := hn.out; omega)] at hown
      exact ⟨rfl, hown, hbel⟩
end Go.Proofs.YtjacfihpjolddaaDoor
