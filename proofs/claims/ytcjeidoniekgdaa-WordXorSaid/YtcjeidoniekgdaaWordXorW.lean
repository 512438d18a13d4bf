/- The walk of the statement WordXor: what is added bit by bit, twice, is as it was; of unlike lengths nothing is. Conditions: the arguments read as lists of bytes. -/
import Derived.Test.YtcjeidoniekgdaaAwake1
namespace Go.Proofs.Ytcjeidoniekgdaa.wordXor
open Go.ChangeShapes Go.WideShapes Go.RowKit
theorem xor_twice (a b : List Nat) (h : a.length = b.length) : xorL (xorL a b) b = a := by
  apply List.ext_getElem
  · simp [xorL, h]
  · intro i h1 h2
    simp [xorL, Nat.xor_assoc]
set_option maxHeartbeats 800000 in
theorem walk_big (A B : Option Addr) (n c m d : Nat) (w : World) (h : 300 < n ∨ 300 < m) :
    Calls Try.prog 6 #[.slice A n c, .slice B m d] w fun e w' => e = .returned (.bool true) ∧ Below w.heap.size w w' := by
  by_cases hn : 300 < n
  · go_enter Try.func6, Try.ntmps6
    go_wp2_with fail
    refine (awake_c _).mono ?_
    rintro e w1 ⟨rfl, hb⟩
    go_wp2
    go_ret
    exact ⟨rfl, hb⟩
  · have hm : 300 < m := by omega
    have hd : decide ((300 : Int) < (n : Int)) = false := by simp; omega
    go_enter Try.func6, Try.ntmps6
    go_wp2_with fail
    refine (awake_c _).mono ?_
    rintro e w1 ⟨rfl, hb⟩
    go_wp2
    go_ret
    exact ⟨rfl, hb⟩
set_option maxHeartbeats 800000 in
theorem walk_unlike (A B : Option Addr) (n c m d : Nat) (w : World) (hn : n ≤ 300) (hm : m ≤ 300) (h : n ≠ m) :
    Calls Try.prog 6 #[.slice A n c, .slice B m d] w fun e w' => e = .returned (.bool true) ∧ Below w.heap.size w w' := by
  have hne : ((n : Int) != (m : Int)) = true := by rw [bne_iff_ne]; omega
  have H := Lib.hid h
  clear h
  have hd : decide ((300 : Int) < (n : Int)) = false := by simp; omega
  have hd2 : decide ((300 : Int) < (m : Int)) = false := by simp; omega
  go_enter Try.func6, Try.ntmps6
  go_wp2_with fail
  refine (awake_c _).mono ?_
  rintro e w1 ⟨rfl, hb⟩
  go_wp2_with fail
  refine (xor_size _ _ _ _ _ _ _ H.out).mono ?_
  rintro e w2 ⟨rfl, rfl⟩
  go_wp2
  go_ret
  exact ⟨rfl, hb⟩
set_option maxHeartbeats 1600000 in
theorem walk_like (A B : Option Addr) (n c d : Nat) (a b : List Nat) (w : World) (hn : n ≤ 300) (ha : Reads .u8 w A n c a) (hb : Reads .u8 w B n d b) :
    Calls Try.prog 6 #[.slice A n c, .slice B n d] w fun e w' => e = .returned (.bool true) ∧ Below w.heap.size w w' := by
  have hd : decide ((300 : Int) < (n : Int)) = false := by simp; omega
  have hla := ha.len
  have hlb := hb.len
  have hwx : ∀ x ∈ xorL a b, (Lit.int .u8 (x : Int)).wf = true := fun x hx => wf_u8.2 (xorL_lt a b (fun y hy => wf_u8.1 (ha.wf y hy)) (fun y hy => wf_u8.1 (hb.wf y hy)) x hx)
  have Hla := Lib.hid hla
  have Hlb := Lib.hid hlb
  have HWX := Lib.hid hwx
  have HXX := Lib.hid (xor_twice a b (hla.trans hlb.symm))
  clear hla hlb hwx
  go_enter Try.func6, Try.ntmps6
  go_wp2_with fail
  refine (awake_c _).mono ?_
  rintro e w1 ⟨rfl, hb1⟩
  have ha1 := ha.keep hb1
  have hb1' := hb.keep hb1
  go_wp2_with fail
  refine (xor_ok _ _ _ _ _ a b _ ha1 hb1' (by omega)).mono ?_
  rintro e w2 ⟨rfl, hown, hb2⟩
  obtain ⟨X, cx, ex, hrx⟩ := Reads.of_own hown HWX.out
  cases ex
  have hbb := hb1.trans (hb2.mono hb1.size)
  have hb2' := hb1'.keep hb2
  have ha2 := ha1.keep hb2
  generalize w1.heap.size = g at *
  clear hown hb2 hb1 hb1' ha1
  go_wp2_with fail
  refine (xor_ok _ _ _ _ _ (xorL a b) b _ hrx hb2' (by omega)).mono ?_
  rintro e w3 ⟨rfl, hown, hb3⟩
  rw [HXX.out] at hown
  obtain ⟨Y, cy, ey, hry⟩ := Reads.of_own hown (fun x hx => ha.wf x hx)
  cases ey
  have hb3' := hbb.trans (hb3.mono hbb.size)
  have ha3 := ha2.keep hb3
  have hx3 := hrx.keep hb3
  have hbv3 := hb2'.keep hb3
  generalize w2.heap.size = g2 at *
  clear hown hb3 hbb hrx ha2 hb2' ha hb
  go_wp2_with fail
  go_loopw [9] (fun i wr => ∃ j : Nat, j ≤ n ∧ i = .int .i64 j ∧ ∃ k, wr = w3.drewN k) (fun i _ => n - (intOf i).toNat)
  case atStart => exact ⟨0, Nat.zero_le _, rfl, 0, rfl⟩
  case round =>
    obtain ⟨j, hj, rfl, k, rfl⟩ := hrel
    by_cases hlt : j < n
    · have hja : j < a.length := by rw [Hla.out]; exact hlt
      have hjb : j < b.length := by rw [Hlb.out]; exact hlt
      have hjx : j < (xorL a b).length := by rw [length_xorL a b n Hla.out Hlb.out]; exact hlt
      obtain ⟨ad, rfl, _, hca⟩ := ha3.cell j hja
      obtain ⟨bd, rfl, _, hcb⟩ := hbv3.cell j hjb
      obtain ⟨xd, ex, _, hcx⟩ := hx3.cell j hjx
      cases ex
      rw [xorL_get a b j hjx hja hjb, add_head] at hcx
      have hx8 : a[j] < 256 := wf_u8.1 (ha3.wf _ (List.getElem_mem _))
      have hy8 : b[j] < 256 := wf_u8.1 (hbv3.wf _ (List.getElem_mem _))
      have hbits := u8_xor_nat a[j] b[j] hx8 hy8
      generalize a[j] = x at *
      generalize b[j] = y at *
      have hlt2 : (j : Int) < (n : Int) := by omega
      have hj0 : (0 : Int) ≤ (j : Int) := by omega
      generalize x ^^^ y = z at *
      go_wp2_with fail
      go_quiet (fail)
      go_wp2
      go_roundw
      case rel => exact ⟨j + 1, by omega, by go_num, _, rfl⟩
      case measure => simp [intOf]; omega
    · go_wp2_with fail
      refine (same_c _ _ _ _ _ _ a a _ (hry.drewN k) (ha3.drewN k)).mono ?_
      rintro e w4 ⟨rfl, k2, rfl⟩
      rw [decide_eq_true (rfl : a = a)]
      go_wp2
      go_ret
      exact ⟨rfl, belowDrewN hb3' _⟩
end Go.Proofs.Ytcjeidoniekgdaa.wordXor
