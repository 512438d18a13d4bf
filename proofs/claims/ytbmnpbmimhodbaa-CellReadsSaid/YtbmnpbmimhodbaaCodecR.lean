/- What the reference's functions of layer 6 return, for every argument that the statements hand them, as a walk through the translated text: Number, Signed, ReadNumber, ReadText. Conditions: slices read as lists, places lie in them. -/
import Derived.Test.YtbmnpbmimhodbaaCodec4
namespace Go.Proofs.Ytbmnpbmimhodbaa
open Go.ChangeShapes Go.WideShapes Go.RowKit
set_option maxHeartbeats 1600000 in
theorem refNumber_c (n : Nat) (w : World) (hn : n < 72057594037927936) :
    Calls Try.prog 34 #[.int .i64 (n : Int)] w (RowPost w 5 (numL n).length (ints .u8 (numL n))) := by
  obtain ⟨i0, hi, hz0, hz1, hz2⟩ := info_parts infoU8
  obtain ⟨L, hL⟩ : ∃ L, Hid (numL n = L) := ⟨_, rfl⟩
  have hLl : Hid (L.length ≤ 8) := by show _ ≤ _; rw [← hL.out]; exact numL_len 7 n hn
  rw [hL.out]
  go_enter Try.func34, Try.ntmps34
  go_wp2_with fail
  go_loopw [0, 3] (fun x o wr => ∃ (m k c : Nat) (A : Option Addr) (pre : List Nat), x = .int .i64 (m : Int) ∧ o = .slice A k c ∧ m < 72057594037927936 ∧ Hid (pre.length = k) ∧ Hid (L = pre ++ numL m) ∧ Hid (Mine w wr 5 (.slice A k c) k (ints .u8 pre))) (fun x _ _ => (intOf x).toNat)
  case atStart => exact ⟨n, 0, 0, none, [], rfl, rfl, hn, rfl, hL.out.symm, World.ownsRow_nil _ _ _ _, Below.refl _ _⟩
  case round =>
    obtain ⟨m, k, c, A, pre, rfl, rfl, hm, hk, hpre, hM⟩ := hrel
    have hpl : pre.length + (numL m).length ≤ 8 := by rw [← List.length_append, ← hpre.out]; exact hLl.out
    rw [hk.out] at hpl
    by_cases h1 : m < 128
    · have h128 : decide ((127 : Int) < (m : Int)) = false := by simp; omega
      have HP : Hid (ints .u8 pre ++ ints .u8 [m] = ints .u8 L) := by show _ = _; rw [hpre.out, numL_lt m h1, ints_append]
      have HL : Hid (k + 1 = L.length) := by show _ = _; rw [hpre.out, numL_lt m h1, List.length_append, hk.out]; rfl
      have hm8 : m < 256 := by omega
      clear hpl
      have hk8 : k ≤ 8 := by have := HL.out; have := hLl.out; omega
      go_wp2_with (at_builtin; refine wpList_appB rfl (.tmp 15) (.tmp 18) 38 rfl w.heap.size 5 i0 (.int .u8 0) 1 Try.underlying38 hi hz0 hz1 hz2 rfl _ k _ rfl (hM.out.1.alloc _) .u8 (some ⟨wr.heap.size, 0, none⟩) 1 1 [m] rfl (reads_new rfl rfl (by decide) (by simpa using hm8)) (by unfold maxLen; omega) (by omega) (Nat.le_trans hM.out.2.size (by simp)) ?_; intro v1 w1 hown1 hgrow1 hat1; obtain ⟨A1, c1, rfl⟩ := own_form hown1)
      go_ret
      rw [HP.out] at hown1
      have := mine_grown hM.out _ hown1 hgrow1
      rw [HL.out] at this
      refine ⟨_, rfl, ?_⟩
      rw [← HL.out] at this ⊢
      exact this
    · have h128 : decide ((127 : Int) < (m : Int)) = true := by simp; omega
      obtain ⟨b, hb'⟩ : ∃ b, Hid (b = m % 128 + 128) := ⟨_, rfl⟩
      have hb8 : b < 256 := by have := hb'.out; omega
      have HP : Hid (L = (pre ++ [b]) ++ numL (m / 128)) := by show _ = _; rw [hpre.out, numL_ge m h1, hb'.out]; simp
      have HL : Hid ((pre ++ [b]).length = k + 1) := by show _ = _; rw [List.length_append, hk.out]; rfl
      have hpl1 : 1 ≤ (numL m).length := by rw [numL_ge m h1]; simp
      have hk8 : k ≤ 8 := by omega
      have hcast : (m : Int) % 128 + 128 = (b : Int) := by have := hb'.out; omega
      have HC := Lib.hid hcast
      clear hcast hpl hpl1
      go_upto_region 4 with (at_builtin; rw [HC.out]; refine wpList_appB rfl (.tmp 6) (.tmp 11) 38 rfl w.heap.size 5 i0 (.int .u8 0) 1 Try.underlying38 hi hz0 hz1 hz2 rfl _ k _ rfl (hM.out.1.alloc _) .u8 (some ⟨wr.heap.size, 0, none⟩) 1 1 [b] rfl (reads_new rfl rfl (by decide) (by simpa using hb8)) (by unfold maxLen; omega) (by omega) (Nat.le_trans hM.out.2.size (by simp)) ?_; intro v1 w1 hown1 hgrow1 hat1; obtain ⟨A1, c1, rfl⟩ := own_form hown1)
      rw [← ints_append] at hown1
      have HM1 := Lib.hid (mine_grown hM.out _ hown1 hgrow1)
      clear hown1 hgrow1 hat1
      go_wp2
      go_roundw
      case rel => exact ⟨m / 128, k + 1, c1, A1, pre ++ [b], by go_num, rfl, by omega, HL, HP, HM1⟩
      case measure => simp [intOf]; omega
/-- It returns a number, a place and an error; where there is no error, r stands from that place on. -/
def ReadPost (w : World) (B : List Nat) (E N : Nat) (r : List Nat) (en : Ending) (w' : World) : Prop := ∃ to : Nat, en = .returned (.tuple #[.int .i64 (N : Int), .int .i64 (to : Int), .int .i64 (E : Int)]) ∧ w = w' ∧ (E = 0 → to ≤ B.length ∧ r = B.drop to)
theorem drop_cons {B : List Nat} {a : Nat} (h : a < B.length) : B.drop a = B[a] :: B.drop (a + 1) := List.drop_eq_getElem_cons h
set_option maxRecDepth 100000 in
set_option maxHeartbeats 3200000 in
theorem refReadNumber_c (A : Option Addr) (n c at_ : Nat) (B : List Nat) (w : World) (E N : Nat) (r : List Nat) (hr : Reads .u8 w A n c B) (ha : at_ ≤ n) (hR : Hid (readL (B.drop at_) = (E, N, r))) :
    Calls Try.prog 35 #[.slice A n c, .int .i64 (at_ : Int)] w (ReadPost w B E N r) := by
  have hcap : n ≤ 9223372036854775807 := by have := hr.room; have := hr.cap; unfold maxLen at this; omega
  have HL := Lib.hid hr.len
  have H := Lib.hid hr
  clear hr
  go_enter Try.func35, Try.ntmps35
  go_wp2_with fail
  go_loopw [1, 7, 8, 9] (fun p x u q wr => ∃ (i a acc U : Nat), i ≤ 8 ∧ a ≤ n ∧ acc < U ∧ Hid (128 ^ i = U) ∧ p = .int .i64 (a : Int) ∧ x = .int .i64 (acc : Int) ∧ u = .int .i64 (U : Int) ∧ q = .int .i64 (i : Int) ∧ wr = w ∧ Hid (numR (8 - i) i acc (B.drop a) = (E, N, r))) (fun _ _ _ q _ => 8 - (intOf q).toNat)
  case atStart => exact ⟨0, at_, 0, 1, by decide, ha, by decide, rfl, rfl, rfl, rfl, rfl, rfl, hR⟩
  case round =>
    clear hR ha
    obtain ⟨i, a, acc, U, hi8, ha, hacc, hU, rfl, rfl, rfl, rfl, rfl, hR⟩ := hrel
    have hU8 : U ≤ 72057594037927936 := by rw [← hU.out]; exact pow_le8 i hi8
    by_cases hi : i < 8
    · have hi2 : decide ((i : Int) < 8) = true := by simp; omega
      have hU7 : U ≤ 562949953421312 := by rw [← hU.out]; exact Nat.pow_le_pow_right (n := 128) (i := i) (j := 7) (by decide) (by omega)
      obtain ⟨k, hk⟩ : ∃ k, Hid (8 - i = k + 1) := ⟨7 - i, by show _ = _; omega⟩
      rw [hk.out] at hR
      by_cases hlt : a < n
      · have hB : a < B.length := by rw [HL.out]; exact hlt
        obtain ⟨ad, rfl, hadlt, hcell⟩ := H.out.cell a hB
        have hx8 : B[a] < 256 := wf_u8.1 (H.out.wf _ (List.getElem_mem _))
        rw [drop_cons hB] at hR
        generalize B[a] = x at *
        have hlt2 : (a : Int) < (n : Int) := by omega
        have hlt3 : decide (n ≤ a) = false := by simp; omega
        have ha0 : (0 : Int) ≤ (a : Int) := by omega
        clear hB hadlt
        by_cases hz : x = 0 ∧ 0 < i
        · obtain ⟨rfl, hi0⟩ := hz
          have HR : Hid ((6, 0, ([] : List Nat)) = (E, N, r)) := by show _ = _; rw [← hR.out]; exact (numR_form k i acc _ hi0).symm
          have hi1 : decide ((0 : Int) < (i : Int)) = true := by simp; omega
          clear hR
          go_wp2
          go_ret3
          obtain ⟨rfl, rfl, rfl⟩ : E = 6 ∧ N = 0 ∧ r = [] := by have := HR.out; simp only [Prod.mk.injEq] at this; exact ⟨this.1.symm, this.2.1.symm, this.2.2.symm⟩
          exact ⟨a, rfl, rfl, fun h => absurd h (by decide)⟩
        · by_cases hx0 : x = 0
          · subst hx0
            obtain rfl : i = 0 := by omega
            have HR : Hid ((0, acc, B.drop (a + 1)) = (E, N, r)) := by show _ = _; rw [← hR.out, numR_last k 0 acc 0 _ hz (by decide)]; rfl
            obtain rfl : U = 1 := hU.out.symm
            clear hR
            go_wp2
            go_ret3
            obtain ⟨rfl, rfl, rfl⟩ : E = 0 ∧ N = acc ∧ r = B.drop (a + 1) := by have := HR.out; simp only [Prod.mk.injEq] at this; exact ⟨this.1.symm, this.2.1.symm, this.2.2.symm⟩
            exact ⟨a + 1, rfl, rfl, fun _ => ⟨by rw [HL.out]; omega, rfl⟩⟩
          · obtain ⟨p, hp⟩ : ∃ p, Hid (p = x % 128 * U) := ⟨_, rfl⟩
            have hpl : p ≤ 127 * U := by rw [hp.out]; exact Nat.mul_le_mul_right _ (by omega)
            have hpe : ((x : Int) % 128) * (U : Int) = (p : Int) := by rw [hp.out]; simp
            have HPE := Lib.hid hpe
            have hxz : ((x : Int) == 0) = false := by simp; omega
            clear hpe
            go_upto_region 13 with (fail)
            rw [HPE.out, IntWalk.wrap64_in (p : Int) (by omega), IntWalk.wrap64_in ((acc : Int) + (p : Int)) (by omega), show (acc : Int) + (p : Int) = ((acc + p : Nat) : Int) by omega]
            obtain ⟨q, hq⟩ : ∃ q, Hid (acc + p = q) := ⟨_, rfl⟩
            have hql : q < U * 128 := by rw [← hq.out]; omega
            rw [hq.out]
            by_cases h128 : x < 128
            · have HR : Hid ((0, q, B.drop (a + 1)) = (E, N, r)) := by show _ = _; rw [← hR.out, numR_last k i acc x _ hz h128, ← hq.out, hp.out, Nat.mod_eq_of_lt h128, hU.out]
              have h128' : decide ((x : Int) < 128) = true := by simp; omega
              clear hR hpl hql
              go_wp2
              go_ret3
              obtain ⟨rfl, rfl, rfl⟩ : E = 0 ∧ N = q ∧ r = B.drop (a + 1) := by have := HR.out; simp only [Prod.mk.injEq] at this; exact ⟨this.1.symm, this.2.1.symm, this.2.2.symm⟩
              exact ⟨a + 1, rfl, rfl, fun _ => ⟨by rw [HL.out]; omega, rfl⟩⟩
            · have HR : Hid (numR (8 - (i + 1)) (i + 1) q (B.drop (a + 1)) = (E, N, r)) := by
                show _ = _
                rw [← hR.out, numR_more k i acc x _ h128, ← hq.out, hp.out, hU.out]
                congr 1
                have := hk.out
                omega
              have h128' : decide ((x : Int) < 128) = false := by simp; omega
              have HU : Hid (128 ^ (i + 1) = U * 128) := by show _ = _; rw [Nat.pow_succ, hU.out]
              clear hR hpl
              go_wp2
              go_roundw
              case rel => exact ⟨i + 1, a + 1, q, U * 128, by omega, by omega, hql, HU, by go_num, rfl, by go_num, by go_num, by trivial, HR⟩
              case measure => simp [intOf]; omega
      · obtain rfl : a = n := by omega
        have HR : Hid ((4, 0, ([] : List Nat)) = (E, N, r)) := by show _ = _; rw [← hR.out, List.drop_eq_nil_of_le (by rw [HL.out]; omega)]; rfl
        have hlt3 : decide (a ≤ a) = true := by simp
        clear hR
        go_wp2
        go_ret3
        obtain ⟨rfl, rfl, rfl⟩ : E = 4 ∧ N = 0 ∧ r = [] := by have := HR.out; simp only [Prod.mk.injEq] at this; exact ⟨this.1.symm, this.2.1.symm, this.2.2.symm⟩
        exact ⟨a, rfl, rfl, fun h => absurd h (by decide)⟩
    · obtain rfl : i = 8 := by omega
      have HR : Hid ((5, 0, ([] : List Nat)) = (E, N, r)) := by show _ = _; rw [← hR.out]; rfl
      clear hR hi hi8
      go_wp2
      go_ret3
      obtain ⟨rfl, rfl, rfl⟩ : E = 5 ∧ N = 0 ∧ r = [] := by have := HR.out; simp only [Prod.mk.injEq] at this; exact ⟨this.1.symm, this.2.1.symm, this.2.2.symm⟩
      exact ⟨a, rfl, rfl, fun h => absurd h (by decide)⟩
end Go.Proofs.Ytbmnpbmimhodbaa
