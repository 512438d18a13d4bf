/- What each function of package word and of the reference batonref01 returns, for every argument, as a walk through its translated text: Rot, goodSize, Put, Get, number, Xor, Bytes, Words; power, Rot, Get, Same. Conditions: integers lie in their kinds, and slices read as lists. -/
import Derived.Test.YtjacfihpjolddaaDoorChecked
import Derived.Test.YtjacfihpjolddaaDoorBase
namespace Go.Proofs.YtjacfihpjolddaaDoor
open Go.ChangeShapes Go.WideShapes Go.RowKit

theorem infoU8 : (Tryd.prog.info? 5).map (fun i => (i.zero, i.size, i.bytes)) = some (some (.int .u8 0), 1, 1) := by kernel_rfl

/-! ### Rot, and the reference's -/
set_option maxHeartbeats 400000 in
theorem rot_c (x : Nat) (n : Int) (w : World) (hx : x < 4294967296) :
    Calls Tryd.prog 44 #[.int .u32 (x : Int), .int .i64 n] w fun e w' => e = .returned (.int .u32 (rot32 x (n % 32).toNat : Nat)) ∧ w = w' := by
  have hk := wrap_rem32 n
  have hlt : (n % 32).toNat < 32 := by omega
  generalize (n % 32).toNat = k at *
  have hfin : bits BinOp.or IntKind.u32 ((x : Int) / 2 ^ k) ((x : Int) * 2 ^ (32 - k) % 4294967296) = (rot32 x k : Nat) := by
    have e := u32_or_nat (x / 2 ^ k) (x * 2 ^ (32 - k) % 4294967296) (Nat.lt_of_le_of_lt (Nat.div_le_self _ _) hx) (Nat.mod_lt _ (by decide))
    rw [rot32_or x k hx (by omega)] at e
    rw [← e]
    simp
  have H := Lib.hid hfin
  clear hfin
  go_enter Tryd.func44, Tryd.ntmps44
  go_wp2
  go_ret
  exact ⟨ret_int H.out, rfl⟩

theorem pow_cast (k : Nat) : ((2 : Int) ^ k % 4294967296 * 2 % 4294967296) = (2 ^ (k + 1) % 4294967296) := by
  rw [Int.pow_succ]; omega
set_option maxHeartbeats 400000 in
theorem power_c (n : Int) (p : Nat) (w : World) (hx : 0 ≤ n) (hx2 : n ≤ 32) (hp : Hid (2 ^ n.toNat % 4294967296 = p)) :
    Calls Tryd.prog 40 #[.int .i64 n] w fun e w' => e = .returned (.int .u32 (p : Nat)) ∧ w = w' := by
  go_enter Tryd.func40, Tryd.ntmps40
  go_wp2
  go_loop [3, 4] (fun t i => ∃ k : Nat, (k : Int) ≤ n ∧ i = .int .i64 k ∧ t = .int .u32 (2^k % 4294967296)) (fun _ i => (n - intOf i).toNat)
  case atStart => exact ⟨0, by omega, rfl, rfl⟩
  case round =>
    obtain ⟨k, hk, rfl, rfl⟩ := hrel
    by_cases hlt : (k : Int) < n
    · go_wp2
      go_round
      case rel => exact ⟨k + 1, by omega, by go_num, by rw [← pow_cast k]⟩
      case measure => simp [intOf]; omega
    · go_wp2
      go_ret
      refine ⟨ret_int ?_, rfl⟩
      have : n.toNat = k := by omega
      rw [← hp.out, this]
      simp
theorem refRot_eq (x k p q : Nat) (hx : x < 4294967296) (hk : k < 32) (hp : p = 2 ^ k) (hq : q = 2 ^ (32 - k)) :
    (((x : Int) / p % 4294967296 + (x : Int) % p * q % 4294967296) % 4294967296) = (rot32 x k : Nat) := by
  have h1 := rot32_lt x k hx (by omega)
  have h2 : x / p ≤ x := Nat.div_le_self _ _
  unfold rot32 at *
  rw [← hp, ← hq] at *
  generalize e1 : x / p = a at *
  generalize e2 : x % p * q = b at *
  have e1' : (x : Int) / p = (a : Nat) := by rw [← e1]; simp
  have e2' : (x : Int) % p * q = (b : Nat) := by rw [← e2]; simp
  rw [e1', e2']
  omega
set_option maxHeartbeats 400000 in
theorem refRot_c (x : Nat) (n : Int) (w : World) (hx : x < 4294967296) (h0 : 0 ≤ n) (h1 : n < 32) :
    Calls Tryd.prog 32 #[.int .u32 (x : Int), .int .i64 n] w fun e w' => e = .returned (.int .u32 (rot32 x n.toNat : Nat)) ∧ ∃ m, w' = w.drewN m := by
  by_cases hz : n = 0
  · subst hz
    go_enter Tryd.func32, Tryd.ntmps32
    go_wp2
    go_ret
    exact ⟨ret_int (by rw [show (0 : Int).toNat = 0 from rfl, rot32_zero]), 0, rfl⟩
  · have hne : (n == 0) = false := by simp [hz]
    obtain ⟨p, hp⟩ : ∃ p : Nat, Hid (2 ^ n.toNat % 4294967296 = p) := ⟨_, rfl⟩
    obtain ⟨q, hq⟩ : ∃ q : Nat, Hid (2 ^ (32 - n).toNat % 4294967296 = q) := ⟨_, rfl⟩
    have hp0 : Hid (p = 2 ^ n.toNat) := by
      rw [← hp.out]; exact Nat.mod_eq_of_lt (Nat.pow_lt_pow_right (a := 2) (by decide) (show n.toNat < 32 by omega))
    have hq0 : Hid (q = 2 ^ (32 - n).toNat) := by
      rw [← hq.out]; exact Nat.mod_eq_of_lt (Nat.pow_lt_pow_right (a := 2) (by decide) (show (32 - n).toNat < 32 by omega))
    have hpp : 0 < (p : Int) := by rw [hp0.out]; exact_mod_cast Nat.two_pow_pos _
    have hpz : (p : Int) ≠ 0 := by omega
    have hpz2 : p ≠ 0 := by omega
    have hpz3 : ((p : Int) == 0) = false := by simp; omega
    go_enter Tryd.func32, Tryd.ntmps32
    go_wp2_with fail
    refine (power_c _ _ _ (by omega) (by omega) hp).mono ?_
    rintro e w' ⟨rfl, rfl⟩
    go_wp2_with fail
    have hwr : IntKind.i64.wrap (32 - n) = 32 - n := IntWalk.i64_in _ (by omega)
    go_quiet ((go_at_call 40; exact quiet_same (power_c _ _ _ (by omega) (by omega) hq)))
    go_wp2
    go_ret
    exact ⟨ret_int (refRot_eq x n.toNat p q hx (by omega) hp0.out (by rw [hq0.out]; congr 1; omega)), _, rfl⟩

/-! ### Put, Get -/
theorem good_yes (n : Int) (w : World) (h0 : 1 ≤ n) (h1 : n ≤ 8) : Calls Tryd.prog 30 #[.int .i64 n] w fun e w' => e = .returned (.bool true) ∧ w = w' := by
  go_enter Tryd.func30, Tryd.ntmps30
  go_wp2
  go_ret
  exact ⟨rfl, rfl⟩
theorem good_no (n : Int) (w : World) (h : n < 1 ∨ 8 < n) : Calls Tryd.prog 30 #[.int .i64 n] w fun e w' => e = .returned (.bool false) ∧ w = w' := by
  rcases h with h | h
  · go_enter Tryd.func30, Tryd.ntmps30
    go_wp2
    go_ret
    exact ⟨rfl, rfl⟩
  · have hd : decide (n ≤ 8) = false := by simp; omega
    go_enter Tryd.func30, Tryd.ntmps30
    go_wp2
    go_ret
    exact ⟨rfl, rfl⟩
set_option maxHeartbeats 400000 in
theorem put_arg (N : Nat) (n : Int) (w : World) (h : n < 1 ∨ 8 < n) :
    Calls Tryd.prog 22 #[.int .u64 (N : Int), .int .i64 n] w fun e w' => e = .returned (.tuple #[.slice none 0 0, .int .i64 1]) ∧ w = w' := by
  go_enter Tryd.func22, Tryd.ntmps22
  go_wp2_with fail
  refine (good_no _ _ h).mono ?_
  rintro e w' ⟨rfl, rfl⟩
  go_wp2
  go_ret2
  exact ⟨rfl, rfl⟩
theorem p256 (n : Nat) : 2 ^ (8 * n) = 256 ^ n := by rw [Nat.pow_mul]
theorem put_big (N n : Nat) (h : 256 ^ n ≤ N) : ((N : Int) / 2 ^ (8 * n) != 0) = true := by
  have : 1 ≤ N / 2 ^ (8 * n) := by rw [p256, Nat.le_div_iff_mul_le (Nat.pow_pos (by decide)), Nat.one_mul]; exact h
  rw [bne_iff_ne]
  intro e
  have : ((N / 2 ^ (8 * n) : Nat) : Int) = 0 := by rw [← e]; simp
  omega
theorem put_fit (N n : Nat) (h : N < 256 ^ n) : ((N : Int) / 2 ^ (8 * n) != 0) = false := by
  have : N / 2 ^ (8 * n) = 0 := by rw [p256]; exact Nat.div_eq_of_lt h
  have e : ((N / 2 ^ (8 * n) : Nat) : Int) = 0 := by rw [this]; rfl
  have e2 : (N : Int) / 2 ^ (8 * n) = 0 := by rw [← e]; simp
  rw [e2]; rfl
set_option maxHeartbeats 400000 in
theorem put_size (N : Nat) (n : Nat) (w : World) (h0 : 1 ≤ n) (h1 : n ≤ 8) (hb : Hid (256 ^ n ≤ N)) :
    Calls Tryd.prog 22 #[.int .u64 (N : Int), .int .i64 (n : Int)] w fun e w' => e = .returned (.tuple #[.slice none 0 0, .int .i64 22]) ∧ w = w' := by
  have hs := put_big N n hb.out
  go_enter Tryd.func22, Tryd.ntmps22
  go_wp2_with fail
  refine (good_yes _ _ (by omega) (by omega)).mono ?_
  rintro e w' ⟨rfl, rfl⟩
  go_wp2
  go_ret2
  exact ⟨rfl, rfl⟩
/-- The n bytes of N, the most significant first. -/
def putL (N n : Nat) : List Nat := (List.range n).map fun i => N / 256 ^ (n - 1 - i) % 256
theorem length_putL (N n : Nat) : (putL N n).length = n := by simp [putL]
theorem putL_get (N n j : Nat) (h : j < (putL N n).length) : (putL N n)[j] = N / 256 ^ (n - 1 - j) % 256 := by simp [putL]
theorem putL_lt (N n : Nat) : ∀ x ∈ putL N n, x < 256 := by
  intro x hx
  obtain ⟨i, _, rfl⟩ := List.mem_map.1 hx
  exact Nat.mod_lt _ (by decide)
theorem put_byte (N n j : Nat) : (N : Int) / 2 ^ (8 * (n - 1 - j)) % 256 = (N / 256 ^ (n - 1 - j) % 256 : Nat) := by
  have : (N : Int) / 2 ^ (8 * (n - 1 - j)) = (N / 2 ^ (8 * (n - 1 - j)) : Nat) := by simp
  rw [this, p256]; omega
set_option maxHeartbeats 800000 in
theorem put_ok (N : Nat) (n : Nat) (w : World) (h0 : 1 ≤ n) (h1 : n ≤ 8) (hb : Hid (N < 256 ^ n)) :
    Calls Tryd.prog 22 #[.int .u64 (N : Int), .int .i64 (n : Int)] w fun e w' => e = .returned (.tuple #[.slice (some ⟨w.heap.size, 0, none⟩) n n, .int .i64 0]) ∧
      w'.ownsRow w.heap.size 5 1 (.slice (some ⟨w.heap.size, 0, none⟩) n n) n (ints .u8 (putL N n)) ∧ Below w.heap.size w w' := by
  have hs := put_fit N n hb.out
  obtain ⟨i0, hi, hz0, hz1, hz2⟩ := info_parts infoU8
  have b2 : i0.bytes * n ≤ 281474976710656 := by rw [hz2]; omega
  have b3 : n ≤ maxLen := by unfold maxLen; omega
  go_enter Tryd.func22, Tryd.ntmps22
  go_wp2_with fail
  refine (good_yes _ _ (by omega) (by omega)).mono ?_
  rintro e w' ⟨rfl, rfl⟩
  go_wp2_with (at_make; refine wpList_make_full _ rfl (.tmp 16) (.tmp 16) 32 rfl w.heap.size 5 i0 (.int .u8 0) 1 Tryd.underlying32 hi hz0 hz1 .i64 .i64 _ _ n rfl rfl rfl rfl b2 b3 (Nat.le_refl _) ?_; intro w1 hown hgrow)
  have HS := Lib.hid hs
  have HO : w1.ownsRow w.heap.size 5 1 (.slice (some ⟨w.heap.size, 0, none⟩) n n) n (ints .u8 (fillL (putL N n) 0)) := by
    rw [fillL_zero, length_putL, ints_replicate, ← toList_madeCells_one]; simpa [Value.cells] using hown
  have HB : Below w.heap.size w w1 := (Below.refl _ _).grown hgrow (Nat.le_refl _) (by simp)
  clear hs hown hgrow b2 b3 hi hz0 hz1 hz2
  go_loopw [20] (fun i wr => ∃ j : Nat, j ≤ n ∧ i = .int .i64 j ∧ wr.ownsRow w.heap.size 5 1 (.slice (some ⟨w.heap.size, 0, none⟩) n n) n (ints .u8 (fillL (putL N n) j)) ∧ Below w.heap.size w wr) (fun i _ => n - (intOf i).toNat)
  case atStart => exact ⟨0, Nat.zero_le _, rfl, HO, HB⟩
  case round =>
    clear HO HB
    obtain ⟨j, hj, rfl, hown, hbel⟩ := hrel
    by_cases hlt : j < n
    · have hf := hown.frozenAt j
      have hc := hown.cellAt j (by omega)
      obtain ⟨v, hc3⟩ : ∃ v, wr.cell? ⟨w.heap.size, j, none⟩ = some v :=
        ⟨_, by rw [hc]; exact List.getElem?_eq_getElem (by rw [length_ints, length_fillL _ _ (by rw [length_putL]; omega), length_putL]; exact hlt)⟩
      have hst := hown.stored j (.int .u8 (N / 256 ^ (n - 1 - j) % 256 : Nat))
      rw [ints_set, ← putL_get N n j (by rw [length_putL]; exact hlt), fillL_set _ _ (by rw [length_putL]; exact hlt), putL_get] at hst
      have HT := Lib.hid hst
      clear hc hst
      go_wp2
      go_roundw
      case rel => rw [put_byte]; exact ⟨j + 1, by omega, by go_num, HT.out.1, hbel.setCell (Nat.le_refl _) _⟩
      case measure => simp [intOf]; omega
    · have : j = n := by omega
      subst this
      go_wp2
      go_ret2
      refine ⟨rfl, ?_, hbel⟩
      rw [fillL_full _ _ (length_putL N j)] at hown
      exact hown
end Go.Proofs.YtjacfihpjolddaaDoor
