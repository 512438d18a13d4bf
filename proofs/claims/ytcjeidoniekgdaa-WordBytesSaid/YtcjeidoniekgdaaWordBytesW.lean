/- The walks of the statement WordBytes: the bytes of any words are those of each, the highest first, and are these words again; any bytes are words just if they are a multiple of four. Conditions: the slices read as lists. -/
import Derived.Test.YtcjeidoniekgdaaAwake1
namespace Go.Proofs.Ytcjeidoniekgdaa.wordBytes
open Go.ChangeShapes Go.WideShapes Go.RowKit
theorem bytesL_cons (x : Nat) (l : List Nat) : bytesL (x :: l) = bytes4 x ++ bytesL l := by simp [bytesL]
theorem bytesL_sub : ∀ (l : List Nat) (j : Nat) (h : j < l.length), ((bytesL l).drop (4 * j)).take 4 = bytes4 l[j]
  | x :: l, 0, _ => by rw [bytesL_cons]; simp [bytes4]
  | x :: l, j + 1, h => by
    rw [bytesL_cons, List.drop_append, length_bytes4, List.drop_eq_nil_of_le (by rw [length_bytes4]; omega), List.nil_append, show 4 * (j + 1) - 4 = 4 * j from by omega]
    exact bytesL_sub l j (by simpa using h)
theorem wordsL_bytesL (l : List Nat) (h : ∀ x ∈ l, x < 4294967296) : wordsL (bytesL l) = l := by
  apply List.ext_getElem
  · rw [length_wordsL, length_bytesL]; omega
  · intro i h1 h2
    simp only [wordsL, List.getElem_map, List.getElem_range]
    rw [bytesL_sub l i h2, be_bytes4 _ (h _ (List.getElem_mem _))]
theorem bytesL_lt (l : List Nat) : ∀ x ∈ bytesL l, x < 256 := by
  intro x hx
  obtain ⟨y, _, hy⟩ := List.mem_flatMap.1 hx
  exact bytes4_lt y x hy
theorem wordsL_cons (a b c d : Nat) (l : List Nat) : wordsL (a :: b :: c :: d :: l) = be [a, b, c, d] :: wordsL l := by
  have e : (a :: b :: c :: d :: l).length / 4 = l.length / 4 + 1 := by simp; omega
  rw [wordsL, e, List.range_succ_eq_map, List.map_cons, List.map_map]
  congr 1
theorem wordsL_lt (l : List Nat) (h : ∀ x ∈ l, x < 256) : ∀ x ∈ wordsL l, x < 4294967296 := by
  intro x hx
  obtain ⟨i, _, rfl⟩ := List.mem_map.1 hx
  have h1 := be_lt ((l.drop (4 * i)).take 4) (fun y hy => h y (List.mem_of_mem_drop (List.mem_of_mem_take hy)))
  have h2 : ((l.drop (4 * i)).take 4).length ≤ 4 := List.length_take_le _ _
  exact Nat.lt_of_lt_of_le h1 (Nat.pow_le_pow_right (by decide) h2)
theorem bytesL_wordsL : ∀ (m : Nat) (l : List Nat), l.length = 4 * m → (∀ x ∈ l, x < 256) → bytesL (wordsL l) = l
  | 0, l, h, _ => by
    have : l = [] := List.eq_nil_of_length_eq_zero (by omega)
    subst this
    rfl
  | m + 1, l, h, hx => by
    match l, h, hx with
    | a :: b :: c :: d :: l, h, hx =>
      rw [wordsL_cons, bytesL_cons, bytes4_be a b c d (hx a (by simp)) (hx b (by simp)) (hx c (by simp)) (hx d (by simp)), bytesL_wordsL m l (by simp at h; omega) (fun x hx' => hx x (by simp [hx']))]
      rfl
    | [], h, _ => simp at h
    | [_], h, _ => simp at h; omega
    | [_, _], h, _ => simp at h; omega
    | [_, _, _], h, _ => simp at h; omega
set_option maxHeartbeats 800000 in
theorem walk_big (A B : Option Addr) (n c m d : Nat) (w : World) (h : 100 < n ∨ 400 < m) :
    Calls Try.prog 4 #[.slice A n c, .slice B m d] w fun e w' => e = .returned (.bool true) ∧ Below w.heap.size w w' := by
  by_cases hn : 100 < n
  · go_enter Try.func4, Try.ntmps4
    go_wp2_with fail
    refine (awake_c _).mono ?_
    rintro e w1 ⟨rfl, hb⟩
    go_wp2
    go_ret
    exact ⟨rfl, hb⟩
  · have hm : 400 < m := by omega
    have hd : decide ((100 : Int) < (n : Int)) = false := by simp; omega
    go_enter Try.func4, Try.ntmps4
    go_wp2_with fail
    refine (awake_c _).mono ?_
    rintro e w1 ⟨rfl, hb⟩
    go_wp2
    go_ret
    exact ⟨rfl, hb⟩
set_option maxHeartbeats 3200000 in
theorem walk_small (A B : Option Addr) (n c m d : Nat) (l b : List Nat) (w : World) (hn : n ≤ 100) (hm : m ≤ 400) (hl : Reads .u32 w A n c l) (hb : Reads .u8 w B m d b) :
    Calls Try.prog 4 #[.slice A n c, .slice B m d] w fun e w' => e = .returned (.bool true) ∧ Below w.heap.size w w' := by
  have hd : decide ((100 : Int) < (n : Int)) = false := by simp; omega
  have hd2 : decide ((400 : Int) < (m : Int)) = false := by simp; omega
  have Hll := Lib.hid hl.len
  have Hlb := Lib.hid hb.len
  have HWB := Lib.hid (wordsL_bytesL l (fun x hx => wf_u32.1 (hl.wf x hx)))
  go_enter Try.func4, Try.ntmps4
  go_wp2_with fail
  refine (awake_c _).mono ?_
  rintro e w1 ⟨rfl, hbel⟩
  replace hl := hl.keep hbel
  replace hb := hb.keep hbel
  go_wp2_with fail
  refine (bytes_c _ _ _ l _ hl (by omega)).mono ?_
  rintro e w2 ⟨rfl, hown, hb2⟩
  obtain ⟨X, cx, ex, hrt⟩ := Reads.of_own hown (fun x hx => wf_u8.2 (bytesL_lt l x hx))
  cases ex
  replace hl := hl.keep hb2
  replace hb := hb.keep hb2
  replace hbel := hbel.trans (hb2.mono hbel.size)
  generalize w1.heap.size = g at *
  clear hown hb2
  go_wp2_with fail
  refine (words_ok _ n _ _ (bytesL l) _ hrt rfl (by omega) (by omega)).mono ?_
  rintro e w3 ⟨rfl, hown, hb3⟩
  rw [HWB.out] at hown
  obtain ⟨Y, cy, ey, hrb⟩ := Reads.of_own hown hl.wf
  cases ey
  replace hl := hl.keep hb3
  replace hb := hb.keep hb3
  replace hrt := hrt.keep hb3
  replace hbel := hbel.trans (hb3.mono hbel.size)
  generalize w2.heap.size = g2 at *
  clear hown hb3
  go_wp2_with fail
  go_loopw [8] (fun i wr => ∃ j : Nat, j ≤ n ∧ i = .int .i64 j ∧ ∃ k, wr = w3.drewN k) (fun i _ => n - (intOf i).toNat)
  case atStart => exact ⟨0, Nat.zero_le _, rfl, 0, rfl⟩
  case round =>
    obtain ⟨j, hj, rfl, k, rfl⟩ := hrel
    by_cases hlt : j < n
    · have hjl : j < l.length := by rw [Hll.out]; exact hlt
      replace hl := hl.drewN k
      replace hrt := hrt.drewN k
      replace hrb := hrb.drewN k
      have HSub := Lib.hid (bytesL_sub l j hjl)
      generalize hK : w3.drewN k = wk at *
      have HK := Lib.hid hK
      clear hK
      obtain ⟨ad, rfl, _, hca⟩ := hl.cell j hjl
      obtain ⟨bd, eb, _, hcb⟩ := hrb.cell j hjl
      cases eb
      rw [add_head] at hcb
      have hx8 : l[j] < 4294967296 := wf_u32.1 (hl.wf _ (List.getElem_mem _))
      have hsub := hrt.sub (4 * j) 4 (by omega)
      rw [HSub.out, add_head] at hsub
      have hbe := be_bytes4 l[j] hx8
      generalize l[j] = x at *
      have hget : ∀ q, Calls Try.prog 12 #[.slice (some ⟨g, 4 * j, none⟩) 4 (4 * n - 4 * j)] (wk.drewN q) fun e w' => e = .returned (.int .u64 (x : Int)) ∧ wk.drewN q = w' := fun q => by
        have h := refGet_c _ _ _ _ _ (hsub.drewN q)
        rwa [hbe, Nat.mod_eq_of_lt (show x < 18446744073709551616 by omega)] at h
      have Hget := Lib.hid hget
      clear hsub hbe HSub hget
      have hlt2 : (j : Int) < (n : Int) := by omega
      have hj0 : (0 : Int) ≤ (j : Int) := by omega
      have hxx : ((x : Int) != (x : Int)) = false := by simp
      go_wp2_with fail
      have hq1 : IntKind.i64.wrap (4 * (j : Int)) = 4 * (j : Int) := IntWalk.i64_in _ (by omega)
      have hq2 : IntKind.i64.wrap (4 * (j : Int) + 4) = 4 * (j : Int) + 4 := IntWalk.i64_in _ (by omega)
      have hq3 : (0 : Int) ≤ 4 * (j : Int) := by omega
      have hq4 : (4 * (j : Int)).toNat = 4 * j := by omega
      have hq5 : (4 * (j : Int) + 4).toNat = 4 * j + 4 := by omega
      have hq6 : 4 * (j : Int) ≤ 4 * (j : Int) + 4 := by omega
      have hq7 : 4 * j + 4 ≤ 4 * n := by omega
      go_quiet ((go_at_call 12; exact quiet_same (Hget.out _)))
      go_wp2
      go_roundw
      case rel => exact ⟨j + 1, by omega, by go_num, k + nq, by rw [← HK.out, World.drewN_drewN]⟩
      case measure => simp [intOf]; omega
    · replace hb := hb.drewN k
      replace hbel := belowDrewN hbel k
      generalize w3.drewN k = w4 at *
      clear hl hrt hrb
      go_wp2_with fail
      by_cases h4 : m % 4 = 0
      · have hs := rem4_yes m h4
        have HM : Hid (4 * (m / 4) = m) := by show _ = _; omega
        have HBW := Lib.hid (bytesL_wordsL (m / 4) b (Hlb.out.trans HM.out.symm) (fun x hx => wf_u8.1 (hb.wf x hx)))
        generalize m / 4 = q at *
        have hq : q ≤ 100 := by have := HM.out; omega
        clear h4
        refine (words_ok _ q _ _ b _ hb HM (by omega) (by omega)).mono ?_
        rintro e w5 ⟨rfl, hown, hb5⟩
        obtain ⟨Y, cy, ey, hrw⟩ := Reads.of_own hown (fun x hx => wf_u32.2 (wordsL_lt b (fun y hy => wf_u8.1 (hb.wf y hy)) x hx))
        cases ey
        replace hb := hb.keep hb5
        replace hbel := hbel.trans (hb5.mono hbel.size)
        generalize w4.heap.size = g4 at *
        clear hown hb5
        go_wp2_with fail
        refine (bytes_c _ _ _ _ _ hrw (by omega)).mono ?_
        rintro e w6 ⟨rfl, hown, hb6⟩
        rw [HBW.out] at hown
        obtain ⟨Z, cz, ez, hrz⟩ := Reads.of_own hown hb.wf
        cases ez
        replace hb := hb.keep hb6
        replace hbel := hbel.trans (hb6.mono hbel.size)
        generalize w5.heap.size = g5 at *
        clear hown hb6
        go_wp2_with fail
        refine (same_c _ _ _ _ _ _ b b _ hrz hb).mono ?_
        rintro e w7 ⟨rfl, k7, rfl⟩
        rw [decide_eq_true (rfl : b = b)]
        go_wp2
        go_ret
        exact ⟨rfl, belowDrewN hbel _⟩
      · have hs := rem4_no m h4
        refine (words_no _ _ _ _ h4).mono ?_
        rintro e w5 ⟨rfl, rfl⟩
        clear h4
        go_wp2
        go_ret
        exact ⟨rfl, hbel⟩
end Go.Proofs.Ytcjeidoniekgdaa.wordBytes
