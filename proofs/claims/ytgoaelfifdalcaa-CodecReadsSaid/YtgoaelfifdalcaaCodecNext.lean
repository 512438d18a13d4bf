/- What the function next of the statements of layer 6 returns: that a Reader reads what the reference reads, kind by kind. Conditions: the bytes read as a list, the Reader stands at the place that is told. -/
import Derived.Test.YtgoaelfifdalcaaAwake6
import Derived.Test.YtgoaelfifdalcaaShaEq
namespace Go.Proofs.Ytgoaelfifdalcaa
open Go.ChangeShapes Go.WideShapes Go.RowKit
/-- It agrees; the Reader holds what is told. -/
def NextPost (w : World) (g : Nat) (D : Option Nat) (B : List Nat) (en : Ending) (w' : World) : Prop := ∃ (to : Nat) (s' : List Nat × Int), en = .returned (.tuple #[.bool true, .int .i64 (to : Int), .int .i64 s'.2]) ∧ RAt w' g D s' ∧ (s'.2 = 0 → to ≤ B.length ∧ s'.1 = B.drop to) ∧ w.grownBy w' (some g)
section
variable (g : Nat) (D : Option Nat) (most : Int) (A : Option Addr) (n c a : Nat) (B : List Nat) (w : World) (hr : Reads .u8 w A n c B) (ha : a ≤ n) (ho : 0 < n → Off A g) (h : RAt w g D (B.drop a, 0))
include hr ha ho h
set_option maxHeartbeats 1600000 in
theorem next0 : Calls Try.prog 25 #[.pointer (some ⟨g, 0, none⟩), .int .i64 0, .int .i64 most, .slice A n c, .int .i64 (a : Int)] w (NextPost w g D B) := by
  have HC := Lib.hid (rbyte_c g D _ w h)
  have HL := Lib.hid hr.len
  have hcap : n ≤ 9223372036854775807 := by have := hr.room; have := hr.cap; unfold maxLen at this; omega
  have HR := Lib.hid hr
  have HO := Lib.hid ho
  clear hr ho h
  by_cases hlt : a < n
  · have hB : a < B.length := by rw [HL.out]; exact hlt
    rw [drop_cons hB] at HC
    have HX : Hid (byteR (B[a] :: B.drop (a + 1), 0) = (B[a], (B.drop (a + 1), 0))) := rfl
    rw [HX.out] at HC
    have hlt3 : decide (n ≤ a) = false := by simp; omega
    have hlt2 : (a : Int) < (n : Int) := by omega
    have ha0 : (0 : Int) ≤ (a : Int) := by omega
    clear HX
    obtain ⟨x, hx⟩ : ∃ x, Hid (B[a] = x) := ⟨B[a], rfl⟩
    rw [hx.out] at HC
    go_enter Try.func25, Try.ntmps25
    go_wp2_with fail
    refine HC.out.mono ?_
    rintro en w1 ⟨rfl, h1, h2⟩
    have hr1 := HR.out.only' HO.out h2
    obtain ⟨ad, rfl, hadlt, hcell⟩ := hr1.cell a hB
    rw [hx.out] at hcell
    have H1 := Lib.hid h1
    clear h1 hr1 hadlt
    go_wp2
    go_ret3
    exact ⟨a + 1, (B.drop (a + 1), 0), by simp, H1.out, fun _ => ⟨by rw [HL.out]; omega, rfl⟩, h2⟩
  · obtain rfl : a = n := by omega
    rw [List.drop_eq_nil_of_le (by rw [HL.out]; omega)] at HC
    have HX : Hid (byteR ([], 0) = (0, ([], 4))) := rfl
    rw [HX.out] at HC
    have hlt3 : decide (a ≤ a) = true := by simp
    clear HX
    go_enter Try.func25, Try.ntmps25
    go_wp2_with fail
    refine HC.out.mono ?_
    rintro en w1 ⟨rfl, h1, h2⟩
    have H1 := Lib.hid h1
    clear h1
    go_wp2
    go_ret3
    exact ⟨a, ([], 4), rfl, H1.out, fun h => absurd h (by decide), h2⟩
set_option maxHeartbeats 1600000 in
theorem next1 : Calls Try.prog 25 #[.pointer (some ⟨g, 0, none⟩), .int .i64 1, .int .i64 most, .slice A n c, .int .i64 (a : Int)] w (NextPost w g D B) := by
  obtain ⟨E, N, r, hR⟩ : ∃ E N r, Hid (readL (B.drop a) = (E, N, r)) := ⟨_, _, _, rfl⟩
  have HC := Lib.hid (rnumber_ok g D _ w E N r h hR)
  have HR := Lib.hid hr
  have HO := Lib.hid ho
  clear hr ho h
  go_enter Try.func25, Try.ntmps25
  go_wp2_with fail
  refine HC.out.mono ?_
  rintro en w1 ⟨rfl, h1, h2⟩
  have H1 := Lib.hid h1
  clear h1
  go_wp2_with fail
  refine (refReadNumber_c A n c a B w1 E N r (HR.out.only' HO.out h2) ha hR).mono ?_
  rintro en w2 ⟨to, rfl, rfl, hto⟩
  have HTO := Lib.hid hto
  clear hto
  go_wp2
  go_ret3
  exact ⟨to, (r, (E : Int)), by simp, H1.out, fun h => HTO.out (by simpa using h), h2⟩
set_option maxHeartbeats 1600000 in
theorem next2 : Calls Try.prog 25 #[.pointer (some ⟨g, 0, none⟩), .int .i64 2, .int .i64 most, .slice A n c, .int .i64 (a : Int)] w (NextPost w g D B) := by
  obtain ⟨E, N, r, hR⟩ : ∃ E N r, Hid (readL (B.drop a) = (E, N, r)) := ⟨_, _, _, rfl⟩
  have hq : signedR (B.drop a, 0) = (sgnR N, (r, (E : Int))) := by rw [signedR, numberR, if_pos rfl, hR.out]
  have HC := Lib.hid (rsigned_c g D _ w h)
  rw [hq] at HC
  have hNlt : N < 72057594037927936 := by
    have := readL_lt (B.drop a) (fun x hx => wf_u8.1 (hr.wf x (List.mem_of_mem_drop hx)))
    rw [hR.out] at this
    exact this
  have hs0 : -36028797018963968 ≤ sgnR N := by unfold sgnR; split <;> omega
  have hs1 : sgnR N ≤ 36028797018963968 := by unfold sgnR; split <;> omega
  have HS := Lib.hid (sgnN_sgnR N)
  have HR := Lib.hid hr
  have HO := Lib.hid ho
  clear hr ho h hq
  generalize sgnR N = z at *
  go_enter Try.func25, Try.ntmps25
  go_wp2_with fail
  refine HC.out.mono ?_
  rintro en w1 ⟨rfl, h1, h2⟩
  have H1 := Lib.hid h1
  clear h1
  go_wp2_with fail
  refine (refReadNumber_c A n c a B w1 E N r (HR.out.only' HO.out h2) ha hR).mono ?_
  rintro en w2 ⟨to, rfl, rfl, hto⟩
  have HTO := Lib.hid hto
  clear hto
  go_wp2_with fail
  refine (refSigned_c z w1 hs0 hs1).mono ?_
  rw [HS.out]
  rintro en w2 ⟨rfl, rfl⟩
  go_wp2
  go_ret3
  exact ⟨to, (r, (E : Int)), by simp, H1.out, fun h => HTO.out (by simpa using h), h2⟩
set_option maxHeartbeats 1600000 in
theorem next3 (hn : n ≤ 1099511627776) : Calls Try.prog 25 #[.pointer (some ⟨g, 0, none⟩), .int .i64 3, .int .i64 most, .slice A n c, .int .i64 (a : Int)] w (NextPost w g D B) := by
  have HC := Lib.hid (rtext_c g D most _ w h (by simp only [List.length_drop, hr.len]; omega))
  have HR := Lib.hid hr
  have HO := Lib.hid ho
  clear hr ho h
  go_enter Try.func25, Try.ntmps25
  go_wp2_with fail
  refine HC.out.mono ?_
  rintro en w1 ⟨V, m, d, rfl, hr1, _, h1, h2⟩
  have H1 := Lib.hid h1
  have HR1 := Lib.hid hr1
  clear h1 hr1
  go_wp2_with fail
  refine (refReadText_c A n c a most B w1 (HR.out.only' HO.out h2) ha).mono ?_
  rintro en w2 ⟨V2, m2, d2, to, rfl, rfl, hr2, hto⟩
  have HTO := Lib.hid hto
  have HR2 := Lib.hid hr2
  clear hto hr2
  go_wp2_with fail
  refine (same_c V V2 m d m2 d2 _ _ w1 HR1.out HR2.out).mono ?_
  rintro en w2 ⟨rfl, k, rfl⟩
  go_wp2
  go_ret3
  exact ⟨to, (textR most (B.drop a, 0)).2, by simp, H1.out.of_heap rfl, HTO.out, only_trans h2 (only_of_below (belowDrewN (Below.refl _ _) k) _)⟩
set_option maxHeartbeats 1600000 in
theorem next5 (kind : Int) (k0 : kind ≠ 0) (k1 : kind ≠ 1) (k2 : kind ≠ 2) (k3 : kind ≠ 3) (k4 : kind ≠ 4) : Calls Try.prog 25 #[.pointer (some ⟨g, 0, none⟩), .int .i64 kind, .int .i64 most, .slice A n c, .int .i64 (a : Int)] w (NextPost w g D B) := by
  have HC := Lib.hid (rbool_c g D _ w h)
  have HL := Lib.hid hr.len
  have hcap : n ≤ 9223372036854775807 := by have := hr.room; have := hr.cap; unfold maxLen at this; omega
  have e0 : (kind == 0) = false := by simpa using k0
  have e1 : (kind == 1) = false := by simpa using k1
  have e2 : (kind == 2) = false := by simpa using k2
  have e3 : (kind == 3) = false := by simpa using k3
  have e4 : (kind == 4) = false := by simpa using k4
  have HR := Lib.hid hr
  have HO := Lib.hid ho
  clear hr ho h k0 k1 k2 k3 k4
  by_cases hlt : a < n
  · have hB : a < B.length := by rw [HL.out]; exact hlt
    rw [drop_cons hB] at HC
    obtain ⟨x, hx⟩ : ∃ x, Hid (B[a] = x) := ⟨B[a], rfl⟩
    rw [hx.out] at HC
    have hlt3 : decide (n ≤ a) = false := by simp; omega
    have hlt2 : (a : Int) < (n : Int) := by omega
    have ha0 : (0 : Int) ≤ (a : Int) := by omega
    by_cases hx1 : 1 < x
    · have HX : Hid (boolR (x :: B.drop (a + 1), 0) = (false, ([], 6))) := by show _ = _; rw [boolR, byteR]; simp only; rw [if_pos hx1, failR_ok _ _ rfl (by decide)]; simp; omega
      rw [HX.out] at HC
      have hd : decide ((1 : Int) < (x : Int)) = true := by simp; omega
      go_enter Try.func25, Try.ntmps25
      go_wp2_with fail
      refine HC.out.mono ?_
      rintro en w1 ⟨rfl, h1, h2⟩
      have hr1 := HR.out.only' HO.out h2
      obtain ⟨ad, rfl, hadlt, hcell⟩ := hr1.cell a hB
      rw [hx.out] at hcell
      have H1 := Lib.hid h1
      clear h1 hr1 hadlt
      go_wp2
      go_ret3
      exact ⟨a, ([], 6), rfl, H1.out, fun h => absurd h (by decide), h2⟩
    · have HX : Hid (boolR (x :: B.drop (a + 1), 0) = (x == 1, (B.drop (a + 1), 0))) := by show _ = _; rw [boolR, byteR]; simp only; rw [if_neg hx1]
      rw [HX.out] at HC
      have hd : decide ((1 : Int) < (x : Int)) = false := by simp; omega
      have H1' : Hid (((x : Int) == 1) = (x == 1)) := by show _ = _; rw [Bool.eq_iff_iff]; simp; omega
      go_enter Try.func25, Try.ntmps25
      go_wp2_with fail
      refine HC.out.mono ?_
      rintro en w1 ⟨rfl, h1, h2⟩
      have hr1 := HR.out.only' HO.out h2
      obtain ⟨ad, rfl, hadlt, hcell⟩ := hr1.cell a hB
      rw [hx.out] at hcell
      have H1 := Lib.hid h1
      clear h1 hr1 hadlt
      generalize hbb : (x == 1) = bb at *
      have HBB := Lib.hid hbb
      clear hbb
      go_wp2
      go_ret3
      exact ⟨a + 1, (B.drop (a + 1), 0), by simp [H1'.out], H1.out, fun _ => ⟨by rw [HL.out]; omega, rfl⟩, h2⟩
  · obtain rfl : a = n := by omega
    rw [List.drop_eq_nil_of_le (by rw [HL.out]; omega)] at HC
    have HX : Hid (boolR ([], 0) = (false, ([], 4))) := rfl
    rw [HX.out] at HC
    have hlt3 : decide (a ≤ a) = true := by simp
    clear HX
    go_enter Try.func25, Try.ntmps25
    go_wp2_with fail
    refine HC.out.mono ?_
    rintro en w1 ⟨rfl, h1, h2⟩
    have H1 := Lib.hid h1
    clear h1
    go_wp2
    go_ret3
    exact ⟨a, ([], 4), rfl, H1.out, fun h => absurd h (by decide), h2⟩
omit ho in
set_option maxRecDepth 100000 in
set_option maxHeartbeats 1600000 in
theorem next4_short (hlt : n - a < 32) : Calls Try.prog 25 #[.pointer (some ⟨g, 0, none⟩), .int .i64 4, .int .i64 most, .slice A n c, .int .i64 (a : Int)] w (NextPost w g D B) := by
  have hL := hr.len
  obtain ⟨i0, hi0, _⟩ := info_parts infoU8
  have hk : keyR (B.drop a, 0) = (zeroK, ([], 4)) := by
    have : nextR 32 (B.drop a, 0) = ([], ([], 4)) := by rw [nextR, if_pos (by simp only [List.length_drop, hL]; omega)]; rfl
    rw [keyR, this]; rfl
  have HC := Lib.hid (rkey_c g D _ w h)
  rw [hk] at HC
  have heq : ∀ W, (Op.equalIn 10000 31 (.agg #[.int .u8 0, .int .u8 0, .int .u8 0, .int .u8 0, .int .u8 0, .int .u8 0, .int .u8 0, .int .u8 0, .int .u8 0, .int .u8 0, .int .u8 0, .int .u8 0, .int .u8 0, .int .u8 0, .int .u8 0, .int .u8 0, .int .u8 0, .int .u8 0, .int .u8 0, .int .u8 0, .int .u8 0, .int .u8 0, .int .u8 0, .int .u8 0, .int .u8 0, .int .u8 0, .int .u8 0, .int .u8 0, .int .u8 0, .int .u8 0, .int .u8 0, .int .u8 0]) (.agg #[.int .u8 0, .int .u8 0, .int .u8 0, .int .u8 0, .int .u8 0, .int .u8 0, .int .u8 0, .int .u8 0, .int .u8 0, .int .u8 0, .int .u8 0, .int .u8 0, .int .u8 0, .int .u8 0, .int .u8 0, .int .u8 0, .int .u8 0, .int .u8 0, .int .u8 0, .int .u8 0, .int .u8 0, .int .u8 0, .int .u8 0, .int .u8 0, .int .u8 0, .int .u8 0, .int .u8 0, .int .u8 0, .int .u8 0, .int .u8 0, .int .u8 0, .int .u8 0])).run Try.prog W = .ok true W := fun W => run_eq_ints W 9998 Try.underlying31 hi0 (by kernel_rfl) Try.underlying5 zeroK rfl
  have HEQ := Lib.hid heq
  have hd : decide ((n : Int) - (a : Int) < 32) = true := by simp; omega
  have hcap : n ≤ 9223372036854775807 := by have := hr.room; have := hr.cap; unfold maxLen at this; omega
  have HW := Lib.hid h.lt
  have HLOW := Lib.hid h.low
  clear hr h hk heq hL
  go_enter Try.func25, Try.ntmps25
  go_wp2_with fail
  refine HC.out.mono ?_
  rintro en w1 ⟨rfl, h1, h2⟩
  have H1 := Lib.hid h1
  clear h1
  go_upto_region 22 with ((with_reducible refine at_store 31 ?_); refine wpList_store_at rfl rfl 31 (.tmp 26) (.tmp 102) rfl w1.heap.size 0 rfl (ints .u8 zeroK) rfl (ints .u8 zeroK) _ (Blk.new _ _ (ints .u8 zeroK)) (by decide) (ints_oneCell _ _) (by kernel_rfl) ?_; intro w2 hb2 hg2)
  rw [splice_all _ _ rfl] at hb2
  have HB2 := Lib.hid hb2
  clear hb2
  refine wp_region_lit ?_
  refine wpList_load_at rfl 31 (.tmp 26) rfl ⟨w1.heap.size, 0, none⟩ rfl ([.int .u8 0, .int .u8 0, .int .u8 0, .int .u8 0, .int .u8 0, .int .u8 0, .int .u8 0, .int .u8 0, .int .u8 0, .int .u8 0, .int .u8 0, .int .u8 0, .int .u8 0, .int .u8 0, .int .u8 0, .int .u8 0, .int .u8 0, .int .u8 0, .int .u8 0, .int .u8 0, .int .u8 0, .int .u8 0, .int .u8 0, .int .u8 0, .int .u8 0, .int .u8 0, .int .u8 0, .int .u8 0, .int .u8 0, .int .u8 0, .int .u8 0, .int .u8 0]) _ HB2.out.all Try.underlying31 rfl (by kernel_rfl) ?_
  go_wp2_with fail
  rw [HEQ.out]
  go_simp
  go_wp2
  go_ret3
  have hs2 := h2.size
  have hs1 := H1.out.lt
  refine ⟨a, ([], 4), rfl, ?_, fun h => absurd h (by decide), ?_⟩
  · exact (H1.out.below (alloc_below _ _)).only hg2 (by omega) (fun e => by have := HLOW.out _ e; omega)
  · exact only_trans h2 (only_of_below (below_of_only (alloc_below _ _) hg2 (by simp) (Nat.le_refl _)) _)
omit ha in
set_option maxRecDepth 100000 in
set_option maxHeartbeats 1600000 in
theorem next4_full (hle : a + 32 ≤ n) : Calls Try.prog 25 #[.pointer (some ⟨g, 0, none⟩), .int .i64 4, .int .i64 most, .slice A n c, .int .i64 (a : Int)] w (NextPost w g D B) := by
  have hL := hr.len
  obtain ⟨K, hK⟩ : ∃ K, Hid ((B.drop a).take 32 = K) := ⟨_, rfl⟩
  have hKl : K.length = 32 := by rw [← hK.out]; simp; omega
  have hk : keyR (B.drop a, 0) = (K, (B.drop (a + 32), 0)) := by
    have : nextR 32 (B.drop a, 0) = (K, (B.drop (a + 32), 0)) := by rw [nextR, if_neg (by simp only [List.length_drop, hL]; omega), ← hK.out, List.drop_drop]
    rw [keyR, this]; simp only; rw [if_pos hKl]
  have hKb : ∀ x ∈ K, x < 256 := by
    intro x hx
    rw [← hK.out] at hx
    exact wf_u8.1 (hr.wf x (List.mem_of_mem_drop (List.mem_of_mem_take hx)))
  have HC := Lib.hid (rkey_c g D _ w h)
  rw [hk] at HC
  have hd : decide ((n : Int) - (a : Int) < 32) = false := by simp; omega
  have hroom := hr.room
  have hcap : c ≤ 9223372036854775807 := by have := hr.cap; unfold maxLen at this; omega
  have HLOW := Lib.hid h.low
  have HR := Lib.hid hr
  have HO := Lib.hid ho
  have HL := Lib.hid hL
  have HKL := Lib.hid hKl
  have HKB := Lib.hid hKb
  obtain ⟨ad, rfl, hadlt⟩ : ∃ ad, A = some ad ∧ ad.block < w.heap.size := by
    obtain ⟨ad, e, hl, _⟩ := hr.cell 0 (by omega)
    exact ⟨ad, e, hl⟩
  clear hr ho h hk hL hKl hKb
  go_enter Try.func25, Try.ntmps25
  go_wp2_with fail
  refine HC.out.mono ?_
  rintro en w1 ⟨rfl, h1, h2⟩
  have H1 := Lib.hid h1
  clear h1
  go_upto_region 23 with ((with_reducible refine at_store 31 ?_); refine wpList_store_at rfl rfl 31 (.tmp 26) (.tmp 102) rfl w1.heap.size 0 rfl (ints .u8 K) rfl (ints .u8 zeroK) _ (Blk.new _ _ (ints .u8 zeroK)) (by rw [length_ints, length_ints, HKL.out, length_zeroK]; decide) (ints_oneCell _ _) (by rw [length_ints, HKL.out]; kernel_rfl) ?_; intro w2 hb2 hg2)
  rw [splice_all _ _ (by rw [length_ints, length_ints, HKL.out]; rfl)] at hb2
  have hs2 := h2.size
  have hs1 := H1.out.lt
  have hR2 : RAt w2 g D (B.drop (a + 32), 0) := (H1.out.below (alloc_below _ _)).only hg2 (by omega) (fun e => by have := HLOW.out _ e; omega)
  have hg3 : w.grownBy w2 (some g) := only_trans h2 (only_of_below (below_of_only (alloc_below _ _) hg2 (by simp) (Nat.le_refl _)) _)
  have hrB : Reads .u8 w2 (some (ad.add a)) 32 (c - a) K := by
    have := (HR.out.only' HO.out hg3).sub a 32 (by omega)
    rw [hK.out] at this
    exact this
  have hrK := reads_blk hb2 HKL.out (by decide) HKB.out
  have HR2 := Lib.hid hR2
  have hsame : ∀ m, Calls Try.prog 13 #[.slice (some ⟨w1.heap.size, 0, none⟩) 32 32, .slice (some (ad.add a)) 32 (c - a)] (w2.drewN m) fun e w' => e = .returned (.bool true) ∧ ∃ k, w' = w2.drewN k := by
    intro m
    refine (same_c _ _ 32 32 32 (c - a) K K (w2.drewN m) (hrK.drewN m) (hrB.drewN m)).mono ?_
    rintro e w' ⟨rfl, k, rfl⟩
    exact ⟨ret_bool (by simp), _, World.drewN_drewN _ _ _⟩
  have HS := Lib.hid hsame
  have q1 : IntKind.i64.wrap ((a : Int) + 32) = (a : Int) + 32 := IntWalk.i64_in _ (by omega)
  have q2 : ((a : Int) + 32).toNat = a + 32 := by omega
  have q3 : (0 : Int) ≤ (a : Int) + 32 := by omega
  have q4 : (a : Int) ≤ (a : Int) + 32 := by omega
  have q5 : (a : Int) + 32 ≤ (c : Int) := by omega
  have q6 : ¬ c = a := by omega
  have q7 : (0 : Int) ≤ (a : Int) := by omega
  clear hb2 hg2 hR2 hrB hrK hsame h2 hs1 hs2 H1
  go_quiet ((go_at_call 13; exact HS.out _))
  clear q1 q2 q3 q4 q5 q6 q7
  go_wp2
  go_ret3
  exact ⟨a + 32, (B.drop (a + 32), 0), by simp, HR2.out.of_heap rfl, fun _ => ⟨by rw [HL.out]; omega, rfl⟩, only_trans hg3 (only_of_below (belowDrewN (Below.refl _ _) _) _)⟩
theorem nexts_c (kind : Int) (hn : n ≤ 1099511627776) : Calls Try.prog 25 #[.pointer (some ⟨g, 0, none⟩), .int .i64 kind, .int .i64 most, .slice A n c, .int .i64 (a : Int)] w (NextPost w g D B) := by
  by_cases k0 : kind = 0
  · subst k0; exact next0 g D most A n c a B w hr ha ho h
  by_cases k1 : kind = 1
  · subst k1; exact next1 g D most A n c a B w hr ha ho h
  by_cases k2 : kind = 2
  · subst k2; exact next2 g D most A n c a B w hr ha ho h
  by_cases k3 : kind = 3
  · subst k3; exact next3 g D most A n c a B w hr ha ho h hn
  by_cases k4 : kind = 4
  · subst k4
    by_cases hlt : n - a < 32
    · exact next4_short g D most A n c a B w hr ha h hlt
    · exact next4_full g D most A n c a B w hr ho h (by omega)
  exact next5 g D most A n c a B w hr ha ho h kind k0 k1 k2 k3 k4
end
end Go.Proofs.Ytgoaelfifdalcaa
