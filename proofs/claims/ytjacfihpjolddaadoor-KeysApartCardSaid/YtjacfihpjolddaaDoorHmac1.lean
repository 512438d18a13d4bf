/- What the functions Own and Same of package hmac return, for every argument, as a walk through the translated text. Conditions: the bytes read as lists; for Own, the table of the rounds' constants lies as the program lays it. -/
import Derived.Test.YtjacfihpjolddaaDoorSha5
import Derived.Test.YtjacfihpjolddaaDoorOpen
namespace Go.Proofs.YtjacfihpjolddaaDoor
open Go.ChangeShapes Go.WideShapes Go.RowKit

/-! ### Keys and tags as lists -/
/-- What a key counts as: itself, or its digest. -/
def keyN (l : List Nat) : List Nat := if 64 < l.length then digestN l else l
/-- A key as 64 bytes. -/
def ownN (l : List Nat) : List Nat := keyN l ++ List.replicate (64 - (keyN l).length) 0
def maskN (m : Nat) (l : List Nat) : List Nat := l.map fun x => x ^^^ m
def hmacN (key msg : List Nat) : List Nat := digestN (maskN 92 (ownN key) ++ digestN (maskN 54 (ownN key) ++ msg))
theorem digestN_lt256 (l : List Nat) : ∀ x ∈ digestN l, x < 256 := flat4_lt _
theorem length_keyN (l : List Nat) : (keyN l).length ≤ 64 := by
  unfold keyN; split
  · rw [length_digestN]; decide
  · omega
theorem keyN_big {l : List Nat} (h : 64 < l.length) : keyN l = digestN l := if_pos h
theorem keyN_small {l : List Nat} (h : l.length ≤ 64) : keyN l = l := if_neg (by omega)
theorem length_ownN (l : List Nat) : (ownN l).length = 64 := by
  have := length_keyN l
  simp [ownN]; omega
theorem keyN_lt {l : List Nat} (h : ∀ x ∈ l, x < 256) : ∀ x ∈ keyN l, x < 256 := by
  unfold keyN; split
  · exact digestN_lt256 l
  · exact h
theorem ownN_lt {l : List Nat} (h : ∀ x ∈ l, x < 256) : ∀ x ∈ ownN l, x < 256 := by
  intro x hx
  rcases List.mem_append.1 hx with h' | h'
  · exact keyN_lt h x h'
  · rw [(List.mem_replicate.1 h').2]; decide
theorem length_maskN (m : Nat) (l : List Nat) : (maskN m l).length = l.length := by simp [maskN]
theorem xor_lt256 {a b : Nat} (ha : a < 256) (hb : b < 256) : a ^^^ b < 256 := Nat.xor_lt_two_pow (n := 8) ha hb
theorem maskN_lt {m : Nat} {l : List Nat} (hm : m < 256) (h : ∀ x ∈ l, x < 256) : ∀ x ∈ maskN m l, x < 256 := by
  intro x hx
  obtain ⟨y, hy, rfl⟩ := List.mem_map.1 hx
  exact xor_lt256 (h y hy) hm
theorem length_hmacN (k m : List Nat) : (hmacN k m).length = 32 := length_digestN _
theorem hmacN_lt (k m : List Nat) : ∀ x ∈ hmacN k m, x < 256 := digestN_lt256 _
def zeroB64 : List Value := ints .u8 (List.replicate 64 0)
theorem length_zeroB64 : zeroB64.length = 64 := by simp [zeroB64, length_ints]
theorem own_splice (l : List Nat) : splice zeroB64 0 (ints .u8 (keyN l)) = ints .u8 (ownN l) := by
  have := length_keyN l
  rw [splice, List.take_zero, List.nil_append, length_ints, Nat.zero_add, ownN, ints_append, zeroB64, ints_replicate, ints_replicate, List.drop_replicate]
/-! ### Same -/
theorem xor_zero {x y : Nat} : x ^^^ y = 0 ↔ x = y := by
  constructor
  · intro h
    have h2 : x ^^^ (x ^^^ y) = x ^^^ 0 := by rw [h]
    rw [← Nat.xor_assoc, Nat.xor_self, Nat.zero_xor, Nat.xor_zero] at h2
    exact h2.symm
  · rintro rfl
    exact Nat.xor_self x
theorem or_xor_zero {d x y : Nat} : (d ||| (x ^^^ y) = 0) ↔ (d = 0 ∧ x = y) := by
  rw [Nat.or_eq_zero_iff, xor_zero]
theorem or_lt256 {a b : Nat} (ha : a < 256) (hb : b < 256) : a ||| b < 256 := Nat.or_lt_two_pow (n := 8) ha hb
theorem same_step {a b : List Nat} {j : Nat} (ha : j < a.length) (hb : j < b.length) : a.take (j + 1) = b.take (j + 1) ↔ a.take j = b.take j ∧ a[j] = b[j] := by
  rw [List.take_succ_eq_append_getElem ha, List.take_succ_eq_append_getElem hb]
  constructor
  · intro h
    obtain ⟨h1, h2⟩ := List.append_inj' h rfl
    exact ⟨h1, by simpa using h2⟩
  · rintro ⟨h1, h2⟩
    rw [h1, h2]
set_option maxHeartbeats 800000 in
theorem hsame_c (A B : Option Addr) (n c m d : Nat) (a b : List Nat) (w : World) (ha : Reads .u8 w A n c a) (hb : Reads .u8 w B m d b) :
    Calls Tryd.prog 16 #[.slice A n c, .slice B m d] w fun e w' => e = .returned (.bool (decide (a = b))) ∧ ∃ k, w' = w.drewN k := by
  have hn : n ≤ 9223372036854775807 := by have := ha.room; have := ha.cap; unfold maxLen at this; omega
  have hla := ha.len
  have hlb := hb.len
  by_cases hnm : n = m
  · subst hnm
    have Hla := Lib.hid hla
    have Hlb := Lib.hid hlb
    clear hla hlb
    go_enter Tryd.func16, Tryd.ntmps16
    go_wp2
    go_loopw [5, 14] (fun t i wr => ∃ j q : Nat, j ≤ n ∧ q < 256 ∧ t = .int .u8 (q : Int) ∧ i = .int .i64 j ∧ Hid (q = 0 ↔ a.take j = b.take j) ∧ ∃ k, wr = w.drewN k) (fun _ i _ => n - (intOf i).toNat)
    case atStart => exact ⟨0, 0, Nat.zero_le _, by decide, rfl, rfl, by show _ ↔ _; simp, 0, rfl⟩
    case round =>
      obtain ⟨j, q, hj, hq, rfl, rfl, hT, k, rfl⟩ := hrel
      by_cases hlt : j < n
      · have hja : j < a.length := by rw [Hla.out]; exact hlt
        have hjb : j < b.length := by rw [Hlb.out]; exact hlt
        obtain ⟨ad, rfl, _, hca⟩ := ha.cell j hja
        obtain ⟨bd, rfl, _, hcb⟩ := hb.cell j hjb
        have hlt2 : (j : Int) < (n : Int) := by omega
        have hj0 : (0 : Int) ≤ (j : Int) := by omega
        have hxl : a[j] < 256 := wf_u8.1 (ha.wf _ (List.getElem_mem _))
        have hyl : b[j] < 256 := wf_u8.1 (hb.wf _ (List.getElem_mem _))
        have hst := same_step hja hjb
        generalize a[j] = x at *
        generalize b[j] = y at *
        have HST := Lib.hid hst
        clear hst
        have hxy := u8_xor_nat x y hxl hyl
        have hor := u8_or_nat q (x ^^^ y) hq (xor_lt256 hxl hyl)
        go_wp2_with fail
        go_quiet (fail)
        go_wp2
        go_roundw
        case rel =>
          refine ⟨j + 1, q ||| (x ^^^ y), by omega, or_lt256 hq (xor_lt256 hxl hyl), ?_, by go_num, ?_, _, rfl⟩
          · rw [← hor, ← hxy]
          · show _ ↔ _
            rw [or_xor_zero, HST.out, hT.out]
        case measure => simp [intOf]; omega
      · go_wp2
        go_ret
        refine ⟨ret_bool ?_, _, rfl⟩
        have h1 : a.take j = a := List.take_of_length_le (by rw [Hla.out]; omega)
        have h2 : b.take j = b := List.take_of_length_le (by rw [Hlb.out]; omega)
        have h3 := hT.out
        rw [h1, h2] at h3
        rw [Bool.eq_iff_iff, decide_eq_true_iff, ← h3]
        simp
  · have hne : ((n : Int) != (m : Int)) = true := by rw [bne_iff_ne]; omega
    have Hnm : Hid (a ≠ b) := by intro e; subst e; omega
    clear hla hlb hnm
    go_enter Tryd.func16, Tryd.ntmps16
    go_wp2
    go_ret
    refine ⟨ret_bool ?_, 0, rfl⟩
    symm
    rw [decide_eq_false_iff_not]
    exact Hnm.out

/-! ### Own -/
set_option maxRecDepth 100000 in
set_option maxHeartbeats 1600000 in
theorem own_small (A : Option Addr) (n c : Nat) (l : List Nat) (w : World) (hr : Reads .u8 w A n c l) (hn : n ≤ 64) :
    Calls Tryd.prog 20 #[.slice A n c] w fun en w' => en = .returned (.agg (ints .u8 (ownN l)).toArray) ∧ Below w.heap.size w w' := by
  have hll := hr.len
  have hs := own_splice l
  rw [keyN_small (by omega)] at hs
  have HLL := Lib.hid hll
  have HS := Lib.hid hs
  clear hll hs
  have hd : decide ((64 : Int) < (n : Int)) = false := by simp; omega
  go_enter Tryd.func20, Tryd.ntmps20
  go_upto_region 5 with (fail)
  refine name_wp (fun w1 => Blk w1 w.heap.size 43 zeroB64 ∧ Blk w1 (w.heap.size + 1) 43 zeroB64 ∧ Below w.heap.size w w1) ⟨(Blk.new _ _ zeroB64).alloc _, ?_, ((Below.refl _ _).alloc (Nat.le_refl _) _).alloc (by simp) _⟩ ?_
  · have := Blk.new (w.alloc (.cells zeroB64.toArray 43)) 43 zeroB64
    rw [World.size_alloc] at this
    exact this
  rintro w1 ⟨hb2, hb3, hbel1⟩
  have HR1 := Lib.hid (hr.keep hbel1)
  have HB2 := Lib.hid hb2
  have HB3 := Lib.hid hb3
  clear hb2 hb3 hr
  go_upto_region 6 with ((with_reducible refine at_copy ?_); refine wpList_copy_g rfl (.tmp 11) (.tmp 12) 32 32 rfl 5 Tryd.underlying32 infoU8s (some ⟨w.heap.size + 1, 0, none⟩) A 64 64 n c rfl rfl (w.heap.size + 1) 0 _ _ HB3.out (ints .u8 l) (by rw [length_ints, HLL.out]; simp only [Nat.min_def]; split <;> omega) (fun h => ⟨rfl, HR1.out.src (by rw [length_ints] at h; exact h)⟩) (by rw [length_ints, HLL.out, length_zeroB64]; omega) (ints_oneCell _ _) ?_; intro w5 hb5 hg5)
  rw [HS.out] at hb5
  have hbel5 := below_of_only hbel1 hg5 hbel1.size (by omega)
  have HB5 := Lib.hid hb5
  have HB2' := Lib.hid (HB2.out.grown hg5 (by simp))
  clear hb5 hg5 HB2 HB3 hbel1 HR1
  have hlo := length_ownN l
  refine wp_region_lit ?_
  refine wpList_load_at rfl 43 (.tmp 3) rfl ⟨w.heap.size + 1, 0, none⟩ rfl _ _ HB5.out.all Tryd.underlying43 rfl (by rw [length_ints, hlo]; kernel_rfl) ?_
  refine wpList_store_at rfl rfl 43 (.tmp 2) (.tmp 14) rfl w.heap.size 0 rfl _ rfl _ _ HB2'.out (by rw [length_ints, hlo, length_zeroB64]; decide) (ints_oneCell _ _) (by rw [length_ints, hlo]; kernel_rfl) ?_
  intro w9 hb9 hg9
  have hbel9 := below_of_only hbel5 hg9 hbel5.size (Nat.le_refl _)
  rw [splice_all _ _ (by rw [length_ints, hlo, length_zeroB64])] at hb9
  refine wpList_nil ?_
  go_wp2
  refine bodyPost_ret (v := .agg (ints .u8 (ownN l)).toArray) ?_ rfl ⟨rfl, hbel9⟩
  exact results_cell_row rfl _ _ w.heap.size _ _ _ _ rfl hb9 Tryd.underlying43 rfl (by rw [List.size_toArray, length_ints, hlo]; kernel_rfl)
set_option maxRecDepth 100000 in
set_option maxHeartbeats 1600000 in
theorem own_big (A : Option Addr) (n c : Nat) (l : List Nat) (w : World) (hr : Reads .u8 w A n c l) (hk : KT w) (hn : 64 < n) (hb : n ≤ 549755813888) :
    Calls Tryd.prog 20 #[.slice A n c] w fun en w' => en = .returned (.agg (ints .u8 (ownN l)).toArray) ∧ Below w.heap.size w w' := by
  have hll := hr.len
  have hs := own_splice l
  rw [keyN_big (by omega)] at hs
  have HS := Lib.hid hs
  clear hll hs
  have hd : decide ((64 : Int) < (n : Int)) = true := by simp; omega
  go_enter Tryd.func20, Tryd.ntmps20
  go_wp2_with fail
  refine name_Calls (fun w1 => Blk w1 w.heap.size 43 zeroB64 ∧ Blk w1 (w.heap.size + 1) 43 zeroB64 ∧ Below w.heap.size w w1 ∧ w1.heap.size = w.heap.size + 2) ⟨(Blk.new _ _ zeroB64).alloc _, ?_, ((Below.refl _ _).alloc (Nat.le_refl _) _).alloc (by simp) _, by simp⟩ ?_
  · have := Blk.new (w.alloc (.cells zeroB64.toArray 43)) 43 zeroB64
    rw [World.size_alloc] at this
    exact this
  rintro w1 ⟨hb2, hb3, hbel1, hs1⟩
  refine (sum_c A n c l _ (hr.keep hbel1) (hk.below hbel1) hb).mono ?_
  rintro en w2 ⟨rfl, hbel2⟩
  have HB2 := Lib.hid (hb2.below hbel2 hb2.lt)
  have HB3 := Lib.hid (hb3.below hbel2 hb3.lt)
  have hs2 : w.heap.size + 2 ≤ w2.heap.size := by have := hbel2.size; omega
  have hbw2 := hbel1.trans (hbel2.mono hbel1.size)
  have hld := length_digestN l
  have hlt := digestN_lt256 l
  generalize digestN l = dg at *
  have HLD := Lib.hid hld
  have HLT := Lib.hid hlt
  clear hb2 hb3 hbel1 hbel2 hs1 hr hk hld hlt
  go_upto_region 4 with ((with_reducible refine at_store 23 ?_); refine wpList_store_at rfl rfl 23 (.tmp 4) (.tmp 9) rfl w2.heap.size 0 rfl (ints .u8 dg) rfl zero32 _ (Blk.new _ _ zero32) (by rw [length_ints, HLD.out, length_zero32]; decide) (ints_oneCell _ _) (by rw [length_ints, HLD.out]; kernel_rfl) ?_; intro w3 hb4 hg4)
  rw [splice_all _ _ (by rw [length_ints, HLD.out, length_zero32])] at hb4
  have hbw3 := below_of_only (hbw2.alloc hbw2.size _) hg4 (by simp; omega) (by omega)
  have HB2' := Lib.hid ((HB2.out.alloc _).grown hg4 (by simp; omega))
  have HB3' := Lib.hid ((HB3.out.alloc _).grown hg4 (by simp; omega))
  have HR4 := Lib.hid (reads_blk hb4 HLD.out (by decide) HLT.out)
  generalize w2.heap.size = g4 at *
  clear hb4 hg4 HB2 HB3 hbw2
  go_upto_region 6 with ((with_reducible refine at_copy ?_); refine wpList_copy_g rfl (.tmp 11) (.tmp 12) 32 32 rfl 5 Tryd.underlying32 infoU8s (some ⟨w.heap.size + 1, 0, none⟩) (some ⟨g4, 0, none⟩) 64 64 32 32 rfl rfl (w.heap.size + 1) 0 _ _ HB3'.out (ints .u8 dg) (by rw [length_ints, HLD.out]; decide) (fun h => ⟨rfl, HR4.out.src (by rw [length_ints] at h; exact h)⟩) (by rw [length_ints, HLD.out, length_zeroB64]; decide) (ints_oneCell _ _) ?_; intro w5 hb5 hg5)
  rw [HS.out] at hb5
  have hbel5 := below_of_only hbw3 hg5 hbw3.size (by omega)
  have HB5 := Lib.hid hb5
  have HB2 := Lib.hid (HB2'.out.grown hg5 (by simp))
  clear hb5 hg5 HB2' HB3' hbw3 HR4
  have hlo := length_ownN l
  refine wp_region_lit ?_
  refine wpList_load_at rfl 43 (.tmp 3) rfl ⟨w.heap.size + 1, 0, none⟩ rfl _ _ HB5.out.all Tryd.underlying43 rfl (by rw [length_ints, hlo]; kernel_rfl) ?_
  refine wpList_store_at rfl rfl 43 (.tmp 2) (.tmp 14) rfl w.heap.size 0 rfl _ rfl _ _ HB2.out (by rw [length_ints, hlo, length_zeroB64]; decide) (ints_oneCell _ _) (by rw [length_ints, hlo]; kernel_rfl) ?_
  intro w9 hb9 hg9
  have hbel9 := below_of_only hbel5 hg9 hbel5.size (Nat.le_refl _)
  rw [splice_all _ _ (by rw [length_ints, hlo, length_zeroB64])] at hb9
  refine wpList_nil ?_
  go_wp2
  refine bodyPost_ret (v := .agg (ints .u8 (ownN l)).toArray) ?_ rfl ⟨rfl, hbel9⟩
  exact results_cell_row rfl _ _ w.heap.size _ _ _ _ rfl hb9 Tryd.underlying43 rfl (by rw [List.size_toArray, length_ints, hlo]; kernel_rfl)
theorem own_c (A : Option Addr) (n c : Nat) (l : List Nat) (w : World) (hr : Reads .u8 w A n c l) (hk : KT w) (hb : n ≤ 549755813888) :
    Calls Tryd.prog 20 #[.slice A n c] w fun en w' => en = .returned (.agg (ints .u8 (ownN l)).toArray) ∧ Below w.heap.size w w' := by
  by_cases hn : 64 < n
  · exact own_big A n c l w hr hk hn hb
  · exact own_small A n c l w hr (by omega)
end Go.Proofs.YtjacfihpjolddaaDoor
