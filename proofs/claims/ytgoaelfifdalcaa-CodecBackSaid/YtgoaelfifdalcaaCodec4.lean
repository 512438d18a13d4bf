/- What the methods Number, Signed, Text, Key and Bool of a Reader of package codec do, for every Reader, as a walk through the translated text. Conditions: the Reader lies in a block of its own. -/
import Derived.Test.YtgoaelfifdalcaaCodec3
namespace Go.Proofs.Ytgoaelfifdalcaa
open Go.ChangeShapes Go.WideShapes Go.RowKit
theorem RAt.errCell {w : World} {g : Nat} {D : Option Nat} {s : List Nat × Int} (h : RAt w g D s) : w.cell? ⟨g, 1, none⟩ = some (.int .i64 s.2) := by
  obtain ⟨A, n, c, hblk, _, _⟩ := h.ex
  exact hblk.cell 1
/-- The next number, and what is left behind it. -/
def numberR (s : List Nat × Int) : Nat × (List Nat × Int) := if s.2 = 0 then ((readL s.1).2.1, ((readL s.1).2.2, ((readL s.1).1 : Int))) else (0, s)
set_option maxHeartbeats 800000 in
theorem rnumber_err (g : Nat) (D : Option Nat) (s : List Nat × Int) (w : World) (h : RAt w g D s) (he : s.2 ≠ 0) :
    Calls Try.prog 20 #[.pointer (some ⟨g, 0, none⟩)] w (RPost w g D s (.int .i64 0)) := by
  obtain ⟨b, e⟩ := s
  obtain rfl : b = [] := h.err he
  have HC := Lib.hid (rbyte_c g D _ w h)
  have HE : Hid (byteR ([], e) = (0, ([], e))) := by show _ = _; rw [byteR, failR_err _ _ he]
  rw [HE.out] at HC
  have he' : (e != 0) = true := by simpa using he
  clear h he HE
  go_enter Try.func20, Try.ntmps20
  go_wp2_with fail
  go_loopw [3, 6] (fun n i wr => n = .int .i64 0 ∧ i = .int .i64 0 ∧ wr = w) (fun _ _ _ => 0)
  case atStart => exact ⟨rfl, rfl, rfl⟩
  case round =>
    obtain ⟨rfl, rfl, rfl⟩ := hrel
    go_wp2_with fail
    refine HC.out.mono ?_
    rintro en w1 ⟨rfl, h1, h2⟩
    have c1 := h1.errCell
    go_wp2
    go_ret
    exact ⟨rfl, h1, h2⟩
theorem pow_le8 (i : Nat) (h : i ≤ 8) : 128 ^ i ≤ 72057594037927936 := Nat.pow_le_pow_right (by decide) h
theorem pow7 (i : Nat) : 2 ^ (7 * i) = 128 ^ i := by rw [Nat.pow_mul]
set_option maxHeartbeats 3200000 in
theorem rnumber_ok (g : Nat) (D : Option Nat) (b : List Nat) (w : World) (E N : Nat) (r : List Nat) (h : RAt w g D (b, 0)) (hR : Hid (readL b = (E, N, r))) :
    Calls Try.prog 20 #[.pointer (some ⟨g, 0, none⟩)] w (RPost w g D (r, (E : Int)) (.int .i64 (N : Int))) := by
  have H := Lib.hid h
  clear h
  go_enter Try.func20, Try.ntmps20
  go_wp2_with fail
  go_loopw [3, 6] (fun n x wr => ∃ (i acc : Nat) (b : List Nat), i ≤ 8 ∧ acc < 128 ^ i ∧ n = .int .i64 (acc : Int) ∧ x = .int .i64 (i : Int) ∧ Hid (RAt wr g D (b, 0)) ∧ w.grownBy wr (some g) ∧ Hid (numR (8 - i) i acc b = (E, N, r))) (fun _ x _ => 8 - (intOf x).toNat)
  case atStart => exact ⟨0, 0, b, by decide, by decide, rfl, rfl, H, World.grownBy.refl _ _, hR⟩
  case round =>
    clear H hR
    obtain ⟨i, acc, b, hi8, hacc, rfl, rfl, H, hgr, hR⟩ := hrel
    by_cases hi : i < 8
    · have hi2 : decide ((i : Int) < 8) = true := by simp; omega
      obtain ⟨k, hk⟩ : ∃ k, Hid (8 - i = k + 1) := ⟨7 - i, by show _ = _; omega⟩
      have HC := Lib.hid (rbyte_c g D _ wr H.out)
      rw [hk.out] at hR
      cases b with
      | nil =>
        have HE : Hid (byteR ([], 0) = (0, ([], 4))) := rfl
        rw [HE.out] at HC
        have HR : Hid ((4, 0, ([] : List Nat)) = (E, N, r)) := by show _ = _; rw [← hR.out]; rfl
        clear HE hR
        go_wp2_with fail
        refine HC.out.mono ?_
        rintro en w1 ⟨rfl, h1, h2⟩
        have c1 := h1.errCell
        go_wp2
        go_ret
        obtain ⟨rfl, rfl, rfl⟩ : E = 4 ∧ N = 0 ∧ r = [] := by have := HR.out; simp only [Prod.mk.injEq] at this; exact ⟨this.1.symm, this.2.1.symm, this.2.2.symm⟩
        exact ⟨rfl, h1, only_trans hgr h2⟩
      | cons x b =>
        have HE : Hid (byteR (x :: b, 0) = (x, (b, 0))) := rfl
        rw [HE.out] at HC
        have hx8 : x < 256 := H.out.byte x (by simp)
        clear HE
        by_cases hz : x = 0 ∧ 0 < i
        · obtain ⟨rfl, hi0⟩ := hz
          have HR : Hid ((6, 0, ([] : List Nat)) = (E, N, r)) := by show _ = _; rw [← hR.out]; exact (numR_form k i acc b hi0).symm
          have hi1 : decide ((0 : Int) < (i : Int)) = true := by simp; omega
          clear hR
          go_wp2_with fail
          refine HC.out.mono ?_
          rintro en w1 ⟨rfl, h1, h2⟩
          have c1 := h1.errCell
          have H1 := Lib.hid h1
          clear h1
          go_wp2_with fail
          refine (rfail_c g D _ 6 w1 H1.out (by decide)).mono ?_
          rw [failR_ok _ _ rfl (by decide)]
          rintro en w2 ⟨⟨v, rfl⟩, h3, h4⟩
          go_wp2
          go_ret
          obtain ⟨rfl, rfl, rfl⟩ : E = 6 ∧ N = 0 ∧ r = [] := by have := HR.out; simp only [Prod.mk.injEq] at this; exact ⟨this.1.symm, this.2.1.symm, this.2.2.symm⟩
          exact ⟨rfl, h3, only_trans hgr (only_trans h2 h4)⟩
        · by_cases hx0 : x = 0
          · subst hx0
            obtain rfl : i = 0 := by omega
            have HR : Hid ((0, acc, b) = (E, N, r)) := by show _ = _; rw [← hR.out, numR_last k 0 acc 0 b hz (by decide)]; rfl
            clear hR
            go_wp2_with fail
            refine HC.out.mono ?_
            rintro en w1 ⟨rfl, h1, h2⟩
            have c1 := h1.errCell
            have H1 := Lib.hid h1
            clear h1
            go_wp2
            go_ret
            obtain ⟨rfl, rfl, rfl⟩ : E = 0 ∧ N = acc ∧ r = b := by have := HR.out; simp only [Prod.mk.injEq] at this; exact ⟨this.1.symm, this.2.1.symm, this.2.2.symm⟩
            exact ⟨rfl, H1.out, only_trans hgr h2⟩
          · obtain ⟨p, hp⟩ : ∃ p, Hid (p = x % 128 * 128 ^ i) := ⟨_, rfl⟩
            have hpl : p ≤ 127 * 128 ^ i := by rw [hp.out]; exact Nat.mul_le_mul_right _ (by omega)
            have hu7 : 128 ^ i ≤ 562949953421312 := Nat.pow_le_pow_right (n := 128) (i := i) (j := 7) (by decide) (by omega)
            have hpe : ((x : Int) % 128) * 2 ^ (7 * i) = (p : Int) := by rw [hp.out, ← pow7]; simp
            have HPE := Lib.hid hpe
            clear hpe
            have hxz : ((x : Int) == 0) = false := by simp; omega
            go_wp2_with fail
            refine HC.out.mono ?_
            rintro en w1 ⟨rfl, h1, h2⟩
            have c1 := h1.errCell
            have H1 := Lib.hid h1
            clear h1
            go_upto_region 12 with (fail)
            rw [HPE.out, IntWalk.wrap64_in (p : Int) (by omega), IntWalk.wrap64_in ((acc : Int) + (p : Int)) (by omega), show (acc : Int) + (p : Int) = ((acc + p : Nat) : Int) by omega]
            obtain ⟨q, hq⟩ : ∃ q, Hid (acc + p = q) := ⟨_, rfl⟩
            have hql : q < 128 ^ (i + 1) := by rw [← hq.out, Nat.pow_succ]; omega
            rw [hq.out]
            by_cases h128 : x < 128
            · have HR : Hid ((0, q, b) = (E, N, r)) := by show _ = _; rw [← hR.out, numR_last k i acc x b hz h128, ← hq.out, hp.out, Nat.mod_eq_of_lt h128]
              have h128' : decide ((x : Int) < 128) = true := by simp; omega
              clear hR hpl hql
              go_wp2
              go_ret
              obtain ⟨rfl, rfl, rfl⟩ : E = 0 ∧ N = q ∧ r = b := by have := HR.out; simp only [Prod.mk.injEq] at this; exact ⟨this.1.symm, this.2.1.symm, this.2.2.symm⟩
              exact ⟨rfl, H1.out, only_trans hgr h2⟩
            · have HR : Hid (numR (8 - (i + 1)) (i + 1) q b = (E, N, r)) := by
                show _ = _
                rw [← hR.out, numR_more k i acc x b h128, ← hq.out, hp.out]
                congr 1
                have := hk.out
                omega
              have h128' : decide ((x : Int) < 128) = false := by simp; omega
              clear hR hpl
              have hgr2 := only_trans hgr h2
              go_wp2
              go_roundw
              case rel => exact ⟨i + 1, q, b, by omega, hql, rfl, by go_num, H1, hgr2, HR⟩
              case measure => simp [intOf]; omega
    · obtain rfl : i = 8 := by omega
      have HR : Hid ((5, 0, ([] : List Nat)) = (E, N, r)) := by show _ = _; rw [← hR.out]; rfl
      clear hR hi hi8
      go_wp2_with fail
      refine (rfail_c g D _ 5 wr H.out (by decide)).mono ?_
      rw [failR_ok _ _ rfl (by decide)]
      rintro en w2 ⟨⟨v, rfl⟩, h3, h4⟩
      go_wp2
      go_ret
      obtain ⟨rfl, rfl, rfl⟩ : E = 5 ∧ N = 0 ∧ r = [] := by have := HR.out; simp only [Prod.mk.injEq] at this; exact ⟨this.1.symm, this.2.1.symm, this.2.2.symm⟩
      exact ⟨rfl, h3, only_trans hgr h4⟩
theorem rnumber_c (g : Nat) (D : Option Nat) (s : List Nat × Int) (w : World) (h : RAt w g D s) :
    Calls Try.prog 20 #[.pointer (some ⟨g, 0, none⟩)] w (RPost w g D (numberR s).2 (.int .i64 ((numberR s).1 : Int))) := by
  obtain ⟨b, e⟩ := s
  by_cases he : e = 0
  · subst he
    rw [numberR, if_pos rfl]
    exact rnumber_ok g D b w _ _ _ h rfl
  · rw [numberR, if_neg he]
    exact rnumber_err g D _ w h he
theorem numberR_lt (s : List Nat × Int) (hb : ∀ x ∈ s.1, x < 256) : (numberR s).1 < 72057594037927936 := by
  unfold numberR; split
  · exact readL_lt _ hb
  · exact (by decide : 0 < 72057594037927936)
/-! ### Signed -/
def signedR (s : List Nat × Int) : Int × (List Nat × Int) := (sgnR (numberR s).1, (numberR s).2)
set_option maxHeartbeats 800000 in
theorem rsigned_c (g : Nat) (D : Option Nat) (s : List Nat × Int) (w : World) (h : RAt w g D s) :
    Calls Try.prog 21 #[.pointer (some ⟨g, 0, none⟩)] w (RPost w g D (signedR s).2 (.int .i64 (signedR s).1)) := by
  have HC := Lib.hid (rnumber_c g D s w h)
  have hlt := numberR_lt s h.byte
  unfold signedR
  generalize numberR s = q at *
  obtain ⟨m, s'⟩ := q
  simp only at *
  clear h
  by_cases h2 : m % 2 = 0
  · have hz : ((m : Int) % 2 == 0) = true := by simp; omega
    have HS : Hid (sgnR m = (m : Int) / 2) := by show _ = _; rw [sgnR, if_pos h2]; omega
    rw [HS.out]
    clear h2 HS
    go_enter Try.func21, Try.ntmps21
    go_wp2_with fail
    refine HC.out.mono ?_
    rintro en w1 ⟨rfl, h1, h2⟩
    go_wp2
    go_ret
    exact ⟨rfl, h1, h2⟩
  · have hz : ((m : Int) % 2 == 0) = false := by simp; omega
    have HS : Hid (sgnR m = (-1 - (m : Int)).tdiv 2) := by
      show _ = _
      rw [sgnR, if_neg h2]
      have : (-1 - (m : Int)).tdiv 2 = -((1 + (m : Int)).tdiv 2) := by rw [← Int.neg_tdiv]; congr 1; omega
      rw [this, Int.tdiv_eq_ediv_of_nonneg (by omega)]
      omega
    obtain ⟨z, hz2⟩ : ∃ z, Hid (sgnR m = z) := ⟨_, rfl⟩
    rw [hz2.out] at HS ⊢
    clear h2
    go_enter Try.func21, Try.ntmps21
    go_wp2_with fail
    refine HC.out.mono ?_
    rintro en w1 ⟨rfl, h1, h2⟩
    go_wp2
    go_ret
    exact ⟨ret_int HS.out.symm, h1, h2⟩
/-! ### Text -/
def textR (most : Int) (s : List Nat × Int) : List Nat × (List Nat × Int) := if most < ((numberR s).1 : Int) then ([], failR (numberR s).2 22) else nextR (numberR s).1 (numberR s).2
/-- It returns bytes in new memory. -/
def TextPost (w : World) (g : Nat) (D : Option Nat) (r : List Nat × (List Nat × Int)) (en : Ending) (w' : World) : Prop := ∃ V m d, en = .returned (.slice V m d) ∧ Reads .u8 w' V m d r.1 ∧ (∀ ad, V = some ad → w.heap.size ≤ ad.block) ∧ RAt w' g D r.2 ∧ w.grownBy w' (some g)
set_option maxHeartbeats 800000 in
theorem rtext_c (g : Nat) (D : Option Nat) (most : Int) (s : List Nat × Int) (w : World) (h : RAt w g D s) (hs : s.1.length ≤ 1099511627776) :
    Calls Try.prog 22 #[.pointer (some ⟨g, 0, none⟩), .int .i64 most] w (TextPost w g D (textR most s)) := by
  obtain ⟨i0, hi, hz0, hz1, hz2⟩ := info_parts infoU8
  have HC := Lib.hid (rnumber_c g D s w h)
  have hlt := numberR_lt s h.byte
  have hsl : (numberR s).2.1.length ≤ 1099511627776 := by
    unfold numberR
    by_cases he : s.2 = 0
    · rw [if_pos he]
      by_cases h0 : (readL s.1).1 = 0
      · obtain ⟨j, _, _, hj⟩ := numR_rest 8 0 0 s.1 h0
        show (numR 8 0 0 s.1).2.2.length ≤ _
        rw [hj, List.length_drop]
        omega
      · have := numR_err 8 0 0 s.1 h0
        show (numR 8 0 0 s.1).2.2.length ≤ _
        rw [this]
        simp
    · rw [if_neg he]; exact hs
  unfold textR
  generalize numberR s = q at *
  obtain ⟨m, s'⟩ := q
  simp only at *
  clear h hs
  by_cases hm : most < (m : Int)
  · rw [if_pos hm]
    go_enter Try.func22, Try.ntmps22
    go_wp2_with fail
    refine HC.out.mono ?_
    rintro en w1 ⟨rfl, h1, h2⟩
    have H1 := Lib.hid h1
    clear h1
    go_wp2_with fail
    refine (rfail_c g D s' 22 w1 H1.out (by decide)).mono ?_
    rintro en w2 ⟨⟨v, rfl⟩, h3, h4⟩
    go_wp2
    go_ret
    exact ⟨none, 0, 0, rfl, Reads.nil.2 (by simp [maxLen]), (fun ad e => by cases e), h3, only_trans h2 h4⟩
  · rw [if_neg hm]
    have hnl : (nextR m s').1.length ≤ 1099511627776 := by
      unfold nextR; split
      · simp
      · simp; omega
    go_enter Try.func22, Try.ntmps22
    go_wp2_with fail
    refine HC.out.mono ?_
    rintro en w1 ⟨rfl, h1, h2⟩
    have H1 := Lib.hid h1
    clear h1
    go_wp2_with fail
    refine (next_c g D m s' w1 H1.out (by omega)).mono ?_
    rintro en w2 ⟨V, n, d, rfl, hr, ho, h3, h4⟩
    have hnn : n ≤ 1099511627776 := by have := hr.len; omega
    have HR := Lib.hid hr
    have H3 := Lib.hid h3
    clear hr h3
    go_wp2_with (at_builtin; refine wpList_appB rfl (.const (.slice none 0 0)) (.tmp 15) 23 rfl w.heap.size 5 i0 (.int .u8 0) 1 Try.underlying23 hi hz0 hz1 hz2 rfl (.slice none 0 0) 0 [] rfl (World.ownsRow_nil _ _ _ _) .u8 V n d _ rfl HR.out (by unfold maxLen; omega) (by omega) (Nat.le_trans h2.size h4.size) ?_; intro v1 w3 hown1 hgrow1 hat1; obtain ⟨A1, c1, rfl⟩ := own_form hown1)
    go_ret
    have hbel : Below w2.heap.size w2 w3 := ⟨hgrow1.os, hgrow1.tape, hgrow1.output, hgrow1.size, fun i hi => hgrow1.block i hi (by simp [Value.ownBlock])⟩
    obtain ⟨A2, c2, e2, hr2⟩ := Reads.of_own (k := .u8) (l := (nextR m s').1) (by simpa using hown1) (fun x hx => HR.out.wf x hx)
    have e3 : A1 = A2 ∧ c1 = c2 := by simpa using e2
    obtain ⟨rfl, rfl⟩ := e3
    exact ⟨A1, n, c1, by simp, hr2, fun ad e => own_base hown1 _ (by rw [e]; rfl), H3.out.below hbel, only_trans h2 (only_trans h4 (only_of_below hbel _))⟩
/-! ### Bool -/
def boolR (s : List Nat × Int) : Bool × (List Nat × Int) := ((byteR s).1 == 1, if 1 < (byteR s).1 then failR (byteR s).2 6 else (byteR s).2)
set_option maxHeartbeats 800000 in
theorem rbool_c (g : Nat) (D : Option Nat) (s : List Nat × Int) (w : World) (h : RAt w g D s) :
    Calls Try.prog 24 #[.pointer (some ⟨g, 0, none⟩)] w (RPost w g D (boolR s).2 (.bool (boolR s).1)) := by
  have HC := Lib.hid (rbyte_c g D s w h)
  unfold boolR
  generalize byteR s = q at *
  obtain ⟨m, s'⟩ := q
  simp only at *
  clear h
  by_cases hm : 1 < m
  · rw [if_pos hm]
    have h1 : (m == 1) = false := by simp; omega
    have h1' : ((m : Int) == 1) = false := by simp; omega
    have h2 : decide ((1 : Int) < (m : Int)) = true := by simp; omega
    rw [h1]
    clear h1
    go_enter Try.func24, Try.ntmps24
    go_wp2_with fail
    refine HC.out.mono ?_
    rintro en w1 ⟨rfl, h1, h2⟩
    have H1 := Lib.hid h1
    clear h1
    go_wp2_with fail
    refine (rfail_c g D s' 6 w1 H1.out (by decide)).mono ?_
    rintro en w2 ⟨⟨v, rfl⟩, h3, h4⟩
    go_wp2
    go_ret
    exact ⟨rfl, h3, only_trans h2 h4⟩
  · rw [if_neg hm]
    have h2 : decide ((1 : Int) < (m : Int)) = false := by simp; omega
    have H1 : Hid (((m : Int) == 1) = (m == 1)) := by show _ = _; rw [Bool.eq_iff_iff]; simp; omega
    go_enter Try.func24, Try.ntmps24
    go_wp2_with fail
    refine HC.out.mono ?_
    rintro en w1 ⟨rfl, h1, h2⟩
    go_wp2
    go_ret
    exact ⟨ret_bool H1.out, h1, h2⟩
/-! ### Key -/
def zeroK : List Nat := List.replicate 32 0
theorem length_zeroK : zeroK.length = 32 := rfl
def keyR (s : List Nat × Int) : List Nat × (List Nat × Int) := (if (nextR 32 s).1.length = 32 then (nextR 32 s).1 else zeroK, (nextR 32 s).2)
theorem nextR_len (n : Nat) (s : List Nat × Int) : (nextR n s).1.length = n ∨ (nextR n s).1 = [] := by
  unfold nextR; split
  · exact .inr rfl
  · left; simp; omega
theorem Reads.src' {w : World} {A : Option Addr} {n c : Nat} {l : List Nat} (h : Reads .u8 w A n c l) (h0 : 0 < (ints .u8 l).length) : ∃ ad, A = some ad ∧ ∀ j v, (ints .u8 l)[j]? = some v → w.cell? (ad.add j) = some v := h.src (by rw [length_ints] at h0; exact h0)
theorem infoU8_size : (Try.prog.info? 5).map (·.size) = some 1 := by kernel_rfl
set_option maxHeartbeats 1600000 in
theorem rkey_c (g : Nat) (D : Option Nat) (s : List Nat × Int) (w : World) (h : RAt w g D s) :
    Calls Try.prog 23 #[.pointer (some ⟨g, 0, none⟩)] w (RPost w g D (keyR s).2 (.agg (ints .u8 (keyR s).1).toArray)) := by
  have hlt := h.lt
  have H := Lib.hid h
  have HLOW := Lib.hid h.low
  clear h
  obtain ⟨K, hK⟩ : ∃ K, Hid ((keyR s).1 = K) := ⟨_, rfl⟩
  have HK2 : Hid ((keyR s).2 = (nextR 32 s).2) := rfl
  have hKl : Hid (K.length = 32) := by
    show _ = _
    rw [← hK.out, keyR]
    simp only
    split
    · assumption
    · rfl
  rw [hK.out, HK2.out]
  have HN := nextR_len 32 s
  have HKN : Hid (splice (ints .u8 zeroK) 0 (ints .u8 (nextR 32 s).1) = ints .u8 K) := by
    show _ = _
    rw [← hK.out, keyR]
    simp only
    rcases HN with e | e
    · rw [if_pos e, splice_all _ _ (by rw [length_ints, length_ints, e]; rfl)]
    · rw [e, if_neg (by decide)]; simp [splice, ints]
  have HNL : Hid ((nextR 32 s).1.length ≤ 32) := by show _ ≤ _; rcases HN with e | e <;> simp [e]
  have HN' := Lib.hid HN
  clear HN hK
  go_enter Try.func23, Try.ntmps23
  go_upto_region 2 with (fail)
  refine name_wp (fun w1 => Blk w1 w.heap.size 31 (ints .u8 zeroK) ∧ Blk w1 (w.heap.size + 1) 31 (ints .u8 zeroK) ∧ Below w.heap.size w w1) ⟨?_, ?_, ?_⟩ ?_
  · exact (Blk.new w _ (ints .u8 zeroK)).alloc _
  · have := Blk.new (w.alloc (.cells (ints .u8 zeroK).toArray 31)) 31 (ints .u8 zeroK)
    rw [World.size_alloc] at this
    exact this
  · exact ((Below.refl _ _).alloc (Nat.le_refl _) _).alloc (by simp) _
  rintro w1 ⟨hb1, hb2, hbel⟩
  have HB1 := Lib.hid hb1
  have HB2 := Lib.hid hb2
  clear hb1 hb2
  have hs1 : w.heap.size + 1 < w1.heap.size := HB2.out.lt
  have HA1 := Lib.hid (H.out.below hbel)
  have hbelw := Lib.hid hbel
  clear hbel
  refine wp_region_any (by kernel_rfl) ?_
  change wpAny _ _ _ _ _ _ _ (World.drew _)
  refine wpAny_take (i := 0) (oi := ⟨some 4, .slice 31 (.tmp 3) none none none, _, _, _, _⟩) (v := ?_) rfl (by kernel_rfl) (by kernel_rfl) (by kernel_rfl) (fun _ _ _ h => h) (Or.inl ⟨by rfl, ?_⟩) ?_
  rotate_left
  · intro W; go_simp; try with_reducible rfl
  simp only [Act.put, List.setIfInBounds_toArray, List.set_cons_zero, List.set_cons_succ]
  refine wpAny_take (i := 1) (oi := ⟨some 5, .move (.tmp 0), _, _, _, _⟩) (v := ?_) rfl (by kernel_rfl) (by kernel_rfl) (by kernel_rfl) (fun _ _ _ h => h) (Or.inl ⟨by rfl, ?_⟩) ?_
  rotate_left
  · intro W; go_simp; try with_reducible rfl
  simp only [Act.put, List.setIfInBounds_toArray, List.set_cons_zero, List.set_cons_succ]
  refine wpAny_ready (rs := [2]) (by kernel_rfl) (by simp) (AllReady.cons (o := ⟨some 6, .call { callee := .value (.func 35), args := #[.tmp 5, .const (.int .i64 32)], argTypes := #[39, 3] }, _, _, _, _⟩) rfl (fun K hK => ?_) AllReady.nil)
  go_simp
  refine (next_c g D 32 s _ (HA1.out.of_heap (w' := w1.drew) rfl) (by decide)).mono ?_
  rintro en w2 ⟨V, n, d, rfl, hr, ho, h3, h4⟩
  have h4' : w1.grownBy w2 (some g) := only_of_drew h4
  have hb2 := HB2.out.grown h4' (by simp; omega)
  have hb1 := HB1.out.grown h4' (by simp; omega)
  refine hK _ _ ?_
  clear hK K h4
  have hnl := hr.len
  refine wpAny_ready (rs := [3]) (by kernel_rfl) (by simp) (AllReady.cons (o := ⟨some 7, .call { callee := .builtin .copy, args := #[.tmp 4, .tmp 6], argTypes := #[23, 23] }, _, _, _, _⟩) rfl (fun K hK => ?_) AllReady.nil)
  refine step_copy_g rfl (.tmp 4) (.tmp 6) 23 23 rfl 5 Try.underlying23 infoU8_size (some ⟨w.heap.size + 1, 0, none⟩) V 32 32 n d rfl rfl (w.heap.size + 1) 0 _ _ hb2 (ints .u8 (nextR 32 s).1) (by rw [length_ints, hnl]; have := HNL.out; exact (Nat.min_eq_left (by omega)).symm) (fun h0 => ⟨rfl, hr.src' h0⟩) (by rw [length_ints, length_ints, length_zeroK]; have := HNL.out; omega) (ints_oneCell _ _) ?_
  rw [HKN.out]
  intro w3 hb3 hg3
  refine hK _ _ ?_
  clear hK K
  simp only [Act.put, List.setIfInBounds_toArray, List.set_cons_zero, List.set_cons_succ]
  refine wpAny_done (by kernel_rfl) ?_ _
  have hb13 := hb1.grown hg3 (by simp)
  have h33 : RAt w3 g D (nextR 32 s).2 := h3.only hg3 (by omega) (fun e => by have := HLOW.out _ e; omega)
  have HB3 := Lib.hid hb3
  have HB13 := Lib.hid hb13
  have H33 := Lib.hid h33
  clear hb3 hb13 h33 hb1 hb2 hr h3 ho hnl
  go_upto_region 3 with (fail)
  refine wp_region_lit ?_
  refine wpList_load_at rfl 31 (.tmp 3) rfl ⟨w.heap.size + 1, 0, none⟩ rfl _ _ HB3.out.all Try.underlying31 rfl (by rw [length_ints, hKl.out]; kernel_rfl) ?_
  refine wpList_store_at rfl rfl 31 (.tmp 2) (.tmp 8) rfl w.heap.size 0 rfl _ rfl _ _ HB13.out (by rw [length_ints, length_ints, hKl.out, length_zeroK]; decide) (ints_oneCell _ _) (by rw [length_ints, hKl.out]; kernel_rfl) ?_
  intro w4 hb4 hg4
  rw [splice_all _ _ (by rw [length_ints, length_ints, hKl.out]; rfl)] at hb4
  go_wp2
  refine bodyPost_ret (v := .agg (ints .u8 K).toArray) ?_ rfl ?_
  · exact results_cell_row rfl _ _ w.heap.size _ _ _ _ rfl hb4 Try.underlying31 rfl (by rw [List.size_toArray, length_ints, hKl.out]; kernel_rfl)
  · refine ⟨rfl, H33.out.only hg4 (by omega) (fun e => by have := HLOW.out _ e; omega), ?_⟩
    have hb := hbelw.out
    refine ⟨hg4.os.trans (hg3.os.trans (h4'.os.trans hb.os)), hg4.tape.trans (hg3.tape.trans (h4'.tape.trans hb.tape)), hg4.output.trans (hg3.output.trans (h4'.output.trans hb.output)), Nat.le_trans hb.size (Nat.le_trans h4'.size (Nat.le_trans hg3.size hg4.size)), fun i hi hne => ?_⟩
    have q1 := hb.size
    have q2 := h4'.size
    have q3 := hg3.size
    rw [hg4.block i (by omega) (by simp; omega), hg3.block i (by omega) (by simp; omega), h4'.block i (by omega) hne, hb.block i hi]
end Go.Proofs.Ytgoaelfifdalcaa
