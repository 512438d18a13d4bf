/- What Write of package cell writes, as walks through the translated text. Conditions: the Writer lies in memory of its own, slices read as lists, at most 2^40 bytes are written. -/
import Derived.Test.YtbmnpbmimhodbaaCell3
import Derived.Test.YtbmnpbmimhodbaaCellM
import Derived.Test.YtbmnpbmimhodbaaCodec2
namespace Go.Proofs.Ytbmnpbmimhodbaa
open Go.ChangeShapes Go.WideShapes Go.RowKit
/-! ### The bytes of a run -/
def okN (n : Int) : Prop := 0 ≤ n ∧ n ≤ 72057594037927935
/-- The numbers of a run, and whether they all may be written. -/
def numsR (x : RunV) : List Int := [x.1, x.2.1, x.2.2.1, x.2.2.2.1, x.2.2.2.2]
def okR (x : RunV) : Prop := ∀ n ∈ numsR x, okN n
def runB (x : RunV) : List Nat := (numsR x).flatMap fun n => numL n.toNat
theorem encN_ok {n : Int} (h : okN n) : encN n = (0, numL n.toNat) := if_pos h
theorem numL_le {n : Int} (h : okN n) : (numL n.toNat).length ≤ 8 := numL_len 7 n.toNat (by have := h.1; have := h.2; omega)
theorem runB_eq (x : RunV) : runB x = numL x.1.toNat ++ (numL x.2.1.toNat ++ (numL x.2.2.1.toNat ++ (numL x.2.2.2.1.toNat ++ numL x.2.2.2.2.toNat))) := by simp [runB, numsR]
theorem runB_le {x : RunV} (h : okR x) : (runB x).length ≤ 40 := by
  have h0 := numL_le (h x.1 (by simp [numsR]))
  have h1 := numL_le (h x.2.1 (by simp [numsR]))
  have h2 := numL_le (h x.2.2.1 (by simp [numsR]))
  have h3 := numL_le (h x.2.2.2.1 (by simp [numsR]))
  have h4 := numL_le (h x.2.2.2.2 (by simp [numsR]))
  rw [runB_eq]
  simp only [List.length_append]
  omega
theorem wrote_five (s : List Nat × Int) (a b c d e : List Nat) : wrote (wrote (wrote (wrote (wrote s (0, a)) (0, b)) (0, c)) (0, d)) (0, e) = wrote s (0, a ++ (b ++ (c ++ (d ++ e)))) := by
  simp only [wrote_two, List.append_assoc]
theorem okC_nums {c : CellV} (h : okC c = true) : okN c.1 ∧ okN c.2.1 ∧ okN c.2.2.1 ∧ okN c.2.2.2 := by
  simp only [okC, Bool.and_eq_true, penOk, runeOk, decide_eq_true_eq] at h
  unfold okN
  omega
theorem okR_of {x : RunV} (h1 : okN x.1) (h : okC x.2 = true) : okR x := by
  obtain ⟨a, b, c, d⟩ := okC_nums h
  intro n hn
  simp only [numsR, List.mem_cons, List.not_mem_nil, or_false] at hn
  rcases hn with rfl | rfl | rfl | rfl | rfl <;> assumption
set_option maxHeartbeats 1600000 in
theorem writeRun_c (g : Nat) (F : Nat → Prop) (s : List Nat × Int) (x : RunV) (w : World) (h : WAt w g F s) (hx : okR x) (hfit : -2147483648 ≤ x.2.1 ∧ x.2.1 ≤ 2147483647) (hb : s.1.length + 40 ≤ 1099511627776) :
    Calls Try.prog 29 #[.pointer (some ⟨g, 0, none⟩), .agg (runV x).toArray] w (WPost w g F (wrote s (0, runB x))) := by
  have HE0 := Lib.hid (encN_ok (hx x.1 (by simp [numsR])))
  have HE1 := Lib.hid (encN_ok (hx x.2.1 (by simp [numsR])))
  have HE2 := Lib.hid (encN_ok (hx x.2.2.1 (by simp [numsR])))
  have HE3 := Lib.hid (encN_ok (hx x.2.2.2.1 (by simp [numsR])))
  have HE4 := Lib.hid (encN_ok (hx x.2.2.2.2 (by simp [numsR])))
  have l0 := numL_le (hx x.1 (by simp [numsR]))
  have l1 := numL_le (hx x.2.1 (by simp [numsR]))
  have l2 := numL_le (hx x.2.2.1 (by simp [numsR]))
  have l3 := numL_le (hx x.2.2.2.1 (by simp [numsR]))
  rw [runB_eq, ← wrote_five]
  generalize numL x.1.toNat = n0 at HE0 l0 ⊢
  generalize numL x.2.1.toNat = n1 at HE1 l1 ⊢
  generalize numL x.2.2.1.toNat = n2 at HE2 l2 ⊢
  generalize numL x.2.2.2.1.toNat = n3 at HE3 l3 ⊢
  generalize numL x.2.2.2.2.toNat = n4 at HE4 ⊢
  have hw : wrap64 x.2.1 = x.2.1 := IntWalk.wrap64_in _ (by omega)
  have H := Lib.hid h.clip
  obtain ⟨s1, hs1⟩ : ∃ t, Hid (wrote s (0, n0) = t) := ⟨_, rfl⟩
  obtain ⟨s2, hs2⟩ : ∃ t, Hid (wrote s1 (0, n1) = t) := ⟨_, rfl⟩
  obtain ⟨s3, hs3⟩ : ∃ t, Hid (wrote s2 (0, n2) = t) := ⟨_, rfl⟩
  obtain ⟨s4, hs4⟩ : ∃ t, Hid (wrote s3 (0, n3) = t) := ⟨_, rfl⟩
  have b1 := wrote_len s (0, n0)
  have b2 := wrote_len s1 (0, n1)
  have b3 := wrote_len s2 (0, n2)
  have b4 := wrote_len s3 (0, n3)
  rw [hs1.out] at b1
  rw [hs2.out] at b2
  rw [hs3.out] at b3
  rw [hs4.out] at b4
  simp only at b1 b2 b3 b4
  rw [hs1.out, hs2.out, hs3.out, hs4.out]
  have HB : Hid (s.1.length + 8 ≤ 1099511627776 ∧ s1.1.length + 8 ≤ 1099511627776 ∧ s2.1.length + 8 ≤ 1099511627776 ∧ s3.1.length + 8 ≤ 1099511627776 ∧ s4.1.length + 8 ≤ 1099511627776) := by
    show _ ∧ _
    omega
  clear h hx hfit hb l0 l1 l2 l3 b1 b2 b3 b4
  show Calls _ _ #[_, .agg #[.int .i64 x.1, .int .i32 x.2.1, .int .i64 x.2.2.1, .int .i64 x.2.2.2.1, .int .i64 x.2.2.2.2]] _ _
  go_enter Try.func29, Try.ntmps29
  go_upto_region 1 with (fail)
  refine name_wp (fun w1 => Blk w1 w.heap.size 34 (runV x) ∧ Below w.heap.size w w1 ∧ w1.heap.size = w.heap.size + 1) ⟨Blk.new _ _ _, alloc_below' _ _, by simp⟩ ?_
  rintro w1 ⟨hB1, hb1, hz1⟩
  have HG : Hid (∀ i, orNew (fun i => F i ∧ i < w.heap.size) w1 i → orNew F w i ∧ i ≠ w.heap.size) := by
    rintro i (hi | hi)
    · exact ⟨.inl hi.1, by have := hi.2; omega⟩
    · exact ⟨.inr (by omega), by omega⟩
  have hA1 := (H.out.below hb1).mono (G := orNew (fun i => F i ∧ i < w.heap.size) w1) inNew
  have HZ1 := Lib.hid hz1
  clear hz1
  generalize hG : orNew (fun i => F i ∧ i < w.heap.size) w1 = G at *
  have HGn : Hid (∀ (W : World), w1.heap.size ≤ W.heap.size → ∀ i, orNew G W i → G i) := by
    intro W hW i hi
    rw [← hG] at hi ⊢
    exact orNew_mono hW i hi
  have HC1 : Hid (Chg G w1 w1) := Chg.refl _ _
  clear hG
  generalize hzz : w.heap.size = z at *
  obtain ⟨y0, y1, y2, y3, y4⟩ := fiveB hB1
  go_wp2_with fail
  refine (wnumber_c g G s x.1 w1 hA1 HB.out.1).mono ?_
  rw [HE0.out, hs1.out]
  rintro en w2 ⟨⟨v, rfl⟩, hA2, hk2⟩
  have hB2 := hB1.chg hk2 (fun hg => (HG.out _ hg).2 rfl)
  have HC2 := Lib.hid (HC1.out.trans' hk2)
  have hA2' := hA2.mono (HGn.out _ (HC1.out.size))
  clear hB1 hA1 hA2 y0 y1 y2 y3 y4 hk2 HC1
  obtain ⟨y0, y1, y2, y3, y4⟩ := fiveB hB2
  go_wp2_with fail
  refine (wnumber_c g G s1 x.2.1 w2 hA2' HB.out.2.1).mono ?_
  rw [HE1.out, hs2.out]
  rintro en w3 ⟨⟨v, rfl⟩, hA3, hk3⟩
  have hB3 := hB2.chg hk3 (fun hg => (HG.out _ hg).2 rfl)
  have HC3 := Lib.hid (HC2.out.trans' hk3)
  have hA3' := hA3.mono (HGn.out _ (HC2.out.size))
  clear hB2 hA2' hA3 y0 y1 y2 y3 y4 hk3 HC2
  obtain ⟨y0, y1, y2, y3, y4⟩ := fiveB hB3
  go_wp2_with fail
  refine (wnumber_c g G s2 x.2.2.1 w3 hA3' HB.out.2.2.1).mono ?_
  rw [HE2.out, hs3.out]
  rintro en w4 ⟨⟨v, rfl⟩, hA4, hk4⟩
  have hB4 := hB3.chg hk4 (fun hg => (HG.out _ hg).2 rfl)
  have HC4 := Lib.hid (HC3.out.trans' hk4)
  have hA4' := hA4.mono (HGn.out _ (HC3.out.size))
  clear hB3 hA3' hA4 y0 y1 y2 y3 y4 hk4 HC3
  obtain ⟨y0, y1, y2, y3, y4⟩ := fiveB hB4
  go_wp2_with fail
  refine (wnumber_c g G s3 x.2.2.2.1 w4 hA4' HB.out.2.2.2.1).mono ?_
  rw [HE3.out, hs4.out]
  rintro en w5 ⟨⟨v, rfl⟩, hA5, hk5⟩
  have hB5 := hB4.chg hk5 (fun hg => (HG.out _ hg).2 rfl)
  have HC5 := Lib.hid (HC4.out.trans' hk5)
  have hA5' := hA5.mono (HGn.out _ (HC4.out.size))
  clear hB4 hA4' hA5 y0 y1 y2 y3 y4 hk5 HC4
  obtain ⟨y0, y1, y2, y3, y4⟩ := fiveB hB5
  go_wp2_with fail
  refine (wnumber_c g G s4 x.2.2.2.2 w5 hA5' HB.out.2.2.2.2).mono ?_
  rw [HE4.out]
  rintro en w6 ⟨⟨v, rfl⟩, hA6, hk6⟩
  have HC6 := HC5.out.trans' hk6
  have hA6' := hA6.mono (HGn.out _ (HC5.out.size))
  go_wp2
  go_end0
  subst hzz
  refine ⟨⟨_, rfl⟩, hA6'.mono (fun i hi => (HG.out i hi).1), ?_⟩
  exact (Chg.of_below hb1).trans (HC6.mono (fun i hi => (HG.out i hi).1))
/-! ### Write -/
/-- What a Writer holds behind the cells l. -/
def cellsW (l : List CellV) : Int × List Nat := if l.all okC then (0, (runsL l).flatMap runB) else (1, [])
theorem runs_cell (l : List CellV) (x : RunV) (h : x ∈ runsL l) : x.2 ∈ l ∧ okN x.1 ∨ 72057594037927935 < l.length := by
  by_cases hb : 72057594037927935 < l.length
  · exact .inr hb
  · left
    obtain ⟨i, hi, rfl⟩ := List.mem_iff_getElem.1 h
    have h1 := (runs_good l).1 _ (List.getElem_mem hi)
    have h2 := cellsL_room (runsL l) i hi
    have h3 := cellsL_at (runsL l) i 0 hi (by omega)
    rw [cells_runs] at h2 h3
    refine ⟨List.mem_of_getElem? h3, ?_, ?_⟩ <;> omega
theorem take_flat_le (R : List RunV) (j : Nat) (h : ∀ x ∈ R, okR x) : ((R.take j).flatMap runB).length ≤ 40 * j := by
  induction j with
  | zero => simp
  | succ j ih =>
    by_cases hj : j < R.length
    · rw [List.take_succ_eq_append_getElem hj, List.flatMap_append, List.length_append]
      have := runB_le (h _ (List.getElem_mem hj))
      simp only [List.flatMap_cons, List.flatMap_nil, List.append_nil]
      omega
    · rw [List.take_of_length_le (by omega)]
      rw [List.take_of_length_le (by omega)] at ih
      omega
set_option maxHeartbeats 1600000 in
theorem write_bad (g : Nat) (F : Nat → Prop) (s : List Nat × Int) (A : Option Addr) (n c : Nat) (l : List CellV) (w : World) (h : WAt w g F s) (hr : ReadsS cellV 4 w A n c l) (hl : l.all okC = false) :
    Calls Try.prog 16 #[.pointer (some ⟨g, 0, none⟩), .slice A n c] w (WPost w g F (wrote s (1, []))) := by
  have hcap : n ≤ 9223372036854775807 := by have := hr.room; have := hr.cap; unfold maxLen at this; omega
  have H := Lib.hid h
  have HR := Lib.hid hr
  have HL := Lib.hid hr.len
  have Hall := Lib.hid hl
  clear h hr hl
  go_enter Try.func16, Try.ntmps16
  go_wp2
  go_loopw [10] (fun i wr => ∃ j : Nat, j ≤ n ∧ i = .int .i64 j ∧ Hid ((l.take j).all okC = true) ∧ Hid (Below w.heap.size w wr)) (fun i _ => n - (intOf i).toNat)
  case atStart => exact ⟨0, Nat.zero_le _, rfl, rfl, Below.refl _ _⟩
  case round =>
    obtain ⟨j, hj, rfl, hT, hB⟩ := hrel
    have hlt : j < n := by
      rcases Nat.lt_or_ge j n with h | h
      · exact h
      · exfalso
        have h1 := hT.out
        rw [List.take_of_length_le (by rw [HL.out]; exact h), Hall.out] at h1
        cases h1
    have hjl : j < l.length := by rw [HL.out]; exact hlt
    have hR1 := HR.out.keep hB.out
    obtain ⟨ad, rfl, hadlt, hca⟩ := hR1.cell j hjl
    obtain ⟨x, HX⟩ : ∃ x, Hid (l[j] = x) := ⟨l[j], rfl⟩
    rw [HX.out] at hca
    obtain ⟨a0, a1, a2, a3⟩ := four hca
    have hlt2 : (j : Int) < (n : Int) := by omega
    have hj0 : (0 : Int) ≤ (j : Int) := by omega
    clear hca hR1
    cases hx : okC x
    · have HC := fun W => right_c x W
      rw [hx] at HC
      simp only [cellV] at HC
      have HC' := Lib.hid HC
      clear HC
      go_wp2_with fail
      refine (HC'.out _).mono ?_
      rintro en w3 ⟨rfl, hb3⟩
      have hB3 : Below w.heap.size w w3 := (hB.out.alloc hB.out.size _).trans (hb3.mono (by have := hB.out.size; simp; omega))
      go_wp2_with fail
      refine (wfail_c g F s 1 w3 (H.out.below hB3) (by decide)).mono ?_
      rintro en w4 ⟨⟨v, rfl⟩, h4, hk4⟩
      go_wp2
      go_end0
      exact ⟨⟨_, rfl⟩, h4.mono (fun i hi => hi.elim .inl (fun hge => .inr (Nat.le_trans hB3.size hge))), (Chg.of_below hB3).trans' hk4⟩
    · have HC := fun W => right_c x W
      rw [hx] at HC
      simp only [cellV] at HC
      have HC' := Lib.hid HC
      have Hx := Lib.hid hx
      clear HC hx
      go_wp2_with fail
      refine (HC'.out _).mono ?_
      rintro en w3 ⟨rfl, hb3⟩
      have hB3 : Below w.heap.size w w3 := (hB.out.alloc hB.out.size _).trans (hb3.mono (by have := hB.out.size; simp; omega))
      go_wp2
      go_roundw
      case rel =>
        refine ⟨j + 1, by omega, by go_num, ?_, hB3⟩
        show _ = _
        rw [List.take_succ_eq_append_getElem hjl, List.all_append, hT.out, HX.out]
        simp [Hx.out]
      case measure => simp [intOf]; omega
set_option maxHeartbeats 1600000 in
theorem write_good (g : Nat) (F : Nat → Prop) (s : List Nat × Int) (A : Option Addr) (n c : Nat) (l : List CellV) (w : World) (h : WAt w g F s) (hr : ReadsS cellV 4 w A n c l) (hl : l.all okC = true) (hn : n ≤ 1073741824) (hb : s.1.length + 40 * n + 40 ≤ 1099511627776) :
    Calls Try.prog 16 #[.pointer (some ⟨g, 0, none⟩), .slice A n c] w (WPost w g F (wrote s (0, (runsL l).flatMap runB))) := by
  have H := Lib.hid h
  have HR := Lib.hid hr
  have HL := Lib.hid hr.len
  have Hall := Lib.hid hl
  obtain ⟨R, hR⟩ : ∃ R, Hid (runsL l = R) := ⟨_, rfl⟩
  have HOK : Hid (∀ x ∈ R, okR x ∧ okC x.2 = true) := by
    intro x hx
    rw [← hR.out] at hx
    rcases runs_cell l x hx with ⟨h1, h2⟩ | h1
    · have h3 := List.all_eq_true.1 hl _ h1
      exact ⟨okR_of h2 h3, h3⟩
    · rw [hr.len] at h1; omega
  have HRl : Hid (R.length ≤ n) := by
    show _ ≤ _
    have := runsL_len l
    rw [hR.out, hr.len] at this
    exact this
  rw [hR.out]
  clear h hr hl
  go_enter Try.func16, Try.ntmps16
  go_wp2
  go_loopw [10] (fun i wr => ∃ j : Nat, j ≤ n ∧ i = .int .i64 j ∧ Hid (Below w.heap.size w wr)) (fun i _ => n - (intOf i).toNat)
  case atStart => exact ⟨0, Nat.zero_le _, rfl, Below.refl _ _⟩
  case round =>
    obtain ⟨j, hj, rfl, hB⟩ := hrel
    by_cases hlt : j < n
    · have hjl : j < l.length := by rw [HL.out]; exact hlt
      have hR1 := HR.out.keep hB.out
      obtain ⟨ad, rfl, hadlt, hca⟩ := hR1.cell j hjl
      obtain ⟨x, HX⟩ : ∃ x, Hid (l[j] = x) := ⟨l[j], rfl⟩
      rw [HX.out] at hca
      obtain ⟨a0, a1, a2, a3⟩ := four hca
      have hlt2 : (j : Int) < (n : Int) := by omega
      have hj0 : (0 : Int) ≤ (j : Int) := by omega
      clear hca hR1
      have hx : okC x = true := by rw [← HX.out]; exact List.all_eq_true.1 Hall.out _ (List.getElem_mem hjl)
      have HC := fun W => right_c x W
      rw [hx] at HC
      simp only [cellV] at HC
      have HC' := Lib.hid HC
      clear HC hx
      go_wp2_with fail
      refine (HC'.out _).mono ?_
      rintro en w3 ⟨rfl, hb3⟩
      have hB3 : Below w.heap.size w w3 := (hB.out.alloc hB.out.size _).trans (hb3.mono (by have := hB.out.size; simp; omega))
      go_wp2
      go_roundw
      case rel => exact ⟨j + 1, by omega, by go_num, hB3⟩
      case measure => simp [intOf]; omega
    · obtain rfl : j = n := by omega
      have HC := Lib.hid (runs_c A j c l wr (HR.out.keep hB.out) (by omega))
      rw [hR.out] at HC
      go_wp2_with fail
      refine HC.out.mono ?_
      rintro en w2 ⟨v, rfl, hM2⟩
      have hb2 := hM2.bel
      obtain ⟨V, e, rfl, hRR⟩ := ReadsS.of_own length_runV (by decide) hM2.own
      have HB2 : Hid (Below w.heap.size w w2) := hB.out.trans (hb2.mono hB.out.size)
      have HV : Hid (∀ ad, V = some ad → wr.heap.size ≤ ad.block ∧ ad.block < w2.heap.size) := by
        rintro ad rfl
        exact ⟨ownK_base hM2.own _ rfl, ownK_lt hM2.own _ rfl⟩
      have HVw : Hid (w.heap.size ≤ wr.heap.size) := hB.out.size
      obtain ⟨G, hG⟩ : ∃ G : Nat → Prop, Hid (∀ i, G i ↔ ((F i ∧ i < w.heap.size) ∨ w2.heap.size ≤ i)) := ⟨fun i => (F i ∧ i < w.heap.size) ∨ w2.heap.size ≤ i, fun _ => Iff.rfl⟩
      have HW2 : Hid (WAt w2 g G (wrote s (0, ((R.take 0).flatMap runB)))) := by
        have h1 := (H.out.clip.below HB2.out).mono (G := G) (fun i hi => (hG.out i).2 (.inl hi))
        simp only [List.take_zero, List.flatMap_nil]
        rw [wrote_none]
        exact h1
      obtain ⟨L, hL⟩ : ∃ L, Hid (R.length = L) := ⟨_, Lib.hid rfl⟩
      have hLn : L ≤ j := by rw [← hL.out]; exact HRl.out
      rw [hL.out] at hRR ⊢
      have HRR := Lib.hid hRR
      clear hM2 hb2 hRR hB HC
      generalize wr.heap.size = zr at HV HVw
      clear wr
      go_wp2
      go_loopw [23] (fun i wr => ∃ q : Nat, q ≤ L ∧ i = .int .i64 q ∧ Hid (WAt wr g G (wrote s (0, ((R.take q).flatMap runB)))) ∧ Hid (Chg G w2 wr)) (fun i _ => L - (intOf i).toNat)
      case atStart => exact ⟨0, Nat.zero_le _, rfl, HW2, Chg.refl _ _⟩
      case round =>
        obtain ⟨q, hq, rfl, hW, hK⟩ := hrel
        by_cases hql : q < L
        · have hqR : q < R.length := by rw [hL.out]; exact hql
          have hVG : 0 < L → ∀ ad, V = some ad → ¬ G ad.block := by
            intro _ ad e hg
            have h1 := HV.out ad e
            have h2 := HVw.out
            rcases (hG.out _).1 hg with h | h
            · omega
            · omega
          have hR1 := HRR.out.chg hK.out hVG
          obtain ⟨ad, rfl, hadlt, hca⟩ := hR1.cell q hqR
          obtain ⟨x, HX⟩ : ∃ x, Hid (R[q] = x) := ⟨R[q], rfl⟩
          rw [HX.out] at hca
          obtain ⟨a0, a1, a2, a3, a4⟩ := five hca
          have hq2 : (q : Int) < (L : Int) := by omega
          have hq0 : (0 : Int) ≤ (q : Int) := by omega
          have hx := HOK.out x (by rw [← HX.out]; exact List.getElem_mem hqR)
          have hlen : ((R.take q).flatMap runB).length ≤ 40 * q := take_flat_le R q (fun x hx => (HOK.out x hx).1)
          have hwl := wrote_len s (0, (R.take q).flatMap runB)
          simp only at hwl
          have hA1 := hW.out.below (alloc_below' wr (.cells (runV x).toArray 34))
          have HC := Lib.hid (writeRun_c g G _ x _ hA1 hx.1 (by have h5 := hx.2; simp only [okC, runeOk, Bool.and_eq_true, decide_eq_true_eq] at h5; omega) (by omega))
          simp only [runV] at HC
          clear hca hR1 hVG hA1 hx hlen hwl
          go_wp2_with fail
          refine HC.out.mono ?_
          rintro en w3 ⟨⟨v, rfl⟩, hA3, hk3⟩
          have hkk : Chg G w2 w3 := (hK.out.trans' (Chg.of_below (alloc_below' _ _))).trans' hk3
          have hge := hK.out.size
          go_wp2
          go_roundw
          case rel =>
            refine ⟨q + 1, by omega, by go_num, ?_, hkk⟩
            show WAt _ _ _ _
            rw [List.take_succ_eq_append_getElem hqR, List.flatMap_append, List.flatMap_cons, List.flatMap_nil, List.append_nil, HX.out, ← wrote_two]
            refine hA3.mono (fun i hi => ?_)
            rcases hi with hi | hi
            · exact hi
            · exact (hG.out i).2 (.inr (by rw [World.size_alloc] at hi; omega))
          case measure => simp [intOf]; omega
        · obtain rfl : q = L := by omega
          go_wp2
          go_end0
          have hfin := hW.out
          rw [List.take_of_length_le (by rw [hL.out]; omega)] at hfin
          have hsz := HB2.out.size
          refine ⟨⟨_, rfl⟩, hfin.mono (fun i hi => ?_), (Chg.of_below HB2.out).trans (hK.out.mono fun i hi => ?_)⟩
          · rcases (hG.out i).1 hi with h | h
            · exact .inl h.1
            · exact .inr (by omega)
          · rcases (hG.out i).1 hi with h | h
            · exact .inl h.1
            · exact .inr (by omega)
theorem write_c (g : Nat) (F : Nat → Prop) (s : List Nat × Int) (A : Option Addr) (n c : Nat) (l : List CellV) (w : World) (h : WAt w g F s) (hr : ReadsS cellV 4 w A n c l) (hn : n ≤ 1073741824) (hb : s.1.length + 40 * n + 40 ≤ 1099511627776) :
    Calls Try.prog 16 #[.pointer (some ⟨g, 0, none⟩), .slice A n c] w (WPost w g F (wrote s (cellsW l))) := by
  cases hl : l.all okC
  · rw [show cellsW l = (1, []) by simp only [cellsW, hl]; rfl]
    exact write_bad g F s A n c l w h hr hl
  · rw [show cellsW l = (0, (runsL l).flatMap runB) by simp only [cellsW, hl]; rfl]
    exact write_good g F s A n c l w h hr hl hn hb
end Go.Proofs.Ytbmnpbmimhodbaa
