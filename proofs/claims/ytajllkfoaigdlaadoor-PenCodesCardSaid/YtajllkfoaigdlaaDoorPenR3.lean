/- What Codes of the document's answer of layer 12 returns, for every pen that may be, as a walk through the translated text. Conditions: none. -/
import Derived.Test.YtajllkfoaigdlaaDoorPenR1
import Derived.Test.YtajllkfoaigdlaaDoorPen3
namespace Go.Proofs.YtajllkfoaigdlaaDoor
open Go.ChangeShapes Go.WideShapes Go.RowKit
theorem refMarks_at : ∀ k, k < 7 → marksV[k * 2]? = some (.int .i64 (kMark k : Int)) ∧ marksV[k * 2 + 1]? = some (.int .i64 (bMark k : Int)) := by
  intro k hk
  have h : k = 0 ∨ k = 1 ∨ k = 2 ∨ k = 3 ∨ k = 4 ∨ k = 5 ∨ k = 6 := by omega
  rcases h with rfl | rfl | rfl | rfl | rfl | rfl | rfl <;> exact ⟨rfl, rfl⟩
theorem refMark_le : ∀ k, k < 7 → 1 ≤ kMark k ∧ kMark k ≤ 9 := by decide
theorem refL_length (m j : Nat) : (refL m j).length ≤ j := by
  unfold refL
  rw [List.length_map]
  have := List.length_filter_le (fun i => hasN m (bMark i)) (List.range j)
  rwa [List.length_range] at this
/-- The loop through the marks; the loop through the two colours. -/
structure RcSt (w wr : World) (z : Nat) (p : PenN) (g : Nat) (v : Value) (n j : Nat) : Prop where
  box : Blk wr z 23 (penW p)
  mks : Blk wr g 40 marksV
  off : v.ownBlock ≠ some g
  own : wr.ownsRow (z + 1) 3 1 v n (intZ (0 :: refL p.2.2 j))
  bel : Below z w wr
theorem RcSt.drewN {w wr : World} {z : Nat} {p : PenN} {g : Nat} {v : Value} {n j : Nat} (h : RcSt w wr z p g v n j) (q : Nat) : RcSt w (wr.drewN q) z p g v n j :=
  ⟨h.box.drewN q, h.mks.drewN q, h.off, h.own, belowDrewN h.bel q⟩
theorem RcSt.skip {w wr : World} {z : Nat} {p : PenN} {g : Nat} {v : Value} {n j : Nat} (h : RcSt w wr z p g v n j) (e : refL p.2.2 (j + 1) = refL p.2.2 j) (q : Nat) : RcSt w (wr.drewN q) z p g v n (j + 1) :=
  ⟨h.box.drewN q, h.mks.drewN q, h.off, by rw [e]; exact h.own, belowDrewN h.bel q⟩
/-- The numbers behind the first k colours. -/
def twoL (p : PenN) : Nat → List Int
  | 0 => 0 :: refL p.2.2 7
  | 1 => (0 :: refL p.2.2 7) ++ colL p.1 0
  | _ + 2 => (0 :: refL p.2.2 7) ++ colL p.1 0 ++ colL p.2.1 10
structure RdSt (w wr : World) (z : Nat) (p : PenN) (v : Value) (n k : Nat) : Prop where
  box : Blk wr z 23 (penW p)
  own : wr.ownsRow (z + 1) 3 1 v n (intZ (twoL p k))
  bel : Below z w wr
theorem RcSt.len {w wr : World} {z : Nat} {p : PenN} {g : Nat} {v : Value} {n j : Nat} (h : RcSt w wr z p g v n j) : n = (refL p.2.2 j).length + 1 := by
  have := h.own.1
  simpa [intZ] using this.symm
theorem RdSt.len {w wr : World} {z : Nat} {p : PenN} {v : Value} {n k : Nat} (h : RdSt w wr z p v n k) : n ≤ 14 := by
  have h1 := h.own.1
  have h2 := refL_length p.2.2 7
  have h3 := colL_length p.1 0
  have h4 := colL_length p.2.1 10
  match k, h1 with
  | 0, h1 => simp only [twoL, length_intZ, List.length_cons] at h1; omega
  | 1, h1 => simp only [twoL, length_intZ, List.length_cons, List.length_append] at h1; omega
  | _ + 2, h1 => simp only [twoL, length_intZ, List.length_cons, List.length_append] at h1; omega
theorem off_box' {w : World} {z : Nat} {t : TypeId} {v : Value} {n : Nat} {xs : List Value} (h : w.ownsRow (z + 1) t 1 v n xs) : some z ≠ v.ownBlock := off_box h
set_option maxHeartbeats 12800000 in
set_option maxRecDepth 100000 in
theorem refCodes_c (p : PenN) (w : World) (hp : p.ok) : Calls Tryd.prog 12 #[.agg (penW p).toArray] w (NumPost w (codesL p)) := by
  obtain ⟨i0, hi, hz0, hz1, hz2⟩ := info_parts infoIntP
  obtain ⟨f, b, m⟩ := p
  obtain ⟨z, hz⟩ : ∃ z, Hid (w.heap.size = z) := ⟨_, rfl⟩
  have HP := Lib.hid hp
  have hm : Hid (m < 128) := hp.2.2
  clear hp
  simp only [penW]
  go_enter Tryd.func12, Tryd.ntmps12
  go_upto_region 2 with (fail)
  rw [hz.out]
  refine name_wp (fun w2 => Blk w2 z 23 (penW (f, b, m)) ∧ w2.ownsRow (z + 1) 3 1 (.slice (some ⟨z + 1, 0, none⟩) 1 1) 1 (intZ [0]) ∧ z + 1 < w2.heap.size ∧ Below z w w2) ?_ ?_
  · rw [← hz.out]
    refine ⟨(Blk.new w _ (penW (f, b, m))).alloc _, ?_, by simp, below_two _ _ _⟩
    have := Blk.new (w.alloc (.cells (penW (f, b, m)).toArray 23)) 3 (intZ [0])
    rw [World.size_alloc] at this
    exact blk_own this rfl (Nat.le_refl _) (by decide)
  rintro w2 ⟨hbox, hown, hsz, hbel⟩
  obtain ⟨g, hg⟩ : ∃ g, Hid (w2.heap.size = g) := ⟨_, rfl⟩
  have HM := pMarks_c w2
  rw [hg.out] at HM hsz
  go_wp2_with fail
  refine HM.mono ?_
  rintro en w3 ⟨rfl, hw3⟩
  have HS : Hid (RcSt w w3 z (f, b, m) g (.slice (some ⟨z + 1, 0, none⟩) 1 1) 1 0) := by
    subst hw3
    refine ⟨hbox.alloc _, by rw [← hg.out]; exact Blk.new w2 _ marksV, ?_, hown.alloc _, hbel.alloc (Nat.le_of_lt hbox.lt) _⟩
    intro e
    have : z + 1 = g := by simpa [Value.ownBlock] using e
    omega
  have hgz : z + 1 < g := hsz
  clear hw3 HM hbox hown hbel hsz
  go_upto_region 4 with (fail)
  go_loopw [3, 5] (fun v i wr => ∃ (j n : Nat) (A' : Option Addr) (c' : Nat), j ≤ 7 ∧ i = .int .i64 j ∧ v = .slice A' n c' ∧ Hid (RcSt w wr z (f, b, m) g (.slice A' n c') n j)) (fun _ i _ => 7 - (intOf i).toNat)
  case atStart => exact ⟨0, 1, _, 1, Nat.zero_le _, rfl, rfl, HS⟩
  case round =>
    obtain ⟨k, n, A', c', hk, rfl, rfl, HK⟩ := hrel
    clear HS
    by_cases hk7 : k < 7
    · have t3 : decide ((k : Int) < 7) = true ∧ decide (k < 7) = true := by simp; omega
      obtain ⟨t3, t3'⟩ := t3
      have k0 : (0 : Int) ≤ (k : Int) := by omega
      have hk2 : (k : Int) < 7 := by omega
      have hkm := refMark_le k hk7
      have hbm := bMark_pos k hk7
      have d0 : wr.cell? ⟨g, k * 2, none⟩ = some (.int .i64 (kMark k : Int)) := by rw [HK.out.mks.cell]; exact (refMarks_at k hk7).1
      have d1 : wr.cell? ⟨g, k * 2 + 1, none⟩ = some (.int .i64 (bMark k : Int)) := by rw [HK.out.mks.cell]; exact (refMarks_at k hk7).2
      have e2 : wr.cell? ⟨z, 2, none⟩ = some (.int .i64 (m : Int)) := HK.out.box.cell 2
      have hRL := refL_succ m k
      have HH : Hid (∀ W, Calls Tryd.prog 20 #[.int .i64 (m : Int), .int .i64 (bMark k : Int)] W fun en w' => en = .returned (.bool (hasN m (bMark k))) ∧ W = w') := fun W => pHas_c m (bMark k) W hm.out hbm.1 hbm.2
      obtain ⟨K, hK⟩ : ∃ K, Hid (kMark k = K) := ⟨_, rfl⟩
      obtain ⟨B, hB⟩ : ∃ B, Hid (bMark k = B) := ⟨_, rfl⟩
      rw [hB.out] at hRL HH d1
      rw [hK.out] at hRL hkm d0
      obtain ⟨hk1, hk9⟩ := hkm
      have hn8 : Hid (n ≤ 8) := by
        show _ ≤ _
        have := HK.out.len
        have := refL_length m k
        simp only at *
        omega
      clear hbm
      cases hq : hasN m B with
      | false =>
        rw [hq] at hRL HH
        rw [if_neg (by decide), List.append_nil] at hRL
        have HRL := Lib.hid hRL
        clear hRL hq
        go_upto_region 6 with (fail)
        go_quiet ((go_at_call 20; exact quiet_same (HH.out _)))
        go_wp2
        go_roundw
        case rel => exact ⟨k + 1, n, A', c', by omega, by go_num, rfl, Lib.hid (HK.out.skip HRL.out _)⟩
        case measure => simp [intOf]; omega
      | true =>
        rw [hq] at hRL HH
        rw [if_pos rfl] at hRL
        have HRL := Lib.hid hRL
        clear hRL hq
        go_upto_region 6 with (fail)
        go_quiet ((go_at_call 20; exact quiet_same (HH.out _)))
        go_upto_region 7 with (fail)
        refine name_wp (fun w5 => RcSt w w5 z (f, b, m) g (.slice A' n c') n k) (HK.out.drewN _) ?_
        intro w5 hs5
        have HS5 := Lib.hid hs5
        clear d0 d1 e2
        have d0 : w5.cell? ⟨g, k * 2, none⟩ = some (.int .i64 (K : Int)) := by rw [hs5.mks.cell, ← hK.out]; exact (refMarks_at k hk7).1
        clear hs5
        go_wp2_with (at_builtin; refine wpList_appI rfl (.tmp 24) (.tmp 30) 24 rfl (z + 1) 3 i0 (.int .i64 0) 8 Tryd.underlying24 hi hz0 hz1 hz2 rfl _ n (0 :: refL m k) rfl (HS5.out.own.alloc _) (some ⟨w5.heap.size, 0, none⟩) 1 1 [(K : Int)] rfl (readsI_new rfl rfl (by decide) (by intro y hy; simp at hy; subst hy; exact wf_small (by omega) (by omega))) (by have := hn8.out; unfold maxLen; omega) (by have := hn8.out; omega) (by have := HS5.out.box.lt; rw [World.size_alloc]; omega) ?_; intro v3 w3 ho3 hg3 hat3; obtain ⟨A3, c3, rfl⟩ := own_form ho3; have HO3 := Lib.hid ho3; have HG3 := Lib.hid hg3; have HA3 := Lib.hid hat3; clear ho3 hg3 hat3)
        go_roundw
        case rel =>
          refine ⟨k + 1, n + 1, A3, c3, by omega, by go_num, rfl, Lib.hid ⟨?_, ?_, ?_, ?_, ?_⟩⟩
          · exact (HS5.out.box.alloc _).grown HG3.out (off_box HS5.out.own)
          · exact (HS5.out.mks.alloc _).grown HG3.out (fun e => HS5.out.off e.symm)
          · intro e
            rcases HA3.out with h | h
            · exact HS5.out.off (h.symm.trans e)
            · have h1 := HS5.out.mks.lt
              rw [h, World.size_alloc] at e
              have := Option.some.inj e
              omega
          · rw [HRL.out]; exact HO3.out
          · exact (HS5.out.bel.alloc (Nat.le_of_lt HS5.out.box.lt) _).grown HG3.out (by have := HS5.out.box.lt; rw [World.size_alloc]; omega) (fun k e => by have := (HS5.out.own.lt k e).1; omega)
        case measure => simp [intOf]; omega
    · have hk77 : k = 7 := by omega
      have t3 : decide ((k : Int) < 7) = false ∧ decide (k < 7) = false := by simp; omega
      obtain ⟨t3, t3'⟩ := t3
      have HS7 : Hid (RdSt w wr z (f, b, m) (.slice A' n c') n 0) := ⟨HK.out.box, by have h := HK.out.own; rw [hk77] at h; exact h, HK.out.bel⟩
      clear hk77
      generalize wr = wo at *
      go_upto_region 9 with (fail)
      go_loopw [3, 6] (fun v i wr => ∃ (k n : Nat) (A' : Option Addr) (c' : Nat), k ≤ 2 ∧ i = .int .i64 k ∧ v = .slice A' n c' ∧ Hid (RdSt w wr z (f, b, m) (.slice A' n c') n k)) (fun _ i _ => 2 - (intOf i).toNat)
      case atStart => exact ⟨0, n, A', c', Nat.zero_le _, rfl, rfl, HS7⟩
      case round =>
        obtain ⟨k, n, A', c', hk, rfl, rfl, HD⟩ := hrel
        clear HS7
        have e0 : wr.cell? ⟨z, 0, none⟩ = some (.int .i64 (f : Int)) := HD.out.box.cell 0
        have e1 : wr.cell? ⟨z, 1, none⟩ = some (.int .i64 (b : Int)) := HD.out.box.cell 1
        have hn14 : Hid (n ≤ 14) := HD.out.len
        have HF : Hid (f ≤ 256) := HP.out.1
        have HB : Hid (b ≤ 256) := HP.out.2.1
        have hkc : k = 0 ∨ k = 1 ∨ k = 2 := by omega
        rcases hkc with rfl | rfl | rfl
        · have hcc : f = 0 ∨ (1 ≤ f ∧ f ≤ 8) ∨ (9 ≤ f ∧ f ≤ 16) ∨ 16 < f := by omega
          rcases hcc with hc | ⟨hc, hc'⟩ | ⟨hc, hc'⟩ | hc
          · have HC : Hid (colL f 0 = []) := by
              show _ = _
              unfold colL
              rw [if_pos hc]
            have s1 : decide ((1 : Int) ≤ (f : Int)) = false ∧ decide (1 ≤ f) = false := by simp; omega
            obtain ⟨s1, s1'⟩ := s1
            have s3 : decide ((9 : Int) ≤ (f : Int)) = false ∧ decide (9 ≤ f) = false := by simp; omega
            obtain ⟨s3, s3'⟩ := s3
            have s5 : decide ((16 : Int) < (f : Int)) = false ∧ decide (16 < f) = false := by simp; omega
            obtain ⟨s5, s5'⟩ := s5
            have h256 : (f : Int) ≤ 256 := by have := HF.out; omega
            clear hc
            go_wp2
            go_roundw
            case rel => exact ⟨1, n, A', c', by omega, by go_num, rfl, Lib.hid ⟨HD.out.box, by unfold twoL; rw [HC.out, List.append_nil]; exact HD.out.own, HD.out.bel⟩⟩
            case measure => simp [intOf]
          · have HC : Hid (colL f 0 = [29 + (f : Int)]) := by
              show _ = _
              unfold colL
              rw [if_neg (by omega), if_pos (by omega)]; congr 1; omega
            have s1 : decide ((1 : Int) ≤ (f : Int)) = true ∧ decide (1 ≤ f) = true := by simp; omega
            obtain ⟨s1, s1'⟩ := s1
            have s2 : decide ((f : Int) ≤ (8 : Int)) = true ∧ decide (f ≤ 8) = true := by simp; omega
            obtain ⟨s2, s2'⟩ := s2
            have h256 : (f : Int) ≤ 256 := by have := HF.out; omega
            have h1 : (1 : Int) ≤ (f : Int) := by omega
            clear hc hc'
            go_wp2_with (at_builtin; refine wpList_appI rfl (.tmp 49) (.tmp 55) 24 rfl (z + 1) 3 i0 (.int .i64 0) 8 Tryd.underlying24 hi hz0 hz1 hz2 rfl _ n (twoL (f, b, m) 0) rfl (HD.out.own.alloc _) (some ⟨wr.heap.size, 0, none⟩) 1 1 [29 + (f : Int)] rfl (readsI_new rfl rfl (by decide) (by intro y hy; simp at hy; first | (subst hy; exact wf_small (by omega) (by omega)) | (rcases hy with rfl | rfl | rfl <;> exact wf_small (by omega) (by omega)))) (by have := hn14.out; unfold maxLen; omega) (by have := hn14.out; omega) (by have := HD.out.box.lt; rw [World.size_alloc]; omega) ?_; intro v3 w3 ho3 hg3 hat3; obtain ⟨A3, c3, rfl⟩ := own_form ho3; have HO3 := Lib.hid ho3; have HG3 := Lib.hid hg3; clear ho3 hg3 hat3)
            go_roundw
            case rel =>
              refine ⟨1, n + 1, A3, c3, by omega, by go_num, rfl, Lib.hid ⟨(HD.out.box.alloc _).grown HG3.out (off_box HD.out.own), ?_, ?_⟩⟩
              · rw [show twoL (f, b, m) 1 = twoL (f, b, m) 0 ++ colL f 0 from rfl, HC.out]; exact HO3.out
              · exact (HD.out.bel.alloc (Nat.le_of_lt HD.out.box.lt) _).grown HG3.out (by have := HD.out.box.lt; rw [World.size_alloc]; omega) (fun k e => by have := (HD.out.own.lt k e).1; omega)
            case measure => simp [intOf]
          · have HC : Hid (colL f 0 = [81 + (f : Int)]) := by
              show _ = _
              unfold colL
              rw [if_neg (by omega), if_neg (by omega), if_pos (by omega)]; congr 1; omega
            have s1 : decide ((1 : Int) ≤ (f : Int)) = true ∧ decide (1 ≤ f) = true := by simp; omega
            obtain ⟨s1, s1'⟩ := s1
            have s2 : decide ((f : Int) ≤ (8 : Int)) = false ∧ decide (f ≤ 8) = false := by simp; omega
            obtain ⟨s2, s2'⟩ := s2
            have s3 : decide ((9 : Int) ≤ (f : Int)) = true ∧ decide (9 ≤ f) = true := by simp; omega
            obtain ⟨s3, s3'⟩ := s3
            have s4 : decide ((f : Int) ≤ (16 : Int)) = true ∧ decide (f ≤ 16) = true := by simp; omega
            obtain ⟨s4, s4'⟩ := s4
            have h256 : (f : Int) ≤ 256 := by have := HF.out; omega
            have h1 : (1 : Int) ≤ (f : Int) := by omega
            clear hc hc'
            go_wp2_with (at_builtin; refine wpList_appI rfl (.tmp 64) (.tmp 70) 24 rfl (z + 1) 3 i0 (.int .i64 0) 8 Tryd.underlying24 hi hz0 hz1 hz2 rfl _ n (twoL (f, b, m) 0) rfl (HD.out.own.alloc _) (some ⟨wr.heap.size, 0, none⟩) 1 1 [81 + (f : Int)] rfl (readsI_new rfl rfl (by decide) (by intro y hy; simp at hy; first | (subst hy; exact wf_small (by omega) (by omega)) | (rcases hy with rfl | rfl | rfl <;> exact wf_small (by omega) (by omega)))) (by have := hn14.out; unfold maxLen; omega) (by have := hn14.out; omega) (by have := HD.out.box.lt; rw [World.size_alloc]; omega) ?_; intro v3 w3 ho3 hg3 hat3; obtain ⟨A3, c3, rfl⟩ := own_form ho3; have HO3 := Lib.hid ho3; have HG3 := Lib.hid hg3; clear ho3 hg3 hat3)
            go_roundw
            case rel =>
              refine ⟨1, n + 1, A3, c3, by omega, by go_num, rfl, Lib.hid ⟨(HD.out.box.alloc _).grown HG3.out (off_box HD.out.own), ?_, ?_⟩⟩
              · rw [show twoL (f, b, m) 1 = twoL (f, b, m) 0 ++ colL f 0 from rfl, HC.out]; exact HO3.out
              · exact (HD.out.bel.alloc (Nat.le_of_lt HD.out.box.lt) _).grown HG3.out (by have := HD.out.box.lt; rw [World.size_alloc]; omega) (fun k e => by have := (HD.out.own.lt k e).1; omega)
            case measure => simp [intOf]
          · have HC : Hid (colL f 0 = [38, 5, (f : Int) - 1]) := by
              show _ = _
              unfold colL
              rw [if_neg (by omega), if_neg (by omega), if_neg (by omega)]; congr 1; congr 1; congr 1; omega
            have s1 : decide ((1 : Int) ≤ (f : Int)) = true ∧ decide (1 ≤ f) = true := by simp; omega
            obtain ⟨s1, s1'⟩ := s1
            have s2 : decide ((f : Int) ≤ (8 : Int)) = false ∧ decide (f ≤ 8) = false := by simp; omega
            obtain ⟨s2, s2'⟩ := s2
            have s3 : decide ((9 : Int) ≤ (f : Int)) = true ∧ decide (9 ≤ f) = true := by simp; omega
            obtain ⟨s3, s3'⟩ := s3
            have s4 : decide ((f : Int) ≤ (16 : Int)) = false ∧ decide (f ≤ 16) = false := by simp; omega
            obtain ⟨s4, s4'⟩ := s4
            have s5 : decide ((16 : Int) < (f : Int)) = true ∧ decide (16 < f) = true := by simp; omega
            obtain ⟨s5, s5'⟩ := s5
            have h256 : (f : Int) ≤ 256 := by have := HF.out; omega
            have h1 : (1 : Int) ≤ (f : Int) := by omega
            clear hc
            go_wp2_with (at_builtin; refine wpList_appI rfl (.tmp 75) (.tmp 81) 24 rfl (z + 1) 3 i0 (.int .i64 0) 8 Tryd.underlying24 hi hz0 hz1 hz2 rfl _ n (twoL (f, b, m) 0) rfl (HD.out.own.alloc _) (some ⟨wr.heap.size, 0, none⟩) 3 3 [38, 5, (f : Int) - 1] rfl (readsI_new rfl rfl (by decide) (by intro y hy; simp at hy; first | (subst hy; exact wf_small (by omega) (by omega)) | (rcases hy with rfl | rfl | rfl <;> exact wf_small (by omega) (by omega)))) (by have := hn14.out; unfold maxLen; omega) (by have := hn14.out; omega) (by have := HD.out.box.lt; rw [World.size_alloc]; omega) ?_; intro v3 w3 ho3 hg3 hat3; obtain ⟨A3, c3, rfl⟩ := own_form ho3; have HO3 := Lib.hid ho3; have HG3 := Lib.hid hg3; clear ho3 hg3 hat3)
            go_roundw
            case rel =>
              refine ⟨1, n + 3, A3, c3, by omega, by go_num, rfl, Lib.hid ⟨(HD.out.box.alloc _).grown HG3.out (off_box HD.out.own), ?_, ?_⟩⟩
              · rw [show twoL (f, b, m) 1 = twoL (f, b, m) 0 ++ colL f 0 from rfl, HC.out]; exact HO3.out
              · exact (HD.out.bel.alloc (Nat.le_of_lt HD.out.box.lt) _).grown HG3.out (by have := HD.out.box.lt; rw [World.size_alloc]; omega) (fun k e => by have := (HD.out.own.lt k e).1; omega)
            case measure => simp [intOf]
        · have hcc : b = 0 ∨ (1 ≤ b ∧ b ≤ 8) ∨ (9 ≤ b ∧ b ≤ 16) ∨ 16 < b := by omega
          rcases hcc with hc | ⟨hc, hc'⟩ | ⟨hc, hc'⟩ | hc
          · have HC : Hid (colL b 10 = []) := by
              show _ = _
              unfold colL
              rw [if_pos hc]
            have s1 : decide ((1 : Int) ≤ (b : Int)) = false ∧ decide (1 ≤ b) = false := by simp; omega
            obtain ⟨s1, s1'⟩ := s1
            have s3 : decide ((9 : Int) ≤ (b : Int)) = false ∧ decide (9 ≤ b) = false := by simp; omega
            obtain ⟨s3, s3'⟩ := s3
            have s5 : decide ((16 : Int) < (b : Int)) = false ∧ decide (16 < b) = false := by simp; omega
            obtain ⟨s5, s5'⟩ := s5
            have h256 : (b : Int) ≤ 256 := by have := HB.out; omega
            clear hc
            go_wp2
            go_roundw
            case rel => exact ⟨2, n, A', c', by omega, by go_num, rfl, Lib.hid ⟨HD.out.box, by unfold twoL; rw [HC.out, List.append_nil]; exact HD.out.own, HD.out.bel⟩⟩
            case measure => simp [intOf]
          · have HC : Hid (colL b 10 = [39 + (b : Int)]) := by
              show _ = _
              unfold colL
              rw [if_neg (by omega), if_pos (by omega)]; congr 1; omega
            have s1 : decide ((1 : Int) ≤ (b : Int)) = true ∧ decide (1 ≤ b) = true := by simp; omega
            obtain ⟨s1, s1'⟩ := s1
            have s2 : decide ((b : Int) ≤ (8 : Int)) = true ∧ decide (b ≤ 8) = true := by simp; omega
            obtain ⟨s2, s2'⟩ := s2
            have h256 : (b : Int) ≤ 256 := by have := HB.out; omega
            have h1 : (1 : Int) ≤ (b : Int) := by omega
            clear hc hc'
            go_wp2_with (at_builtin; refine wpList_appI rfl (.tmp 49) (.tmp 55) 24 rfl (z + 1) 3 i0 (.int .i64 0) 8 Tryd.underlying24 hi hz0 hz1 hz2 rfl _ n (twoL (f, b, m) 1) rfl (HD.out.own.alloc _) (some ⟨wr.heap.size, 0, none⟩) 1 1 [39 + (b : Int)] rfl (readsI_new rfl rfl (by decide) (by intro y hy; simp at hy; first | (subst hy; exact wf_small (by omega) (by omega)) | (rcases hy with rfl | rfl | rfl <;> exact wf_small (by omega) (by omega)))) (by have := hn14.out; unfold maxLen; omega) (by have := hn14.out; omega) (by have := HD.out.box.lt; rw [World.size_alloc]; omega) ?_; intro v3 w3 ho3 hg3 hat3; obtain ⟨A3, c3, rfl⟩ := own_form ho3; have HO3 := Lib.hid ho3; have HG3 := Lib.hid hg3; clear ho3 hg3 hat3)
            go_roundw
            case rel =>
              refine ⟨2, n + 1, A3, c3, by omega, by go_num, rfl, Lib.hid ⟨(HD.out.box.alloc _).grown HG3.out (off_box HD.out.own), ?_, ?_⟩⟩
              · rw [show twoL (f, b, m) 2 = twoL (f, b, m) 1 ++ colL b 10 from rfl, HC.out]; exact HO3.out
              · exact (HD.out.bel.alloc (Nat.le_of_lt HD.out.box.lt) _).grown HG3.out (by have := HD.out.box.lt; rw [World.size_alloc]; omega) (fun k e => by have := (HD.out.own.lt k e).1; omega)
            case measure => simp [intOf]
          · have HC : Hid (colL b 10 = [91 + (b : Int)]) := by
              show _ = _
              unfold colL
              rw [if_neg (by omega), if_neg (by omega), if_pos (by omega)]; congr 1; omega
            have s1 : decide ((1 : Int) ≤ (b : Int)) = true ∧ decide (1 ≤ b) = true := by simp; omega
            obtain ⟨s1, s1'⟩ := s1
            have s2 : decide ((b : Int) ≤ (8 : Int)) = false ∧ decide (b ≤ 8) = false := by simp; omega
            obtain ⟨s2, s2'⟩ := s2
            have s3 : decide ((9 : Int) ≤ (b : Int)) = true ∧ decide (9 ≤ b) = true := by simp; omega
            obtain ⟨s3, s3'⟩ := s3
            have s4 : decide ((b : Int) ≤ (16 : Int)) = true ∧ decide (b ≤ 16) = true := by simp; omega
            obtain ⟨s4, s4'⟩ := s4
            have h256 : (b : Int) ≤ 256 := by have := HB.out; omega
            have h1 : (1 : Int) ≤ (b : Int) := by omega
            clear hc hc'
            go_wp2_with (at_builtin; refine wpList_appI rfl (.tmp 64) (.tmp 70) 24 rfl (z + 1) 3 i0 (.int .i64 0) 8 Tryd.underlying24 hi hz0 hz1 hz2 rfl _ n (twoL (f, b, m) 1) rfl (HD.out.own.alloc _) (some ⟨wr.heap.size, 0, none⟩) 1 1 [91 + (b : Int)] rfl (readsI_new rfl rfl (by decide) (by intro y hy; simp at hy; first | (subst hy; exact wf_small (by omega) (by omega)) | (rcases hy with rfl | rfl | rfl <;> exact wf_small (by omega) (by omega)))) (by have := hn14.out; unfold maxLen; omega) (by have := hn14.out; omega) (by have := HD.out.box.lt; rw [World.size_alloc]; omega) ?_; intro v3 w3 ho3 hg3 hat3; obtain ⟨A3, c3, rfl⟩ := own_form ho3; have HO3 := Lib.hid ho3; have HG3 := Lib.hid hg3; clear ho3 hg3 hat3)
            go_roundw
            case rel =>
              refine ⟨2, n + 1, A3, c3, by omega, by go_num, rfl, Lib.hid ⟨(HD.out.box.alloc _).grown HG3.out (off_box HD.out.own), ?_, ?_⟩⟩
              · rw [show twoL (f, b, m) 2 = twoL (f, b, m) 1 ++ colL b 10 from rfl, HC.out]; exact HO3.out
              · exact (HD.out.bel.alloc (Nat.le_of_lt HD.out.box.lt) _).grown HG3.out (by have := HD.out.box.lt; rw [World.size_alloc]; omega) (fun k e => by have := (HD.out.own.lt k e).1; omega)
            case measure => simp [intOf]
          · have HC : Hid (colL b 10 = [48, 5, (b : Int) - 1]) := by
              show _ = _
              unfold colL
              rw [if_neg (by omega), if_neg (by omega), if_neg (by omega)]; congr 1; congr 1; congr 1; omega
            have s1 : decide ((1 : Int) ≤ (b : Int)) = true ∧ decide (1 ≤ b) = true := by simp; omega
            obtain ⟨s1, s1'⟩ := s1
            have s2 : decide ((b : Int) ≤ (8 : Int)) = false ∧ decide (b ≤ 8) = false := by simp; omega
            obtain ⟨s2, s2'⟩ := s2
            have s3 : decide ((9 : Int) ≤ (b : Int)) = true ∧ decide (9 ≤ b) = true := by simp; omega
            obtain ⟨s3, s3'⟩ := s3
            have s4 : decide ((b : Int) ≤ (16 : Int)) = false ∧ decide (b ≤ 16) = false := by simp; omega
            obtain ⟨s4, s4'⟩ := s4
            have s5 : decide ((16 : Int) < (b : Int)) = true ∧ decide (16 < b) = true := by simp; omega
            obtain ⟨s5, s5'⟩ := s5
            have h256 : (b : Int) ≤ 256 := by have := HB.out; omega
            have h1 : (1 : Int) ≤ (b : Int) := by omega
            clear hc
            go_wp2_with (at_builtin; refine wpList_appI rfl (.tmp 75) (.tmp 81) 24 rfl (z + 1) 3 i0 (.int .i64 0) 8 Tryd.underlying24 hi hz0 hz1 hz2 rfl _ n (twoL (f, b, m) 1) rfl (HD.out.own.alloc _) (some ⟨wr.heap.size, 0, none⟩) 3 3 [48, 5, (b : Int) - 1] rfl (readsI_new rfl rfl (by decide) (by intro y hy; simp at hy; first | (subst hy; exact wf_small (by omega) (by omega)) | (rcases hy with rfl | rfl | rfl <;> exact wf_small (by omega) (by omega)))) (by have := hn14.out; unfold maxLen; omega) (by have := hn14.out; omega) (by have := HD.out.box.lt; rw [World.size_alloc]; omega) ?_; intro v3 w3 ho3 hg3 hat3; obtain ⟨A3, c3, rfl⟩ := own_form ho3; have HO3 := Lib.hid ho3; have HG3 := Lib.hid hg3; clear ho3 hg3 hat3)
            go_roundw
            case rel =>
              refine ⟨2, n + 3, A3, c3, by omega, by go_num, rfl, Lib.hid ⟨(HD.out.box.alloc _).grown HG3.out (off_box HD.out.own), ?_, ?_⟩⟩
              · rw [show twoL (f, b, m) 2 = twoL (f, b, m) 1 ++ colL b 10 from rfl, HC.out]; exact HO3.out
              · exact (HD.out.bel.alloc (Nat.le_of_lt HD.out.box.lt) _).grown HG3.out (by have := HD.out.box.lt; rw [World.size_alloc]; omega) (fun k e => by have := (HD.out.own.lt k e).1; omega)
            case measure => simp [intOf]
        -- END-TWO
        · go_wp2
          go_ret
          have hl : (codesL (f, b, m)) = twoL (f, b, m) 2 := by
            unfold codesL twoL
            simp only
            rw [refL_all m hm.out, List.append_assoc]
          refine ⟨_, rfl, ?_⟩
          rw [hl]
          have hn : (twoL (f, b, m) 2).length = n := by
            have := HD.out.own.1
            rw [length_intZ] at this
            omega
          rw [hn]
          exact ⟨by rw [hz.out]; exact own_weaken HD.out.own (Nat.le_succ z), by rw [hz.out]; exact HD.out.bel⟩
end Go.Proofs.YtajllkfoaigdlaaDoor
