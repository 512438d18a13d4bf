/- What the functions colourCodes and Codes of package pen return, for every pen that may be, as walks through the translated text. Conditions: the two tables of the attributes hold what the program lays there. -/
import Derived.Test.YtajllkfoaigdlaaDoorPen2
namespace Go.Proofs.YtajllkfoaigdlaaDoor
open Go.ChangeShapes Go.WideShapes Go.RowKit
/-- A slice of numbers in memory of the call's own. -/
def NumPost (w : World) (l : List Int) (en : Ending) (w' : World) : Prop := ∃ v, en = .returned v ∧ Mine w w' 3 v l.length (intZ l)
theorem mine_new {w : World} (l : List Int) (hl : l.length ≤ maxLen) : Mine w (w.alloc (.cells (intZ l).toArray 3)) 3 (.slice (some ⟨w.heap.size, 0, none⟩) l.length l.length) l.length (intZ l) :=
  ⟨blk_own (Blk.new w _ _) (length_intZ l) (Nat.le_refl _) hl, (Below.refl _ _).alloc (Nat.le_refl _) _⟩
set_option maxHeartbeats 1600000 in
theorem colourCodes_c (c k : Nat) (w : World) (hc : c ≤ 256) (hk : k ≤ 10) : Calls Tryd.prog 19 #[.int .i64 (c : Int), .int .i64 (k : Int)] w (NumPost w (colL c k)) := by
  by_cases h0 : c = 0
  · subst h0
    rw [show colL 0 k = [] from rfl]
    go_enter Tryd.func19, Tryd.ntmps19
    go_wp2
    go_ret
    exact ⟨_, rfl, World.ownsRow_nil _ _ _ _, Below.refl _ _⟩
  · have t0 : ((c : Int) == 0) = false ∧ decide (c = 0) = false := by simp [h0]
    obtain ⟨t0, t0'⟩ := t0
    have c0 : (1 : Int) ≤ (c : Int) := by omega
    by_cases h1 : c < 9
    · have e : colL c k = [((c : Int) - 1 + 30 + (k : Int))] := by
        unfold colL; rw [if_neg h0, if_pos h1]; congr 1; omega
      rw [e]
      have t1 : decide ((c : Int) < 9) = true ∧ decide (c < 9) = true := by simp; omega
      obtain ⟨t1, t1'⟩ := t1
      clear e h1
      go_enter Tryd.func19, Tryd.ntmps19
      go_wp2
      go_ret
      exact ⟨_, rfl, mine_new [((c : Int) - 1 + 30 + (k : Int))] (by simp [maxLen])⟩
    · have t1 : decide ((c : Int) < 9) = false ∧ decide (c < 9) = false := by simp; omega
      obtain ⟨t1, t1'⟩ := t1
      by_cases h2 : c < 17
      · have e : colL c k = [((c : Int) - 9 + 90 + (k : Int))] := by
          unfold colL; rw [if_neg h0, if_neg h1, if_pos h2]; congr 1; omega
        rw [e]
        have t2 : decide ((c : Int) < 17) = true ∧ decide (c < 17) = true := by simp; omega
        obtain ⟨t2, t2'⟩ := t2
        clear e
        go_enter Tryd.func19, Tryd.ntmps19
        go_wp2
        go_ret
        exact ⟨_, rfl, mine_new [((c : Int) - 9 + 90 + (k : Int))] (by simp [maxLen])⟩
      · have e : colL c k = [(38 + (k : Int)), 5, (c : Int) - 1] := by
          unfold colL; rw [if_neg h0, if_neg h1, if_neg h2]; congr 1; congr 1; congr 1; omega
        rw [e]
        have t2 : decide ((c : Int) < 17) = false ∧ decide (c < 17) = false := by simp; omega
        obtain ⟨t2, t2'⟩ := t2
        clear e
        go_enter Tryd.func19, Tryd.ntmps19
        go_wp2
        go_ret
        exact ⟨_, rfl, mine_new [(38 + (k : Int)), 5, (c : Int) - 1] (by simp [maxLen])⟩
/-! ### Codes -/
def setsA : Array Value := (ints .i64 setsN).toArray
theorem index_sets (j : Nat) (hj : j < 10) (W : World) : (Instr.index 43 (.agg setsA) (.int .i64 (j : Int))).run Tryd.prog W = .ok (.int .i64 ((setsN.getD j 0 : Nat) : Int)) W := by
  have h : j = 0 ∨ j = 1 ∨ j = 2 ∨ j = 3 ∨ j = 4 ∨ j = 5 ∨ j = 6 ∨ j = 7 ∨ j = 8 ∨ j = 9 := by omega
  rcases h with rfl | rfl | rfl | rfl | rfl | rfl | rfl | rfl | rfl | rfl <;> (simp only [setsA, ints, setsN, List.map_cons, List.map_nil]; go_simp; rfl)
/-- The loop of Codes: the numbers of the first j attributes, in memory of the call's own. -/
structure CoSt (w wr : World) (z : Nat) (p : PenN) (v : Value) (n j : Nat) : Prop where
  box : Blk wr z 23 (penW p)
  own : wr.ownsRow (z + 1) 3 1 v n (intZ (0 :: markL p.2.2 j))
  tab : PT wr
  bel : Below z w wr
theorem CoSt.len {w wr : World} {z : Nat} {p : PenN} {v : Value} {n j : Nat} (h : CoSt w wr z p v n j) : n = (markL p.2.2 j).length + 1 := by
  have := h.own.1
  simpa [intZ] using this.symm
theorem off_box {w : World} {z : Nat} {t : TypeId} {v : Value} {n : Nat} {xs : List Value} (h : w.ownsRow (z + 1) t 1 v n xs) : some z ≠ v.ownBlock := by
  intro e
  rcases h.2 with ⟨rfl, rfl⟩ | ⟨g, cap, cur, rfl, hb, _⟩
  · simp [Value.ownBlock] at e
  · have : z = g := by simpa [Value.ownBlock] using e
    omega
theorem PT.grown {w w' : World} {row : Option Nat} (h : PT w) (hg : w.grownBy w' row) (hr : ∀ k, row = some k → 1 < k) : PT w' := by
  have e1 := hg.block _ h.lt.1 (fun e => by have := hr _ e.symm; omega)
  have e2 := hg.block _ h.lt.2 (fun e => by have := hr _ e.symm; omega)
  exact ⟨fun i hi => by rw [← h.1 i hi]; exact World.cell?_of_block e1, fun i hi => by rw [← h.2 i hi]; exact World.cell?_of_block e2⟩
theorem infoIntP : (Tryd.prog.info? 3).map (fun i => (i.zero, i.size, i.bytes)) = some (some (.int .i64 0), 1, 8) := by kernel_rfl
theorem size10 : (Tryd.prog.info? 43).map (·.size) = some 10 := by kernel_rfl
theorem wf_small {x : Int} (h0 : 0 ≤ x) (h1 : x ≤ 1000) : (Lit.int .i64 x).wf = true := by
  simp [Lit.wf, IntKind.min, IntKind.max, IntKind.signed, IntKind.bits]; omega
theorem colL_range {c k : Nat} (hc : c ≤ 256) (hk : k ≤ 10) : ∀ x ∈ colL c k, 0 ≤ x ∧ x ≤ 1000 := by
  intro x hx
  unfold colL at hx
  split at hx
  · simp at hx
  · split at hx
    · simp at hx; omega
    · split at hx
      · simp at hx; omega
      · simp at hx; omega
theorem own_below {w w' : World} {b : Nat} {e : TypeId} {v : Value} {n : Nat} {xs : List Value} (h : w.ownsRow b e 1 v n xs) (hb : Below w.heap.size w w') : w'.ownsRow b e 1 v n xs :=
  ⟨h.1, h.2.imp id fun ⟨g, cap, cur, e1, h1, h2, h3⟩ => ⟨g, cap, cur, e1, h1, by
    rw [hb.block g (by
      rcases Nat.lt_or_ge g w.heap.size with hlt | hge
      · exact hlt
      · rw [Array.getElem?_eq_none hge] at h2; cases h2)]
    exact h2, h3⟩⟩
theorem PT.tabs {w : World} (h : PT w) : ∀ j u, (ints .i64 setsN)[j]? = some u → w.cell? ((⟨0, 0, none⟩ : Addr).add j) = some u := by
  intro j u hu
  have hj : j < 10 := by
    rcases Nat.lt_or_ge j 10 with h | h
    · exact h
    · rw [List.getElem?_eq_none (by rw [length_ints]; exact h)] at hu; cases hu
  rw [add_head, h.1 j hj, ← hu]
  have hl : j < setsN.length := hj
  simp [ints, List.getD_eq_getElem?_getD, hl]
set_option maxHeartbeats 12800000 in
set_option maxRecDepth 100000 in
theorem codes_c (p : PenN) (w : World) (hp : p.ok) (hk : PT w) : Calls Tryd.prog 11 #[.agg (penW p).toArray] w (NumPost w (codesL p)) := by
  obtain ⟨i0, hi, hz0, hz1, hz2⟩ := info_parts infoIntP
  obtain ⟨f, b, m⟩ := p
  obtain ⟨z, hz⟩ : ∃ z, Hid (w.heap.size = z) := ⟨_, rfl⟩
  have h1z : 1 < z := by have := hk.lt.2; have := hz.out; omega
  have HP := Lib.hid hp
  have HK := Lib.hid hk
  have hm : Hid (m < 128) := hp.2.2
  clear hp hk
  simp only [penW]
  go_enter Tryd.func11, Tryd.ntmps11
  go_upto_region 2 with (fail)
  rw [hz.out]
  refine name_wp (fun w2 => CoSt w w2 z (f, b, m) (.slice (some ⟨z + 1, 0, none⟩) 1 1) 1 0) ?_ ?_
  · rw [← hz.out]
    refine ⟨(Blk.new w _ (penW (f, b, m))).alloc _, ?_, HK.out.keep (below_two _ _ _), below_two _ _ _⟩
    have := Blk.new (w.alloc (.cells (penW (f, b, m)).toArray 23)) 3 (intZ [0])
    rw [World.size_alloc] at this
    exact blk_own this rfl (Nat.le_refl _) (by decide)
  intro w2 hs2
  have HS2 := Lib.hid hs2
  clear hs2
  obtain ⟨T, hT⟩ : ∃ T, Hid ((ints .i64 setsN).toArray = T) := ⟨_, rfl⟩
  go_upto_region 3 with ((with_reducible refine at_load 43 ?_); refine wpList_load_at rfl 43 (.global 0) rfl ⟨0, 0, none⟩ rfl (ints .i64 setsN) _ HS2.out.tab.tabs Tryd.underlying43 rfl size10 ?_)
  rw [hT.out]
  go_loopw [3, 8] (fun v i wr => ∃ (j n : Nat) (A' : Option Addr) (c' : Nat), j ≤ 10 ∧ i = .int .i64 j ∧ v = .slice A' n c' ∧ Hid (CoSt w wr z (f, b, m) (.slice A' n c') n j)) (fun _ i _ => 10 - (intOf i).toNat)
  case atStart => exact ⟨0, 1, _, 1, Nat.zero_le _, rfl, rfl, HS2⟩
  case round =>
    obtain ⟨j, n, A', c', hj, rfl, rfl, HS⟩ := hrel
    clear HS2
    by_cases hlt : j < 10
    · have t1 : decide ((j : Int) < 10) = true ∧ decide (j < 10) = true := by simp; omega
      obtain ⟨t1, t1'⟩ := t1
      have hix := fun W => index_sets j hlt W
      have hb := and_all m hm.out j hlt
      have b2 : wr.cell? ⟨z, 2, none⟩ = some (.int .i64 (m : Int)) := HS.out.box.cell 2
      have hML := markL_succ m j
      obtain ⟨s, hs⟩ : ∃ s, Hid (setsN.getD j 0 = s) := ⟨_, rfl⟩
      obtain ⟨x, hx⟩ : ∃ x, Hid (hasM j m = x) := ⟨_, rfl⟩
      rw [hs.out, hx.out] at hb
      unfold setsA at hix
      rw [hT.out] at hix
      rw [hs.out] at hix
      rw [hx.out] at hML
      by_cases hx0 : x = 0
      · subst hx0
        rw [if_neg (by decide), List.append_nil] at hML
        have HML := Lib.hid hML
        clear hML
        go_wp2
        go_roundw
        case rel => exact ⟨j + 1, n, A', c', by omega, by go_num, rfl, Lib.hid ⟨HS.out.box, by rw [HML.out]; exact HS.out.own, HS.out.tab, HS.out.bel⟩⟩
        case measure => simp [intOf]; omega
      · have t2 : ((x : Int) != 0) = true ∧ decide (x = 0) = false ∧ decide ((x : Int) = 0) = false := by simp [hx0]
        obtain ⟨t2, t2', t2''⟩ := t2
        rw [if_pos (by simpa using hx0)] at hML
        have HML := Lib.hid hML
        have hn11 : Hid (n ≤ 11) := by
          show _ ≤ _
          have := HS.out.len
          have := markL_length m j
          simp only at *
          omega
        clear hML hx0
        go_wp2_with (at_builtin; refine wpList_appI rfl (.tmp 17) (.tmp 19) 24 rfl (z + 1) 3 i0 (.int .i64 0) 8 Tryd.underlying24 hi hz0 hz1 hz2 rfl _ n (0 :: markL m j) rfl (HS.out.own.alloc _) (some ⟨wr.heap.size, 0, none⟩) 1 1 [(j : Int)] rfl (readsI_new rfl rfl (by decide) (by intro y hy; simp at hy; subst hy; exact wf_small (by omega) (by omega))) (by have := hn11.out; unfold maxLen; omega) (by have := hn11.out; omega) (by have := HS.out.box.lt; rw [World.size_alloc]; omega) ?_; intro v3 w3 ho3 hg3 hat3; obtain ⟨A3, c3, rfl⟩ := own_form ho3; have HO3 := Lib.hid ho3; have HG3 := Lib.hid hg3; clear ho3 hg3 hat3)
        go_roundw
        case rel =>
          refine ⟨j + 1, n + 1, A3, c3, by omega, by go_num, rfl, Lib.hid ⟨?_, ?_, ?_, ?_⟩⟩
          · exact (HS.out.box.alloc _).grown HG3.out (off_box HS.out.own)
          · rw [HML.out]; exact HO3.out
          · exact (HS.out.tab.keep ((Below.refl _ _).alloc (Nat.le_refl _) _)).grown HG3.out (fun k e => by have := (HS.out.own.lt k e).1; omega)
          · exact (HS.out.bel.alloc (Nat.le_of_lt HS.out.box.lt) _).grown HG3.out (by have := HS.out.box.lt; rw [World.size_alloc]; omega) (fun k e => by have := (HS.out.own.lt k e).1; omega)
        case measure => simp [intOf]; omega
    · obtain rfl : j = 10 := by omega
      have t1 : decide (((10 : Nat) : Int) < 10) = false := by decide
      have b0 : wr.cell? ⟨z, 0, none⟩ = some (.int .i64 (f : Int)) := HS.out.box.cell 0
      have hn11 : Hid (n ≤ 11) := by
        show _ ≤ _
        have := HS.out.len
        have := markL_length m 10
        simp only at *
        omega
      have hzlt := HS.out.box.lt
      have HC1 : Hid (∀ W, Calls Tryd.prog 19 #[.int .i64 (f : Int), .int .i64 0] W (NumPost W (colL f 0))) := fun W => colourCodes_c f 0 W HP.out.1 (by omega)
      have HC2 : Hid (∀ W, Calls Tryd.prog 19 #[.int .i64 (b : Int), .int .i64 10] W (NumPost W (colL b 10))) := fun W => colourCodes_c b 10 W HP.out.2.1 (by omega)
      have HW1 : Hid (∀ x ∈ colL f 0, (Lit.int .i64 x).wf = true) := fun x hx => by have := colL_range (k := 0) HP.out.1 (by omega) x hx; exact wf_small this.1 this.2
      have HW2 : Hid (∀ x ∈ colL b 10, (Lit.int .i64 x).wf = true) := fun x hx => by have := colL_range (k := 10) HP.out.2.1 (by omega) x hx; exact wf_small this.1 this.2
      have HL : Hid (codesL (f, b, m) = (0 :: markL m 10 ++ colL f 0) ++ colL b 10) := by show _ = _; unfold codesL; rw [List.append_assoc]
      have hl1 := colL_length f 0
      have hl2 := colL_length b 10
      generalize colL f 0 = L1 at *
      generalize colL b 10 = L2 at *
      obtain ⟨k1, hk1⟩ : ∃ k1, Hid (L1.length = k1) := ⟨_, rfl⟩
      obtain ⟨k2, hk2⟩ : ∃ k2, Hid (L2.length = k2) := ⟨_, rfl⟩
      rw [hk1.out] at hl1
      rw [hk2.out] at hl2
      go_wp2_with fail
      refine (HC1.out wr).mono ?_
      rintro en w4 ⟨v4, rfl, hm4⟩
      rw [hk1.out] at hm4
      obtain ⟨A4, c4, rfl, hr4, _⟩ := own_readsI hm4.1 HW1.out
      have HR4 := Lib.hid hr4
      have HM4 := Lib.hid hm4.2
      have HO4 := Lib.hid (own_below HS.out.own hm4.2)
      have hbox4 := HS.out.box.below hm4.2 hzlt
      clear hm4 hr4
      go_wp2_with (at_builtin; refine wpList_appI rfl (.tmp 22) (.tmp 25) 24 rfl (z + 1) 3 i0 (.int .i64 0) 8 Tryd.underlying24 hi hz0 hz1 hz2 rfl _ n (0 :: markL m 10) rfl HO4.out A4 k1 c4 L1 rfl HR4.out (by have := hn11.out; unfold maxLen; omega) (by have := hn11.out; omega) (by have := hbox4.lt; omega) ?_; intro v5 w5 ho5 hg5 hat5; obtain ⟨A5, c5, rfl⟩ := own_form ho5; have hbox5 := hbox4.grown hg5 (off_box HO4.out); have b1 : w5.cell? ⟨z, 1, none⟩ = some (.int .i64 (b : Int)) := hbox5.cell 1; have HO5 := Lib.hid ho5; have HG5 := Lib.hid hg5; clear ho5 hg5 hat5)
      refine (HC2.out w5).mono ?_
      rintro en w6 ⟨v6, rfl, hm6⟩
      rw [hk2.out] at hm6
      obtain ⟨A6, c6, rfl, hr6, _⟩ := own_readsI hm6.1 HW2.out
      have HR6 := Lib.hid hr6
      have HM6 := Lib.hid hm6.2
      have HO6 := Lib.hid (own_below HO5.out hm6.2)
      have hbox6 := hbox5.below hm6.2 hbox5.lt
      clear hm6 hr6
      go_wp2_with (at_builtin; refine wpList_appI rfl (.tmp 27) (.tmp 30) 24 rfl (z + 1) 3 i0 (.int .i64 0) 8 Tryd.underlying24 hi hz0 hz1 hz2 rfl _ (n + k1) _ rfl HO6.out A6 k2 c6 L2 rfl HR6.out (by have := hn11.out; unfold maxLen; omega) (by have := hn11.out; omega) (by have := hbox6.lt; omega) ?_; intro v7 w7 ho7 hg7 hat7; obtain ⟨A7, c7, rfl⟩ := own_form ho7; have HO7 := Lib.hid ho7; have HG7 := Lib.hid hg7; clear ho7 hg7 hat7)
      go_ret
      have hlen : (0 :: markL m 10 ++ L1 ++ L2).length = n + k1 + k2 := by
        have := HO7.out.1
        simpa [intZ] using this
      refine ⟨_, rfl, ?_⟩
      rw [HL.out, hlen]
      refine ⟨by rw [hz.out]; exact own_weaken HO7.out (Nat.le_succ z), ?_⟩
      rw [hz.out]
      have hb5 : Below z w w5 := (HS.out.bel.trans (HM4.out.mono (Nat.le_of_lt hzlt))).grown HG5.out (by have := hbox4.lt; omega) (fun k e => by have := (HO4.out.lt k e).1; omega)
      exact (hb5.trans (HM6.out.mono (Nat.le_of_lt hbox5.lt))).grown HG7.out (by have := hbox6.lt; omega) (fun k e => by have := (HO6.out.lt k e).1; omega)
end Go.Proofs.YtajllkfoaigdlaaDoor
