/- What the statements' own 'do' of layer 11 does: one operation at the stops and at the reference's row alike. Conditions: the Stops and the row lie apart. -/
import Derived.Test.YtdjpeopjfhoglaaTabsR
import Derived.Test.YtdjpeopjfhoglaaTabs3
import Derived.Test.YtdjpeopjfhoglaaOpen8
namespace Go.Proofs.Ytdjpeopjfhoglaa
open Go.ChangeShapes Go.WideShapes Go.RowKit
def chP (b : Bool) (c : Nat) (p : Nat → Bool) : Nat → Bool := fun i => if i = c then b else p i
theorem setP_ch (c : Nat) (p : Nat → Bool) (i : Nat) : setP c p i = chP true c p i := by
  unfold setP chP
  by_cases h : i = c
  · simp [h]
  · simp [h]
theorem clrP_ch (c : Nat) (p : Nat → Bool) (i : Nat) : clrP c p i = chP false c p i := by
  unfold clrP chP
  by_cases h : i = c
  · simp [h]
  · simp [h]
theorem bools_set {n c : Nat} (b : Bool) (p : Nat → Bool) : (bools n p).set c (.bool b) = bools n (chP b c p) := by
  apply List.ext_getElem?
  intro i
  by_cases hi : i < n
  · rw [bools_at _ hi, List.getElem?_set]
    by_cases h : c = i
    · subst h
      rw [if_pos rfl, if_pos (by rw [length_bools]; exact hi), chP, if_pos rfl]
    · rw [if_neg h, bools_at _ hi, chP, if_neg (fun e => h e.symm)]
  · rw [List.getElem?_eq_none (by rw [List.length_set, length_bools]; omega), List.getElem?_eq_none (by rw [length_bools]; omega)]
theorem made_bools (n : Nat) : (madeCells (Value.bool false).cells (n * 1)).toList = bools n (fun _ => false) := by
  rw [Nat.mul_one]
  show (madeCells #[Value.bool false] n).toList = _
  rw [toList_madeCells_one]
  simp [bools, List.map_const']
/-- Both hold the same; what has turned lies in the stops' memory; the row lies apart from it. -/
def DoPost (w : World) (g : Nat) (F : Nat → Prop) (n : Nat) (kd : Int) (en : Ending) (w' : World) : Prop :=
  ∃ n' p' F' A' k', en = .returned (.tuple #[.slice A' n' k', .bool true]) ∧ TAt w' g F' n' p' ∧ (∀ i, F' i → i < w'.heap.size ∧ orNew F w i) ∧ ReadsB w' A' n' k' p' ∧ (∀ ad, A' = some ad → ¬ F' ad.block) ∧ Chg F w w' ∧ ((kd = 0 ∨ kd = 1) → n' = n)
theorem do_fin {w w2 w3 : World} {g n n' k' : Nat} {F : Nat → Prop} {p' : Nat → Bool} {A' : Option Addr} {kd : Int} (h2 : TAt w2 g (orNew F w) n' p') (hc : Chg F w w2) (hb : Below w2.heap.size w2 w3) (hr : ReadsB w3 A' n' k' p')
    (ha : ∀ ad, A' = some ad → w2.heap.size ≤ ad.block ∨ ¬ orNew F w ad.block) (hn : (kd = 0 ∨ kd = 1) → n' = n) : DoPost w g F n kd (.returned (.tuple #[.slice A' n' k', .bool true])) w3 :=
  ⟨n', p', _, A', k', rfl, h2.clip.below hb, fun i hi => ⟨Nat.lt_of_lt_of_le hi.2 hb.size, hi.1⟩, hr, fun ad e hi => by
    rcases ha ad e with h | h
    · exact absurd hi.2 (by omega)
    · exact h hi.1, hc.trans' (Chg.of_below hb), hn⟩
section
variable {w : World} {g n k : Nat} {F : Nat → Prop} {p : Nat → Bool} {A : Option Addr}
set_option maxRecDepth 100000 in
set_option maxHeartbeats 3200000 in
theorem do_set (x : Int) (h : TAt w g F n p) (hF : ∀ i, F i → i < w.heap.size) (hr : ReadsB w A n k p) (hA : ∀ ad, A = some ad → ¬ F ad.block) :
    Calls Try.prog 9 #[.pointer (some ⟨g, 0, none⟩), .slice A n k, .agg (topV (0, x)).toArray] w (DoPost w g F n 0) := by
  obtain ⟨i0, hi, hz0, hz1, hz2⟩ := info_parts infoB
  have hn := h.cap
  have h1 := h.pos
  have H := Lib.hid h
  have HR := Lib.hid hr
  have HA := Lib.hid hA
  obtain ⟨ad, rfl, hadlt, _⟩ := hr.cell 0 h1
  clear h hr hA
  simp only [topV]
  go_enter Try.func9, Try.ntmps9
  go_upto_region 1 with (fail)
  obtain ⟨z, hz⟩ : ∃ z, Hid (w.heap.size = z) := ⟨_, rfl⟩
  rw [hz.out]
  refine name_wp (fun w1 => Blk w1 z 33 [.int .i64 0, .int .i64 x] ∧ Below w.heap.size w w1) ⟨by rw [← hz.out]; exact Blk.new _ _ _, belAlloc _ _⟩ ?_
  rintro w1 ⟨hb1, hbel1⟩
  have b0 : w1.cell? ⟨z, 0, none⟩ = some (.int .i64 0) := hb1.cell 0
  have b1 : w1.cell? ⟨z, 1, none⟩ = some (.int .i64 x) := hb1.cell 1
  have HB1 := Lib.hid hb1
  have HBel1 := Lib.hid hbel1
  have HC := Lib.hid (set_c g F n p x w1 (H.out.below hbel1))
  clear hb1 hbel1
  go_wp2_with fail
  refine HC.out.mono ?_
  rintro en w2 ⟨⟨v, rfl⟩, ht2, hch2⟩
  have HCh : Hid (Chg F w w2) := (Chg.of_below HBel1.out).trans' hch2
  have HT2 : Hid (TAt w2 g (orNew F w) n (if 0 ≤ x then chP true x.toNat p else p)) := (ht2.mono (fun i hi => hi.elim .inl (fun h => .inr (Nat.le_trans HBel1.out.size h)))).congr (fun i _ => by split; exact setP_ch _ _ _; rfl)
  have hb2 := HB1.out.chg hch2 (fun e => by have := hF z e; have := hz.out; omega)
  clear b0 b1
  have b0 : w2.cell? ⟨z, 0, none⟩ = some (.int .i64 0) := hb2.cell 0
  have b1 : w2.cell? ⟨z, 1, none⟩ = some (.int .i64 x) := hb2.cell 1
  have HB2 := Lib.hid hb2
  have HR2 := Lib.hid ((HR.out.keep HBel1.out).chg hch2 HA.out)
  clear ht2 hch2 hb2
  go_upto_region 8 with (at_builtin; refine wpList_append_own_at _ rfl (.tmp 26) (.tmp 27) 28 rfl w2.heap.size 4 i0 (.bool false) 1 1 Try.underlying28 hi hz0 hz1 hz2 rfl (by decide) _ 0 [] rfl (World.ownsRow_made w2 #[] 0 (Nat.le_refl _) (by decide) rfl) ad n k (bools n p) rfl (by rw [length_bools, Nat.mul_one]) (fun j u hu => ?_) (bools_one _ _) (by unfold maxLen; omega) (by omega) (by simp) ?_; rotate_left; intro v3 w3 ho3 hg3 _ hat3; rw [Nat.zero_add, List.nil_append] at ho3; obtain ⟨A3, c3, rfl⟩ := own_form ho3; have HO3 := Lib.hid ho3; have HG3 := Lib.hid hg3; clear ho3 hg3 hat3)
  rotate_left
  · have hj : j < n := by
      rcases Nat.lt_or_ge j n with h | h
      · exact h
      · rw [List.getElem?_eq_none (by rw [length_bools]; exact h)] at hu; cases hu
    obtain ⟨ad', e, hlt', hc'⟩ := HR2.out.cell j hj
    cases e
    rw [bools_at _ hj] at hu
    rw [← hu, ← hc']
    exact (belAlloc w2 _).cell (by rw [block_add]; exact hlt')
  have HB3 : Hid (Below w2.heap.size w2 w3) := (belAlloc w2 _).grown HG3.out (by simp) (fun x hx => by cases hx; exact Nat.le_refl _)
  rcases own_int HO3.out with ⟨_, h0⟩ | ⟨d, cap, cs, e, hd, hblk, hcap, hm⟩
  · omega
  cases e
  have HBK := Lib.hid hblk
  have HD := Lib.hid hd
  have HCap := Lib.hid hcap
  have HM := Lib.hid hm
  clear b0 b1
  have hb3 := HB2.out.below HB3.out HB2.out.lt
  have b0 : w3.cell? ⟨z, 0, none⟩ = some (.int .i64 0) := hb3.cell 0
  have b1 : w3.cell? ⟨z, 1, none⟩ = some (.int .i64 x) := hb3.cell 1
  by_cases hx : 0 ≤ x ∧ x < n
  · obtain ⟨m, rfl⟩ : ∃ m : Nat, x = m := ⟨x.toNat, by omega⟩
    have hmn : m < n := by omega
    have hd0 : decide ((0 : Int) ≤ (m : Int)) = true := by simp
    have hd1 : decide ((m : Int) < (n : Int)) = true := by simp; omega
    have hlt2 : (m : Int) < (n : Int) := by omega
    have cm : w3.cell? ⟨d, m, none⟩ = some (.bool (p m)) := by
      rw [hblk.cell, List.getElem?_append_left (by rw [length_bools]; exact hmn), bools_at _ hmn]
    have fm := hblk.frozen m
    rw [if_pos (by omega), show ((m : Int)).toNat = m by omega] at HT2
    clear hblk hd hx hb3 hm hcap
    go_wp2
    go_ret2
    have hb4 := HBK.out.set_ m (.bool true)
    rw [List.set_append_left _ _ (by rw [length_bools]; exact hmn), bools_set] at hb4
    have ho4 : World.ownsRow (w3.setCell ⟨d, m, none⟩ (.bool true)) w2.heap.size 4 1 (.slice (some ⟨d, 0, none⟩) n c3) n (bools n (chP true m p)) := own_of_blk HD.out hb4 (length_bools _ _) HCap.out HM.out
    exact do_fin HT2.out HCh.out (HB3.out.setCell HD.out _) (own_readsB ho4) (fun ad e => by cases e; exact .inl HD.out) (fun _ => rfl)
  · have HP : Hid (∀ i, i < n → (if 0 ≤ x then chP true x.toNat p else p) i = p i) := by
      intro i hi
      split
      · unfold chP
        rw [if_neg (by omega)]
      · rfl
    have HT3 := Lib.hid (HT2.out.congr HP.out)
    clear hblk hd hb3 hm hcap
    by_cases hx0 : 0 ≤ x
    · have hd0 : decide ((0 : Int) ≤ x) = true := by simpa using hx0
      have hd1 : decide (x < (n : Int)) = false := by simp; omega
      clear hx
      go_wp2
      go_ret2
      exact do_fin HT3.out HCh.out HB3.out (own_readsB HO3.out) (fun ad e => by cases e; exact .inl HD.out) (fun _ => rfl)
    · have hd0 : decide ((0 : Int) ≤ x) = false := by simpa using hx0
      clear hx
      go_wp2
      go_ret2
      exact do_fin HT3.out HCh.out HB3.out (own_readsB HO3.out) (fun ad e => by cases e; exact .inl HD.out) (fun _ => rfl)
set_option maxRecDepth 100000 in
set_option maxHeartbeats 3200000 in
theorem do_clear (x : Int) (h : TAt w g F n p) (hF : ∀ i, F i → i < w.heap.size) (hr : ReadsB w A n k p) (hA : ∀ ad, A = some ad → ¬ F ad.block) :
    Calls Try.prog 9 #[.pointer (some ⟨g, 0, none⟩), .slice A n k, .agg (topV (1, x)).toArray] w (DoPost w g F n 1) := by
  obtain ⟨i0, hi, hz0, hz1, hz2⟩ := info_parts infoB
  have hn := h.cap
  have h1 := h.pos
  have H := Lib.hid h
  have HR := Lib.hid hr
  have HA := Lib.hid hA
  obtain ⟨ad, rfl, hadlt, _⟩ := hr.cell 0 h1
  clear h hr hA
  simp only [topV]
  go_enter Try.func9, Try.ntmps9
  go_upto_region 1 with (fail)
  obtain ⟨z, hz⟩ : ∃ z, Hid (w.heap.size = z) := ⟨_, rfl⟩
  rw [hz.out]
  refine name_wp (fun w1 => Blk w1 z 33 [.int .i64 1, .int .i64 x] ∧ Below w.heap.size w w1) ⟨by rw [← hz.out]; exact Blk.new _ _ _, belAlloc _ _⟩ ?_
  rintro w1 ⟨hb1, hbel1⟩
  have b0 : w1.cell? ⟨z, 0, none⟩ = some (.int .i64 1) := hb1.cell 0
  have b1 : w1.cell? ⟨z, 1, none⟩ = some (.int .i64 x) := hb1.cell 1
  have HB1 := Lib.hid hb1
  have HBel1 := Lib.hid hbel1
  have HC := Lib.hid (clear_c g F n p x w1 (H.out.below hbel1))
  clear hb1 hbel1
  go_wp2_with fail
  refine HC.out.mono ?_
  rintro en w2 ⟨⟨v, rfl⟩, ht2, hch2⟩
  have HCh : Hid (Chg F w w2) := (Chg.of_below HBel1.out).trans' hch2
  have HT2 : Hid (TAt w2 g (orNew F w) n (if 0 ≤ x then chP false x.toNat p else p)) := (ht2.mono (fun i hi => hi.elim .inl (fun h => .inr (Nat.le_trans HBel1.out.size h)))).congr (fun i _ => by split; exact clrP_ch _ _ _; rfl)
  have hb2 := HB1.out.chg hch2 (fun e => by have := hF z e; have := hz.out; omega)
  clear b0 b1
  have b0 : w2.cell? ⟨z, 0, none⟩ = some (.int .i64 1) := hb2.cell 0
  have b1 : w2.cell? ⟨z, 1, none⟩ = some (.int .i64 x) := hb2.cell 1
  have HB2 := Lib.hid hb2
  have HR2 := Lib.hid ((HR.out.keep HBel1.out).chg hch2 HA.out)
  clear ht2 hch2 hb2
  go_upto_region 8 with (at_builtin; refine wpList_append_own_at _ rfl (.tmp 26) (.tmp 27) 28 rfl w2.heap.size 4 i0 (.bool false) 1 1 Try.underlying28 hi hz0 hz1 hz2 rfl (by decide) _ 0 [] rfl (World.ownsRow_made w2 #[] 0 (Nat.le_refl _) (by decide) rfl) ad n k (bools n p) rfl (by rw [length_bools, Nat.mul_one]) (fun j u hu => ?_) (bools_one _ _) (by unfold maxLen; omega) (by omega) (by simp) ?_; rotate_left; intro v3 w3 ho3 hg3 _ hat3; rw [Nat.zero_add, List.nil_append] at ho3; obtain ⟨A3, c3, rfl⟩ := own_form ho3; have HO3 := Lib.hid ho3; have HG3 := Lib.hid hg3; clear ho3 hg3 hat3)
  rotate_left
  · have hj : j < n := by
      rcases Nat.lt_or_ge j n with h | h
      · exact h
      · rw [List.getElem?_eq_none (by rw [length_bools]; exact h)] at hu; cases hu
    obtain ⟨ad', e, hlt', hc'⟩ := HR2.out.cell j hj
    cases e
    rw [bools_at _ hj] at hu
    rw [← hu, ← hc']
    exact (belAlloc w2 _).cell (by rw [block_add]; exact hlt')
  have HB3 : Hid (Below w2.heap.size w2 w3) := (belAlloc w2 _).grown HG3.out (by simp) (fun x hx => by cases hx; exact Nat.le_refl _)
  rcases own_int HO3.out with ⟨_, h0⟩ | ⟨d, cap, cs, e, hd, hblk, hcap, hm⟩
  · omega
  cases e
  have HBK := Lib.hid hblk
  have HD := Lib.hid hd
  have HCap := Lib.hid hcap
  have HM := Lib.hid hm
  clear b0 b1
  have hb3 := HB2.out.below HB3.out HB2.out.lt
  have b0 : w3.cell? ⟨z, 0, none⟩ = some (.int .i64 1) := hb3.cell 0
  have b1 : w3.cell? ⟨z, 1, none⟩ = some (.int .i64 x) := hb3.cell 1
  by_cases hx : 0 ≤ x ∧ x < n
  · obtain ⟨m, rfl⟩ : ∃ m : Nat, x = m := ⟨x.toNat, by omega⟩
    have hmn : m < n := by omega
    have hd0 : decide ((0 : Int) ≤ (m : Int)) = true := by simp
    have hd1 : decide ((m : Int) < (n : Int)) = true := by simp; omega
    have hlt2 : (m : Int) < (n : Int) := by omega
    have cm : w3.cell? ⟨d, m, none⟩ = some (.bool (p m)) := by
      rw [hblk.cell, List.getElem?_append_left (by rw [length_bools]; exact hmn), bools_at _ hmn]
    have fm := hblk.frozen m
    rw [if_pos (by omega), show ((m : Int)).toNat = m by omega] at HT2
    clear hblk hd hx hb3 hm hcap
    go_wp2
    go_ret2
    have hb4 := HBK.out.set_ m (.bool false)
    rw [List.set_append_left _ _ (by rw [length_bools]; exact hmn), bools_set] at hb4
    have ho4 : World.ownsRow (w3.setCell ⟨d, m, none⟩ (.bool false)) w2.heap.size 4 1 (.slice (some ⟨d, 0, none⟩) n c3) n (bools n (chP false m p)) := own_of_blk HD.out hb4 (length_bools _ _) HCap.out HM.out
    exact do_fin HT2.out HCh.out (HB3.out.setCell HD.out _) (own_readsB ho4) (fun ad e => by cases e; exact .inl HD.out) (fun _ => rfl)
  · have HP : Hid (∀ i, i < n → (if 0 ≤ x then chP false x.toNat p else p) i = p i) := by
      intro i hi
      split
      · unfold chP
        rw [if_neg (by omega)]
      · rfl
    have HT3 := Lib.hid (HT2.out.congr HP.out)
    clear hblk hd hb3 hm hcap
    by_cases hx0 : 0 ≤ x
    · have hd0 : decide ((0 : Int) ≤ x) = true := by simpa using hx0
      have hd1 : decide (x < (n : Int)) = false := by simp; omega
      clear hx
      go_wp2
      go_ret2
      exact do_fin HT3.out HCh.out HB3.out (own_readsB HO3.out) (fun ad e => by cases e; exact .inl HD.out) (fun _ => rfl)
    · have hd0 : decide ((0 : Int) ≤ x) = false := by simpa using hx0
      clear hx
      go_wp2
      go_ret2
      exact do_fin HT3.out HCh.out HB3.out (own_readsB HO3.out) (fun ad e => by cases e; exact .inl HD.out) (fun _ => rfl)
set_option maxRecDepth 100000 in
set_option maxHeartbeats 3200000 in
theorem do_none (x : Int) (h : TAt w g F n p) (hr : ReadsB w A n k p) :
    Calls Try.prog 9 #[.pointer (some ⟨g, 0, none⟩), .slice A n k, .agg (topV (2, x)).toArray] w (DoPost w g F n 2) := by
  obtain ⟨i0, hi, hz0, hz1, hz2⟩ := info_parts infoB
  have hn := h.cap
  have h1 := h.pos
  have H := Lib.hid h
  obtain ⟨ad, rfl, hadlt, _⟩ := hr.cell 0 h1
  clear h hr
  simp only [topV]
  go_enter Try.func9, Try.ntmps9
  go_upto_region 1 with (fail)
  obtain ⟨z, hz⟩ : ∃ z, Hid (w.heap.size = z) := ⟨_, rfl⟩
  rw [hz.out]
  refine name_wp (fun w1 => Blk w1 z 33 [.int .i64 2, .int .i64 x] ∧ Below w.heap.size w w1) ⟨by rw [← hz.out]; exact Blk.new _ _ _, belAlloc _ _⟩ ?_
  rintro w1 ⟨hb1, hbel1⟩
  have b0 : w1.cell? ⟨z, 0, none⟩ = some (.int .i64 2) := hb1.cell 0
  have HBel1 := Lib.hid hbel1
  have HC := Lib.hid (none_c g F n p w1 (H.out.below hbel1))
  clear hb1 hbel1
  go_wp2_with fail
  refine HC.out.mono ?_
  rintro en w2 ⟨⟨v, rfl⟩, ht2, hch2⟩
  have HCh : Hid (Chg F w w2) := (Chg.of_below HBel1.out).trans' hch2
  have HT2 : Hid (TAt w2 g (orNew F w) n (fun _ => false)) := ht2.mono (fun i hi => hi.elim .inl (fun h => .inr (Nat.le_trans HBel1.out.size h)))
  clear b0 ht2 hch2
  obtain ⟨w3, hrun, hown, hgr⟩ := run_makeSlice_full (P := Try.prog) w2 w2.heap.size 28 4 i0 (.bool false) 1 Try.underlying28 hi hz0 hz1 .i64 .i64 n (by omega) (by rw [hz2]; omega) (by unfold maxLen; omega) (Nat.le_refl _)
  rw [made_bools] at hown
  have HO := Lib.hid hown
  have HB : Hid (Below w2.heap.size w2 w3) := (Below.refl _ w2).grown hgr (Nat.le_refl _) (fun x hx => by cases hx)
  have HS := Lib.hid (show (w2.heap.size : Nat) ≤ (⟨w2.heap.size, 0, none⟩ : Addr).block from Nat.le_refl _)
  clear hown hgr
  go_wp2
  go_ret2
  exact do_fin HT2.out HCh.out HB.out (own_readsB HO.out) (fun ad e => by cases e; exact .inl (Nat.le_refl _)) (fun h => absurd h (by decide))
set_option maxRecDepth 100000 in
set_option maxHeartbeats 3200000 in
theorem do_size (kd x : Int) (h : TAt w g F n p) (hF : ∀ i, F i → i < w.heap.size) (hr : ReadsB w A n k p) (hA : ∀ ad, A = some ad → ¬ F ad.block) (k0 : kd ≠ 0) (k1 : kd ≠ 1) (k2 : kd ≠ 2) :
    Calls Try.prog 9 #[.pointer (some ⟨g, 0, none⟩), .slice A n k, .agg (topV (kd, x)).toArray] w (DoPost w g F n kd) := by
  have hn := h.cap
  have h1 := h.pos
  have H := Lib.hid h
  have HR := Lib.hid hr
  have HA := Lib.hid hA
  have t0 : (kd == 0) = false := by simpa using k0
  have t1 : (kd == 1) = false := by simpa using k1
  have t2 : (kd == 2) = false := by simpa using k2
  have HK : Hid ((kd = 0 ∨ kd = 1) → ∀ q : Nat, q = n) := fun h => by omega
  clear h hr hA k0 k1 k2
  simp only [topV]
  go_enter Try.func9, Try.ntmps9
  go_upto_region 1 with (fail)
  obtain ⟨z, hz⟩ : ∃ z, Hid (w.heap.size = z) := ⟨_, rfl⟩
  rw [hz.out]
  refine name_wp (fun w1 => Blk w1 z 33 [.int .i64 kd, .int .i64 x] ∧ Below w.heap.size w w1) ⟨by rw [← hz.out]; exact Blk.new _ _ _, belAlloc _ _⟩ ?_
  rintro w1 ⟨hb1, hbel1⟩
  have b0 : w1.cell? ⟨z, 0, none⟩ = some (.int .i64 kd) := hb1.cell 0
  have b1 : w1.cell? ⟨z, 1, none⟩ = some (.int .i64 x) := hb1.cell 1
  have HB1 := Lib.hid hb1
  have HBel1 := Lib.hid hbel1
  have HC := Lib.hid (resize_c g F n p x w1 (H.out.below hbel1) (fun i hi => Nat.lt_of_lt_of_le (hF i hi) hbel1.size))
  clear hb1 hbel1
  go_wp2_with fail
  refine HC.out.mono ?_
  rintro en w2 (⟨x1, x2, rfl, ht2, hch2⟩ | ⟨hx, rfl, ht2, hch2⟩)
  · obtain ⟨m, rfl⟩ : ∃ m : Nat, x = m := ⟨x.toNat, by omega⟩
    rw [show ((m : Int)).toNat = m by omega] at ht2
    have HCh : Hid (Chg F w w2) := (Chg.of_below HBel1.out).trans' hch2
    have HT2 := Lib.hid (ht2.mono (G := orNew F w) (fun i hi => hi.elim .inl (fun h => .inr (Nat.le_trans HBel1.out.size h))))
    have hb2 := HB1.out.chg hch2 (fun e => by have := hF z e; have := hz.out; omega)
    clear b0 b1
    have b0 : w2.cell? ⟨z, 0, none⟩ = some (.int .i64 kd) := hb2.cell 0
    have b1 : w2.cell? ⟨z, 1, none⟩ = some (.int .i64 (m : Int)) := hb2.cell 1
    have HR2 := Lib.hid ((HR.out.keep HBel1.out).chg hch2 HA.out)
    have d1 : decide ((m : Int) < 1) = false := by simp; omega
    have d2 : decide ((132 : Int) < (m : Int)) = false := by simp; omega
    have HQ := Lib.hid (refResize_c A n k p m w2 HR2.out hn (by omega))
    clear ht2 hch2 hb2 x1 x2
    go_wp2_with fail
    refine HQ.out.mono ?_
    rintro en w3 ⟨v, rfl, hm3⟩
    obtain ⟨A3, c3, rfl⟩ := own_form hm3.1
    have HM := Lib.hid hm3
    clear hm3
    go_wp2
    go_ret2
    exact do_fin HT2.out HCh.out HM.out.2 (own_readsB HM.out.1) (fun ad e => .inl (own_base HM.out.1 _ (by rw [e]; rfl))) (fun h => HK.out h _)
  · have HCh : Hid (Chg F w w2) := (Chg.of_below HBel1.out).trans' hch2
    have HT2 := Lib.hid (ht2.mono (G := orNew F w) (fun i hi => hi.elim .inl (fun h => .inr (Nat.le_trans HBel1.out.size h))))
    have hb2 := HB1.out.chg hch2 (fun e => by have := hF z e; have := hz.out; omega)
    clear b0 b1
    have b0 : w2.cell? ⟨z, 0, none⟩ = some (.int .i64 kd) := hb2.cell 0
    have b1 : w2.cell? ⟨z, 1, none⟩ = some (.int .i64 x) := hb2.cell 1
    have HR2 := Lib.hid ((HR.out.keep HBel1.out).chg hch2 HA.out)
    have hlt : ∀ ad, A = some ad → ad.block < w.heap.size := by
      intro ad e
      obtain ⟨ad', e', hl, _⟩ := HR.out.cell 0 h1
      rw [e] at e'
      cases e'
      exact hl
    have HL := Lib.hid hlt
    have HX := Lib.hid hx
    clear ht2 hch2 hb2 hlt hx
    have fin : DoPost w g F n kd (.returned (.tuple #[.slice A n k, .bool true])) w2 :=
      do_fin HT2.out HCh.out (Below.refl _ _) HR2.out (fun ad e => .inr (fun h => h.elim (HA.out ad e) (fun h => absurd (HL.out ad e) (by omega)))) (fun _ => rfl)
    have HF := Lib.hid fin
    clear fin
    by_cases hx1 : x < 1
    · have d1 : decide (x < 1) = true := by simpa using hx1
      go_wp2
      go_ret2
      exact HF.out
    · have d1 : decide (x < 1) = false := by simpa using hx1
      have d2 : decide ((132 : Int) < x) = true := by have := HX.out; simp; omega
      go_wp2
      go_ret2
      exact HF.out
theorem do_c (kd x : Int) (h : TAt w g F n p) (hF : ∀ i, F i → i < w.heap.size) (hr : ReadsB w A n k p) (hA : ∀ ad, A = some ad → ¬ F ad.block) :
    Calls Try.prog 9 #[.pointer (some ⟨g, 0, none⟩), .slice A n k, .agg (topV (kd, x)).toArray] w (DoPost w g F n kd) := by
  by_cases k0 : kd = 0
  · subst k0; exact do_set x h hF hr hA
  by_cases k1 : kd = 1
  · subst k1; exact do_clear x h hF hr hA
  by_cases k2 : kd = 2
  · subst k2; exact do_none x h hr
  exact do_size kd x h hF hr hA k0 k1 k2
end
end Go.Proofs.Ytdjpeopjfhoglaa
