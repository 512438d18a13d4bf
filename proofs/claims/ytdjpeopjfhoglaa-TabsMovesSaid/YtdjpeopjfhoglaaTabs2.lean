/- What the methods of package tabs do, for every argument, as walks through the translated text. Conditions: the Stops lies in memory of its own. -/
import Derived.Test.YtdjpeopjfhoglaaTabs1
import Derived.Test.YtdjpeopjfhoglaaCut
import Derived.Lib.MinMax
namespace Go.Proofs.Ytdjpeopjfhoglaa
open Go.ChangeShapes Go.WideShapes Go.RowKit
/-- At block g lie the stops of a row of n columns at which p holds; their memory lies in F. -/
structure TAt (w : World) (g : Nat) (F : Nat → Prop) (n : Nat) (p : Nat → Bool) : Prop where
  ex : ∃ v, Blk w g 44 [.int .i64 (n : Int), v] ∧ OwnS w 0 v n p ∧ (∀ h, v.ownBlock = some h → F h ∧ h ≠ g)
  mem : F g
  pos : 1 ≤ n
  cap : n ≤ 132
section
variable {w w' : World} {g n : Nat} {F G : Nat → Prop} {p q : Nat → Bool}
theorem TAt.chg (h : TAt w g F n p) (k : Chg G w w') (hd : ∀ i, F i → ¬ G i) : TAt w' g F n p := by
  obtain ⟨v, hb, ho, hv⟩ := h.ex
  exact ⟨⟨v, hb.chg k (hd g h.mem), own_chg ho k (fun i hi => hd i (hv i hi).1), hv⟩, h.mem, h.pos, h.cap⟩
theorem TAt.mono (h : TAt w g F n p) (hG : ∀ i, F i → G i) : TAt w g G n p := by
  obtain ⟨v, hb, ho, hv⟩ := h.ex
  exact ⟨⟨v, hb, ho, fun i hi => ⟨hG i (hv i hi).1, (hv i hi).2⟩⟩, hG g h.mem, h.pos, h.cap⟩
theorem TAt.below (h : TAt w g F n p) (k : Below w.heap.size w w') : TAt w' g F n p := h.chg (G := fun _ => False) (Chg.of_below k) (fun _ _ h => h)
theorem ownS_heap {base : Nat} {v : Value} (h : OwnS w base v n p) (e : w'.heap = w.heap) : OwnS w' base v n p := by
  unfold OwnS World.ownsRow at *
  rw [e]
  exact h
theorem TAt.of_heap (h : TAt w g F n p) (e : w'.heap = w.heap) : TAt w' g F n p := by
  obtain ⟨v, hb, ho, hv⟩ := h.ex
  exact ⟨⟨v, hb.of_heap e, ownS_heap ho e, hv⟩, h.mem, h.pos, h.cap⟩
theorem TAt.congr (h : TAt w g F n p) (e : ∀ i, i < n → p i = q i) : TAt w g F n q := by
  obtain ⟨v, hb, ho, hv⟩ := h.ex
  refine ⟨⟨v, hb, ?_, hv⟩, h.mem, h.pos, h.cap⟩
  unfold OwnS at *
  rw [← stp_congr e]
  exact ho
theorem TAt.lt (h : TAt w g F n p) : g < w.heap.size := by
  obtain ⟨v, hb, _, _⟩ := h.ex
  exact hb.lt
theorem TAt.clip (h : TAt w g F n p) : TAt w g (fun i => F i ∧ i < w.heap.size) n p := by
  obtain ⟨v, hb, ho, hv⟩ := h.ex
  exact ⟨⟨v, hb, ho, fun i hi => ⟨⟨(hv i hi).1, own_lt ho i hi⟩, (hv i hi).2⟩⟩, ⟨h.mem, hb.lt⟩, h.pos, h.cap⟩
end
/-- It has no result that counts; the stops are those of p in a row of n, and nothing but their memory has turned. -/
def TPost (w : World) (g : Nat) (F : Nat → Prop) (n : Nat) (p : Nat → Bool) (en : Ending) (w' : World) : Prop := (∃ v, en = .returned v) ∧ TAt w' g (orNew F w) n p ∧ Chg F w w'
theorem inNewT {F : Nat → Prop} {w : World} : ∀ i, F i → orNew F w i := fun _ h => .inl h
/-- A column, clamped to those that there are. -/
def cl (n : Nat) (c : Int) : Nat := min c.toNat (n - 1)
theorem cl_lt {n : Nat} (c : Int) (h : 1 ≤ n) : cl n c < n := by unfold cl; omega
theorem cl_eq {n : Nat} (c : Int) (h : 1 ≤ n) : min (max c 0) ((n : Int) - 1) = (cl n c : Int) := by unfold cl; omega
theorem existing_c (g : Nat) (F : Nat → Prop) (n : Nat) (p : Nat → Bool) (c : Int) (w : World) (h : TAt w g F n p) :
    Calls Try.prog 21 #[.pointer (some ⟨g, 0, none⟩), .int .i64 c] w fun en w' => en = .returned (.int .i64 (cl n c : Int)) ∧ w = w' := by
  obtain ⟨v, hblk, _, _⟩ := h.ex
  have c0 : w.cell? ⟨g, 0, none⟩ = some (.int .i64 (n : Int)) := hblk.cell 0
  have h1 := h.pos
  have h2 := h.cap
  have HE := Lib.hid (cl_eq c h1)
  clear hblk h
  go_enter Try.func21, Try.ntmps21
  go_wp2
  go_ret
  exact ⟨congrArg (fun z => Ending.returned (.int .i64 z)) HE.out, rfl⟩
theorem none_c (g : Nat) (F : Nat → Prop) (n : Nat) (p : Nat → Bool) (w : World) (h : TAt w g F n p) :
    Calls Try.prog 18 #[.pointer (some ⟨g, 0, none⟩)] w (TPost w g F n (fun _ => false)) := by
  obtain ⟨v, hblk, hown, hv⟩ := h.ex
  have c1 : w.cell? ⟨g, 1, none⟩ = some v := hblk.cell 1
  have f1 := hblk.frozen 1
  obtain ⟨A, c, rfl⟩ := own_form hown
  have hm := h.mem
  have h1 := h.pos
  have h2 := h.cap
  have HB := Lib.hid hblk
  clear hblk hown hv h
  go_enter Try.func18, Try.ntmps18
  go_wp2
  go_end0
  refine ⟨⟨_, rfl⟩, ⟨⟨.slice none 0 0, HB.out.set_ 1 _, ?_, fun i hi => by cases hi⟩, .inl hm, h1, h2⟩, ?_⟩
  · unfold OwnS
    rw [stp_none]
    exact World.ownsRow_nil _ _ _ _
  · exact Chg.of_only (row := some g) (only_setCell (World.grownBy.refl _ _) rfl _) (fun i hi => by cases hi; exact hm)
theorem list_c (g : Nat) (F : Nat → Prop) (n : Nat) (p : Nat → Bool) (w : World) (h : TAt w g F n p) :
    Calls Try.prog 10 #[.pointer (some ⟨g, 0, none⟩)] w (RowPost w 3 (stp n p).length (ints .i64 (stp n p))) := by
  obtain ⟨v, hblk, hown, hv⟩ := h.ex
  have c1 : w.cell? ⟨g, 1, none⟩ = some v := hblk.cell 1
  have HC := Lib.hid (clone_c v 0 n p w hown h.cap)
  obtain ⟨A, c, rfl⟩ := own_form hown
  clear hblk hown hv h
  go_enter Try.func10, Try.ntmps10
  go_wp2_with fail
  refine HC.out.mono ?_
  rintro en w' ⟨v', rfl, hmine⟩
  have HM := Lib.hid hmine
  obtain ⟨A', c', rfl⟩ := own_form hmine.1
  clear hmine
  go_wp2
  go_ret
  exact ⟨_, rfl, HM.out⟩
set_option maxHeartbeats 1600000 in
theorem clear_c (g : Nat) (F : Nat → Prop) (n : Nat) (p : Nat → Bool) (c : Int) (w : World) (h : TAt w g F n p) :
    Calls Try.prog 17 #[.pointer (some ⟨g, 0, none⟩), .int .i64 c] w (TPost w g F n (if 0 ≤ c then clrP c.toNat p else p)) := by
  obtain ⟨v, hblk, hown, hv⟩ := h.ex
  have hn := h.cap
  have h1 := h.pos
  have hm := h.mem
  have HS := Lib.hid (search_c v 0 n p c w hown hn)
  have HO := Lib.hid hown
  obtain ⟨A, k, rfl⟩ := own_form hown
  have HB := Lib.hid hblk
  have HV := Lib.hid hv
  have c1 : w.cell? ⟨g, 1, none⟩ = _ := hblk.cell 1
  have H := Lib.hid h
  simp only [List.getElem?_cons_zero, List.getElem?_cons_succ] at c1
  clear hblk hown hv h
  cases hF : (decide (0 ≤ c ∧ c < n) && p c.toNat) with
  | false =>
    rw [hF] at HS
    have HE : Hid (∀ i, i < n → p i = (if 0 ≤ c then clrP c.toNat p else p) i) := by
      intro i hi
      split
      · unfold clrP
        by_cases e : i = c.toNat
        · subst e
          rw [decide_eq_true ⟨by assumption, by omega⟩, Bool.true_and] at hF
          rw [hF]; rfl
        · simp [e]
      · rfl
    clear hF
    generalize (if 0 ≤ c then clrP c.toNat p else p) = P2 at HE ⊢
    go_enter Try.func17, Try.ntmps17
    go_wp2_with fail
    refine HS.out.mono ?_
    rintro en w' ⟨rfl, q, rfl⟩
    go_wp2
    go_end0
    exact ⟨⟨_, rfl⟩, ((H.out.of_heap (w' := w.drewN q) rfl).mono inNewT).congr HE.out, Chg.of_below (belowDrewN (Below.refl _ _) q)⟩
  | true =>
    rw [hF] at HS
    obtain ⟨hc, hp⟩ := Bool.and_eq_true_iff.1 hF
    rw [decide_eq_true_eq] at hc
    obtain ⟨m, rfl⟩ : ∃ m : Nat, c = m := ⟨c.toNat, by omega⟩
    have em : ((m : Int)).toNat = m := by omega
    have hmn : m < n := by omega
    rw [em] at HS hp
    rw [if_pos (by omega), em]
    rw [Nat.min_eq_left (by omega)] at HS
    have hlen : (stp m p).length ≤ m := stp_length m p
    have HD := Lib.hid (fun W (e : W.heap = w.heap) => delete_c (.slice A (stp n p).length k) 0 n m p W (ownS_heap HO.out e) hn hmn hp)
    obtain ⟨I, hI⟩ : ∃ I, Hid ((stp m p).length = I) := ⟨_, rfl⟩
    rw [hI.out] at hlen HD HS
    have EI : Hid (((I : Int) + 1) = ((I + 1 : Nat) : Int)) := Lib.hid (by omega)
    clear hF hc hp
    go_enter Try.func17, Try.ntmps17
    go_wp2_with fail
    refine HS.out.mono ?_
    rintro en w' ⟨rfl, q, rfl⟩
    go_wp2_with fail
    rw [EI.out]
    refine (HD.out (w.drewN q) rfl).mono ?_
    rintro en w1 ⟨v', rfl, ho1, hg1, hv1⟩
    obtain ⟨A', k', rfl⟩ := own_form ho1
    have hb1 := (HB.out.drewN q).grown hg1 (fun e => (HV.out g e.symm).2 rfl)
    have d1 : w1.cell? ⟨g, 1, none⟩ = _ := hb1.cell 1
    have f1 := hb1.frozen 1
    simp only [List.getElem?_cons_zero, List.getElem?_cons_succ] at d1
    have HB1 := Lib.hid hb1
    have HO1 := Lib.hid ho1
    have HG1 := Lib.hid hg1
    have HV1 := Lib.hid hv1
    clear hb1 ho1 hg1 hv1
    go_wp2
    go_end0
    have hne : ∀ i, (Value.slice A' (stp n (clrP m p)).length k').ownBlock = some i → F i ∧ i ≠ g := by
      intro i hi
      rw [HV1.out] at hi
      exact HV.out i hi
    have hgr : w.grownBy w1 (Value.slice A (stp n p).length k).ownBlock := only_trans (only_drewN (World.grownBy.refl _ _) q) HG1.out
    refine ⟨⟨_, rfl⟩, ⟨⟨_, HB1.out.set_ 1 _, ?_, fun i hi => ⟨.inl (hne i hi).1, (hne i hi).2⟩⟩, .inl hm, h1, hn⟩, ?_⟩
    · exact own_keep HO1.out (only_setCell (World.grownBy.refl _ _) (p := ⟨g, 1, none⟩) rfl _) (fun i hi e => by cases e; exact (hne g hi).2 rfl)
    · exact (Chg.of_only hgr (fun i hi => (HV.out i hi).1)).trans' (Chg.of_only (row := some g) (only_setCell (World.grownBy.refl _ _) rfl _) (fun i hi => by cases hi; exact hm))
set_option maxHeartbeats 1600000 in
theorem set_c (g : Nat) (F : Nat → Prop) (n : Nat) (p : Nat → Bool) (c : Int) (w : World) (h : TAt w g F n p) :
    Calls Try.prog 15 #[.pointer (some ⟨g, 0, none⟩), .int .i64 c] w (TPost w g F n (if 0 ≤ c then setP c.toNat p else p)) := by
  obtain ⟨v, hblk, hown, hv⟩ := h.ex
  have hn := h.cap
  have h1 := h.pos
  have hm := h.mem
  have HS := Lib.hid (search_c v 0 n p c w hown hn)
  have HO := Lib.hid hown
  obtain ⟨A, k, rfl⟩ := own_form hown
  have HB := Lib.hid hblk
  have HV := Lib.hid hv
  have c0 : w.cell? ⟨g, 0, none⟩ = _ := hblk.cell 0
  have c1 : w.cell? ⟨g, 1, none⟩ = _ := hblk.cell 1
  have H := Lib.hid h
  simp only [List.getElem?_cons_zero, List.getElem?_cons_succ] at c0 c1
  clear hblk hown hv h
  by_cases hI : 0 ≤ c ∧ c < n ∧ p c.toNat = false
  · obtain ⟨hc0, hc1, hp⟩ := hI
    obtain ⟨m, rfl⟩ : ∃ m : Nat, c = m := ⟨c.toNat, by omega⟩
    have em : ((m : Int)).toNat = m := by omega
    have hmn : m < n := by omega
    rw [em] at HS hp
    rw [if_pos (by omega), em]
    rw [hp, Bool.and_false, Nat.min_eq_left (by omega)] at HS
    have HD := Lib.hid (fun W b tb h1 h2 h3 => insert_c (.slice A (stp n p).length k) 0 n m b p tb W h1 (Nat.zero_le _) hn hmn hp h2 h3)
    obtain ⟨I, hI⟩ : ∃ I, Hid ((stp m p).length = I) := ⟨_, rfl⟩
    rw [hI.out] at HD HS
    have hd0 : decide ((0 : Int) ≤ (m : Int)) = true := by simp
    have hd1 : decide ((m : Int) < (n : Int)) = true := by simp; omega
    clear hp
    go_enter Try.func15, Try.ntmps15
    go_wp2_with fail
    refine HS.out.mono ?_
    rintro en w' ⟨rfl, q, rfl⟩
    go_wp2_with fail
    refine name_Calls (fun w5 => Blk w5 w.heap.size 3 [.int .i64 (m : Int)] ∧ Below w.heap.size w w5) ⟨Blk.new (w.drewN q) _ _, (belowDrewN (Below.refl _ w) q).alloc (Nat.le_refl _) _⟩ ?_
    rintro w5 ⟨hb5, hbel5⟩
    have HB5 := Lib.hid (HB.out.below hbel5 HB.out.lt)
    have HO5 : Hid (OwnS w5 0 (Value.slice A (stp n p).length k) n p) := own_chg HO.out (F := fun _ => False) (Chg.of_below hbel5) (fun _ _ h => h)
    have HBel5 := Lib.hid hbel5
    refine (HD.out w5 w.heap.size 3 HO5.out hb5 (fun e => by have := own_lt HO.out _ e; omega)).mono ?_
    rintro en w1 ⟨v', rfl, ho1, hg1, hv1⟩
    obtain ⟨A', k', rfl⟩ := own_form ho1
    have hb1 := HB5.out.grown hg1 (fun e => (HV.out g e.symm).2 rfl)
    have d1 : w1.cell? ⟨g, 1, none⟩ = _ := hb1.cell 1
    have f1 := hb1.frozen 1
    simp only [List.getElem?_cons_zero, List.getElem?_cons_succ] at d1
    have HB1 := Lib.hid hb1
    have HO1 := Lib.hid ho1
    have HG1 := Lib.hid hg1
    have HV1 := Lib.hid hv1
    clear hb1 ho1 hg1 hv1 hb5 hbel5
    go_wp2
    go_end0
    have hglt := HB.out.lt
    have hsz := HBel5.out.size
    have hne : ∀ i, (Value.slice A' (stp n (setP m p)).length k').ownBlock = some i → orNew F w i ∧ i ≠ g := by
      intro i hi
      rcases HV1.out with e | e
      · rw [e] at hi
        exact ⟨.inl (HV.out i hi).1, (HV.out i hi).2⟩
      · rw [e] at hi
        cases hi
        exact ⟨.inr hsz, by omega⟩
    refine ⟨⟨_, rfl⟩, ⟨⟨_, HB1.out.set_ 1 _, ?_, hne⟩, .inl hm, h1, hn⟩, ?_⟩
    · exact own_keep HO1.out (only_setCell (World.grownBy.refl _ _) (p := ⟨g, 1, none⟩) rfl _) (fun i hi e => by cases e; exact (hne g hi).2 rfl)
    · have k1 : Chg F w w1 := (Chg.of_below HBel5.out).trans' (Chg.of_only HG1.out (fun i hi => (HV.out i hi).1))
      exact k1.trans' (Chg.of_only (row := some g) (only_setCell (World.grownBy.refl _ _) rfl _) (fun i hi => by cases hi; exact hm))
  · have HE : Hid (∀ i, i < n → p i = (if 0 ≤ c then setP c.toNat p else p) i) := by
      intro i hi
      split
      · unfold setP
        by_cases e : i = c.toNat
        · subst e
          cases hp : p c.toNat with
          | true => rfl
          | false => exact absurd ⟨by assumption, by omega, hp⟩ hI
        · simp [e]
      · rfl
    generalize (if 0 ≤ c then setP c.toNat p else p) = P2 at HE ⊢
    have hfin : ∀ q, TPost w g F n P2 (.returned (.tuple #[])) (w.drewN q) := fun q => ⟨⟨_, rfl⟩, ((H.out.of_heap (w' := w.drewN q) rfl).mono inNewT).congr HE.out, Chg.of_below (belowDrewN (Below.refl _ _) q)⟩
    have HFin := Lib.hid hfin
    clear hfin
    by_cases hc0 : 0 ≤ c
    · by_cases hc1 : c < n
      · have hp : p c.toNat = true := by
          cases hp : p c.toNat with
          | true => rfl
          | false => exact absurd ⟨hc0, hc1, hp⟩ hI
        rw [hp, decide_eq_true ⟨hc0, hc1⟩] at HS
        clear hI hp
        go_enter Try.func15, Try.ntmps15
        go_wp2_with fail
        refine HS.out.mono ?_
        rintro en w' ⟨rfl, q, rfl⟩
        go_wp2
        go_end0
        exact HFin.out q
      · rw [decide_eq_false (by omega), Bool.false_and] at HS
        clear hI
        have hd0 : decide ((0 : Int) ≤ c) = true := by simpa using hc0
        have hd1 : decide (c < (n : Int)) = false := by simpa using hc1
        go_enter Try.func15, Try.ntmps15
        go_wp2_with fail
        refine HS.out.mono ?_
        rintro en w' ⟨rfl, q, rfl⟩
        go_wp2
        go_end0
        exact HFin.out q
    · rw [decide_eq_false (by omega), Bool.false_and] at HS
      clear hI
      have hd0 : decide ((0 : Int) ≤ c) = false := by simpa using hc0
      go_enter Try.func15, Try.ntmps15
      go_wp2_with fail
      refine HS.out.mono ?_
      rintro en w' ⟨rfl, q, rfl⟩
      go_wp2
      go_end0
      exact HFin.out q
end Go.Proofs.Ytdjpeopjfhoglaa
