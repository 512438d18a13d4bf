/- The walk through PenCodes: for every two pens and slice of numbers it returns true and leaves old memory as it was. Conditions: the two tables of the attributes hold what the program lays there. -/
import Derived.Test.YtajllkfoaigdlaaDoorAwake12
import Derived.Test.YtajllkfoaigdlaaDoorOpen9
import Derived.Test.YtajllkfoaigdlaaDoorRely2
import Derived.Test.YtajllkfoaigdlaaDoorPen3
import Derived.Test.YtajllkfoaigdlaaDoorPenR3
namespace Go.Proofs.YtajllkfoaigdlaaDoor.penCodes
open Go.ChangeShapes Go.WideShapes Go.RowKit
theorem stable_rowI {k : IntKind} {n : Nat} {l : List Int} : Stable (fun v W => ∃ A c, v = .slice A n c ∧ ReadsI k W A n c l) := by
  rintro v w w' ⟨A, c, e, h⟩ hb
  exact ⟨A, c, e, h.keep hb⟩
def C5 (u k m N : Nat) (L : List Int) : List (Value → World → Prop) := [fun v _ => v = .agg #[.int .i64 (u : Int), .int .i64 (k : Int), .int .i64 (m : Int)],
  (fun v W => ∃ A c, v = .slice A N c ∧ ReadsI .i64 W A N c (L)),
  fun v _ => v = .agg #[.int .i64 (u : Int), .int .i64 (k : Int), .int .i64 (m : Int)],
  (fun v W => ∃ A c, v = .slice A N c ∧ ReadsI .i64 W A N c (L)),
  (fun v W => ∃ A c, v = .slice A N c ∧ ReadsI .i64 W A N c (L)),
  (fun v W => ∃ A c, v = .slice A N c ∧ ReadsI .i64 W A N c (L))]
theorem C5_stable (u k m N : Nat) (L : List Int) : ∀ p ∈ C5 u k m N L, Stable p := (stable_cons (stable_eq _) (stable_cons stable_rowI (stable_cons (stable_eq _) (stable_cons stable_rowI (stable_cons stable_rowI (stable_cons stable_rowI stable_nil))))))
def C13 (a b d u k m s t q N c7 n c : Nat) (A7 A : Option Addr) : List (Value → World → Prop) := [fun v _ => v = .agg #[.int .i64 (s : Int), .int .i64 (t : Int), .int .i64 (q : Int)],
  fun v _ => v = .slice A7 N c7,
  fun v _ => v = .agg #[.int .i64 (u : Int), .int .i64 (k : Int), .int .i64 (m : Int)],
  fun v _ => v = .agg #[.int .i64 (u : Int), .int .i64 (k : Int), .int .i64 (m : Int)],
  fun v _ => v = .bool true,
  fun v _ => v = .bool true,
  fun v _ => v = .agg #[.int .i64 (s : Int), .int .i64 (t : Int), .int .i64 (q : Int)],
  fun v _ => v = .slice A n c,
  fun v _ => v = .agg #[.int .i64 (a : Int), .int .i64 (b : Int), .int .i64 (d : Int)],
  fun v _ => v = .slice A7 N c7,
  fun v _ => v = .agg #[.int .i64 (u : Int), .int .i64 (k : Int), .int .i64 (m : Int)],
  fun v _ => v = .agg #[.int .i64 (u : Int), .int .i64 (k : Int), .int .i64 (m : Int)],
  fun v _ => v = .bool true,
  fun v _ => v = .bool true,
  fun v _ => v = .bool true]
theorem C13_stable (a b d u k m s t q N c7 n c : Nat) (A7 A : Option Addr) : ∀ p ∈ C13 a b d u k m s t q N c7 n c A7 A, Stable p := (stable_cons (stable_eq _) (stable_cons (stable_eq _) (stable_cons (stable_eq _) (stable_cons (stable_eq _) (stable_cons (stable_eq _) (stable_cons (stable_eq _) (stable_cons (stable_eq _) (stable_cons (stable_eq _) (stable_cons (stable_eq _) (stable_cons (stable_eq _) (stable_cons (stable_eq _) (stable_cons (stable_eq _) (stable_cons (stable_eq _) (stable_cons (stable_eq _) (stable_cons (stable_eq _) stable_nil)))))))))))))))
/-- What the loop keeps. -/
structure PkSt (w wr : World) (z : Nat) (p o : PenN) (A7 A8 A : Option Addr) (N c7 c8 n c : Nat) (L l : List Int) : Prop where
  box : Blk wr z 23 (penW p)
  oth : Blk wr (z + 1) 23 (penW o)
  l7 : ReadsI .i64 wr A7 N c7 L
  l8 : ReadsI .i64 wr A8 N c8 L
  row : ReadsI .i64 wr A n c l
  tab : PT wr
  bel : Below w.heap.size w wr
theorem PkSt.of_heap {w wr : World} {z : Nat} {p o : PenN} {A7 A8 A : Option Addr} {N c7 c8 n c : Nat} {L l : List Int} (h : PkSt w wr z p o A7 A8 A N c7 c8 n c L l) (q : Nat) : PkSt w (wr.drewN q) z p o A7 A8 A N c7 c8 n c L l :=
  ⟨h.box.drewN q, h.oth.drewN q, h.l7.of_heap rfl, h.l8.of_heap rfl, h.row.of_heap rfl, h.tab.of_heap rfl, belowDrewN h.bel q⟩
theorem codes_wf {p : PenN} (h : p.ok) : ∀ x ∈ codesL p, (Lit.int .i64 x).wf = true := by
  intro x hx
  unfold codesL at hx
  rcases List.mem_append.1 hx with hx | hx
  · rcases List.mem_cons.1 hx with rfl | hx
    · decide
    · have := (marks_all p.2.2 h.2.2).1 x hx
      exact wf_small (by omega) (by omega)
  · rcases List.mem_append.1 hx with hx | hx
    · have := colL_range (k := 0) h.1 (by omega) x hx
      exact wf_small this.1 this.2
    · have := colL_range (k := 10) h.2.1 (by omega) x hx
      exact wf_small this.1 this.2
/-- A slice of numbers in new memory. -/
theorem num_read {p : PenN} (h : p.ok) {w : World} {en : Ending} {w' : World} (hn : NumPost w (codesL p) en w') : ∃ A c, en = .returned (.slice A (codesL p).length c) ∧ ReadsI .i64 w' A (codesL p).length c (codesL p) ∧ Below w.heap.size w w' := by
  obtain ⟨v, rfl, hm⟩ := hn
  obtain ⟨A, c, rfl, hr, _⟩ := own_readsI hm.1 (codes_wf h)
  exact ⟨A, c, rfl, hr, hm.2⟩
set_option maxRecDepth 100000 in
set_option maxHeartbeats 12800000 in
theorem walk (p o : Int × Int × Int) (A : Option Addr) (n c : Nat) (l : List Int) (w : World) (_ : fit64 p.1 ∧ fit64 p.2.1 ∧ fit64 p.2.2) (_ : fit64 o.1 ∧ fit64 o.2.1 ∧ fit64 o.2.2) (hr : ReadsI .i64 w A n c l) (kt : PT w) :
    Calls Tryd.prog 4 #[.agg #[.int .i64 p.1, .int .i64 p.2.1, .int .i64 p.2.2], .agg #[.int .i64 o.1, .int .i64 o.2.1, .int .i64 o.2.2], .slice A n c] w fun e w' => e = .returned (.bool true) ∧ Below w.heap.size w w' := by
  have HA := Lib.hid (fun W (hk : PT W) => awake12_c W hk)
  have HK := Lib.hid kt
  have HR := Lib.hid hr
  have HLen := Lib.hid hr.len
  have HRI0 : Hid (∀ W, Calls Tryd.prog 8 #[.agg #[.int .i64 p.1, .int .i64 p.2.1, .int .i64 p.2.2]] W (BoolPost W (penOk p))) := fun W => pRight_c p W
  clear kt hr
  obtain ⟨z, hz⟩ : ∃ z, Hid (w.heap.size = z) := ⟨_, rfl⟩
  have HRO0 : Hid (∀ W, Calls Tryd.prog 8 #[.agg #[.int .i64 o.1, .int .i64 o.2.1, .int .i64 o.2.2]] W (BoolPost W (penOk o))) := fun W => pRight_c o W
  cases hB : penOk p with
  | false =>
    rw [hB] at HRI0
    obtain ⟨x, y, e⟩ := p
    obtain ⟨x', y', e'⟩ := o
    simp only at HRI0 HRO0 ⊢
    clear hB
    go_enter Tryd.func4, Tryd.ntmps4
    go_upto_region 1 with (fail)
    rw [hz.out]
    refine name_wp (fun w1 => Blk w1 z 23 [.int .i64 x, .int .i64 y, .int .i64 e] ∧ Blk w1 (z + 1) 23 [.int .i64 x', .int .i64 y', .int .i64 e'] ∧ Below w.heap.size w w1) ?_ ?_
    · rw [← hz.out]
      refine ⟨(Blk.new w _ [.int .i64 x, .int .i64 y, .int .i64 e]).alloc _, ?_, below_two _ _ _⟩
      have := Blk.new (w.alloc (.cells [.int .i64 x, .int .i64 y, .int .i64 e].toArray 23)) 23 [.int .i64 x', .int .i64 y', .int .i64 e']
      rwa [World.size_alloc] at this
    rintro w1 ⟨hb1, ho1, hbel1⟩
    go_wp2_with fail
    refine (HA.out w1 (HK.out.keep hbel1)).mono ?_
    rintro en w2 ⟨rfl, hb2⟩
    have HB2 := Lib.hid (hb1.below hb2 hb1.lt)
    have HO2 := Lib.hid (ho1.below hb2 ho1.lt)
    have HW2 := Lib.hid (hbel1.trans (hb2.mono hbel1.size))
    clear hb1 ho1 hbel1 hb2
    obtain ⟨x0, x1, x2⟩ := threeI HB2.out
    go_wp2_with fail
    refine (HRI0.out w2).mono ?_
    rintro en w3 ⟨rfl, hb3⟩
    have HB3 := Lib.hid (HB2.out.below hb3 HB2.out.lt)
    have HO3 := Lib.hid (HO2.out.below hb3 HO2.out.lt)
    have HW3 := Lib.hid (HW2.out.trans (hb3.mono HW2.out.size))
    clear hb3 x0 x1 x2
    obtain ⟨y0, y1, y2⟩ := threeI HO3.out
    go_wp2
    go_ret
    exact ⟨rfl, HW3.out⟩
  | true =>
  rw [hB] at HRI0
  obtain ⟨⟨u, k, m⟩, hq, rfl⟩ := penOk_ok hB
  have HQ := Lib.hid hq
  clear hB hq
  cases hB : penOk o with
  | false =>
    rw [hB] at HRO0
    obtain ⟨x', y', e'⟩ := o
    simp only at HRI0 HRO0 ⊢
    clear hB
    go_enter Tryd.func4, Tryd.ntmps4
    go_upto_region 1 with (fail)
    rw [hz.out]
    refine name_wp (fun w1 => Blk w1 z 23 [.int .i64 (u : Int), .int .i64 (k : Int), .int .i64 (m : Int)] ∧ Blk w1 (z + 1) 23 [.int .i64 x', .int .i64 y', .int .i64 e'] ∧ Below w.heap.size w w1) ?_ ?_
    · rw [← hz.out]
      refine ⟨(Blk.new w _ [.int .i64 (u : Int), .int .i64 (k : Int), .int .i64 (m : Int)]).alloc _, ?_, below_two _ _ _⟩
      have := Blk.new (w.alloc (.cells [.int .i64 (u : Int), .int .i64 (k : Int), .int .i64 (m : Int)].toArray 23)) 23 [.int .i64 x', .int .i64 y', .int .i64 e']
      rwa [World.size_alloc] at this
    rintro w1 ⟨hb1, ho1, hbel1⟩
    go_wp2_with fail
    refine (HA.out w1 (HK.out.keep hbel1)).mono ?_
    rintro en w2 ⟨rfl, hb2⟩
    have HB2 := Lib.hid (hb1.below hb2 hb1.lt)
    have HO2 := Lib.hid (ho1.below hb2 ho1.lt)
    have HW2 := Lib.hid (hbel1.trans (hb2.mono hbel1.size))
    clear hb1 ho1 hbel1 hb2
    obtain ⟨x0, x1, x2⟩ := threeI HB2.out
    go_wp2_with fail
    refine (HRI0.out w2).mono ?_
    rintro en w3 ⟨rfl, hb3⟩
    have HB3 := Lib.hid (HB2.out.below hb3 HB2.out.lt)
    have HO3 := Lib.hid (HO2.out.below hb3 HO2.out.lt)
    have HW3 := Lib.hid (HW2.out.trans (hb3.mono HW2.out.size))
    clear hb3 x0 x1 x2
    obtain ⟨y0, y1, y2⟩ := threeI HO3.out
    go_wp2_with fail
    refine (HRO0.out w3).mono ?_
    rintro en w4 ⟨rfl, hb4⟩
    have HB4 := Lib.hid (HB3.out.below hb4 HB3.out.lt)
    have HO4 := Lib.hid (HO3.out.below hb4 HO3.out.lt)
    have HW4 := Lib.hid (HW3.out.trans (hb4.mono HW3.out.size))
    clear hb4 y0 y1 y2
    go_wp2
    go_ret
    exact ⟨rfl, HW4.out⟩
  | true =>
    rw [hB] at HRO0
    obtain ⟨⟨s, t, q⟩, hq, rfl⟩ := penOk_ok hB
    have HOk := Lib.hid hq
    simp only at HRI0 HRO0 ⊢
    clear hB hq
    by_cases hn : 20 < n
    · have t1 : decide ((20 : Int) < (n : Int)) = true ∧ decide (20 < n) = true := by simp; omega
      obtain ⟨t1, t1'⟩ := t1
      go_enter Tryd.func4, Tryd.ntmps4
      go_upto_region 1 with (fail)
      rw [hz.out]
      refine name_wp (fun w1 => Blk w1 z 23 [.int .i64 (u : Int), .int .i64 (k : Int), .int .i64 (m : Int)] ∧ Blk w1 (z + 1) 23 [.int .i64 (s : Int), .int .i64 (t : Int), .int .i64 (q : Int)] ∧ Below w.heap.size w w1) ?_ ?_
      · rw [← hz.out]
        refine ⟨(Blk.new w _ [.int .i64 (u : Int), .int .i64 (k : Int), .int .i64 (m : Int)]).alloc _, ?_, below_two _ _ _⟩
        have := Blk.new (w.alloc (.cells [.int .i64 (u : Int), .int .i64 (k : Int), .int .i64 (m : Int)].toArray 23)) 23 [.int .i64 (s : Int), .int .i64 (t : Int), .int .i64 (q : Int)]
        rwa [World.size_alloc] at this
      rintro w1 ⟨hb1, ho1, hbel1⟩
      go_wp2_with fail
      refine (HA.out w1 (HK.out.keep hbel1)).mono ?_
      rintro en w2 ⟨rfl, hb2⟩
      have HB2 := Lib.hid (hb1.below hb2 hb1.lt)
      have HO2 := Lib.hid (ho1.below hb2 ho1.lt)
      have HW2 := Lib.hid (hbel1.trans (hb2.mono hbel1.size))
      clear hb1 ho1 hbel1 hb2
      obtain ⟨x0, x1, x2⟩ := threeI HB2.out
      go_wp2_with fail
      refine (HRI0.out w2).mono ?_
      rintro en w3 ⟨rfl, hb3⟩
      have HB3 := Lib.hid (HB2.out.below hb3 HB2.out.lt)
      have HO3 := Lib.hid (HO2.out.below hb3 HO2.out.lt)
      have HW3 := Lib.hid (HW2.out.trans (hb3.mono HW2.out.size))
      clear hb3 x0 x1 x2
      obtain ⟨y0, y1, y2⟩ := threeI HO3.out
      go_wp2_with fail
      refine (HRO0.out w3).mono ?_
      rintro en w4 ⟨rfl, hb4⟩
      have HB4 := Lib.hid (HB3.out.below hb4 HB3.out.lt)
      have HO4 := Lib.hid (HO3.out.below hb4 HO3.out.lt)
      have HW4 := Lib.hid (HW3.out.trans (hb4.mono HW3.out.size))
      clear hb4 y0 y1 y2
      go_wp2
      go_ret
      exact ⟨rfl, HW4.out⟩
    have t1 : decide ((20 : Int) < (n : Int)) = false ∧ decide (20 < n) = false := by simp; omega
    obtain ⟨t1, t1'⟩ := t1
    have HCo : Hid (∀ W, PT W → Calls Tryd.prog 11 #[.agg #[.int .i64 (u : Int), .int .i64 (k : Int), .int .i64 (m : Int)]] W fun en w' => ∃ A c, en = .returned (.slice A (codesL (u, k, m)).length c) ∧ ReadsI .i64 w' A (codesL (u, k, m)).length c (codesL (u, k, m)) ∧ Below W.heap.size W w') := fun W hk => (codes_c (u, k, m) W HQ.out hk).mono fun en w' h => num_read HQ.out h
    have HRo : Hid (∀ W, Calls Tryd.prog 12 #[.agg #[.int .i64 (u : Int), .int .i64 (k : Int), .int .i64 (m : Int)]] W fun en w' => ∃ A c, en = .returned (.slice A (codesL (u, k, m)).length c) ∧ ReadsI .i64 w' A (codesL (u, k, m)).length c (codesL (u, k, m)) ∧ Below W.heap.size W w') := fun W => (refCodes_c (u, k, m) W HQ.out).mono fun en w' h => num_read HQ.out h
    have hmk1 := codes_make (u, k, m) (s, t, q) HQ.out
    have hmk2 := codes_make (u, k, m) (applyA (s, t, q) l) HQ.out
    have hap1 : ∀ (A7 : Option Addr) (c7 : Nat) W, PT W → ReadsI .i64 W A7 (codesL (u, k, m)).length c7 (codesL (u, k, m)) → Calls Tryd.prog 9 #[.agg #[.int .i64 (s : Int), .int .i64 (t : Int), .int .i64 (q : Int)], .slice A7 (codesL (u, k, m)).length c7] W (PenPost W (applyA (s, t, q) (codesL (u, k, m)))) := fun A7 c7 W hk hr => apply_c (s, t, q) A7 _ c7 _ W HOk.out hr hk
    have hap2 : ∀ W, PT W → ReadsI .i64 W A n c l → Calls Tryd.prog 9 #[.agg #[.int .i64 (s : Int), .int .i64 (t : Int), .int .i64 (q : Int)], .slice A n c] W (PenPost W (applyA (s, t, q) l)) := fun W hk hr => apply_c (s, t, q) A n c l W HOk.out hr hk
    have hap3 : ∀ (A7 : Option Addr) (c7 : Nat) W, PT W → ReadsI .i64 W A7 (codesL (u, k, m)).length c7 (codesL (u, k, m)) → Calls Tryd.prog 9 #[.agg (penW (applyA (s, t, q) l)).toArray, .slice A7 (codesL (u, k, m)).length c7] W (PenPost W (applyA (applyA (s, t, q) l) (codesL (u, k, m)))) := fun A7 c7 W hk hr => apply_c _ A7 _ c7 _ W (applyA_ok l HOk.out) hr hk
    rw [hmk1] at hap1
    rw [hmk2] at hap3
    have hNl := codes_length (u, k, m)
    clear hmk1 hmk2
    generalize codesL (u, k, m) = L at *
    generalize applyA (s, t, q) l = r at *
    obtain ⟨N, hN⟩ : ∃ N, Hid (L.length = N) := ⟨_, rfl⟩
    rw [hN.out] at HCo HRo hap1 hap3 hNl
    obtain ⟨a, b, d⟩ := r
    have HAp1' : Hid (∀ (A7 : Option Addr) (c7 : Nat) W, PT W → ReadsI .i64 W A7 N c7 L → Calls Tryd.prog 9 #[.agg #[.int .i64 (s : Int), .int .i64 (t : Int), .int .i64 (q : Int)], .slice A7 N c7] W fun en w' => en = .returned (.agg #[.int .i64 (u : Int), .int .i64 (k : Int), .int .i64 (m : Int)]) ∧ Below W.heap.size W w') := hap1
    have HAp2 : Hid (∀ W, PT W → ReadsI .i64 W A n c l → Calls Tryd.prog 9 #[.agg #[.int .i64 (s : Int), .int .i64 (t : Int), .int .i64 (q : Int)], .slice A n c] W fun en w' => en = .returned (.agg #[.int .i64 (a : Int), .int .i64 (b : Int), .int .i64 (d : Int)]) ∧ Below W.heap.size W w') := hap2
    have HAp3' : Hid (∀ (A7 : Option Addr) (c7 : Nat) W, PT W → ReadsI .i64 W A7 N c7 L → Calls Tryd.prog 9 #[.agg #[.int .i64 (a : Int), .int .i64 (b : Int), .int .i64 (d : Int)], .slice A7 N c7] W fun en w' => en = .returned (.agg #[.int .i64 (u : Int), .int .i64 (k : Int), .int .i64 (m : Int)]) ∧ Below W.heap.size W w') := hap3
    clear hap1 hap2 hap3
    go_enter Tryd.func4, Tryd.ntmps4
    go_upto_region 1 with (fail)
    rw [hz.out]
    refine name_wp (fun w1 => Blk w1 z 23 [.int .i64 (u : Int), .int .i64 (k : Int), .int .i64 (m : Int)] ∧ Blk w1 (z + 1) 23 [.int .i64 (s : Int), .int .i64 (t : Int), .int .i64 (q : Int)] ∧ Below w.heap.size w w1) ?_ ?_
    · rw [← hz.out]
      refine ⟨(Blk.new w _ [.int .i64 (u : Int), .int .i64 (k : Int), .int .i64 (m : Int)]).alloc _, ?_, below_two _ _ _⟩
      have := Blk.new (w.alloc (.cells [.int .i64 (u : Int), .int .i64 (k : Int), .int .i64 (m : Int)].toArray 23)) 23 [.int .i64 (s : Int), .int .i64 (t : Int), .int .i64 (q : Int)]
      rwa [World.size_alloc] at this
    rintro w1 ⟨hb1, ho1, hbel1⟩
    go_wp2_with fail
    refine (HA.out w1 (HK.out.keep hbel1)).mono ?_
    rintro en w2 ⟨rfl, hb2⟩
    have HB2 := Lib.hid (hb1.below hb2 hb1.lt)
    have HO2 := Lib.hid (ho1.below hb2 ho1.lt)
    have HW2 := Lib.hid (hbel1.trans (hb2.mono hbel1.size))
    clear hb1 ho1 hbel1 hb2
    obtain ⟨x0, x1, x2⟩ := threeI HB2.out
    go_wp2_with fail
    refine (HRI0.out w2).mono ?_
    rintro en w3 ⟨rfl, hb3⟩
    have HB3 := Lib.hid (HB2.out.below hb3 HB2.out.lt)
    have HO3 := Lib.hid (HO2.out.below hb3 HO2.out.lt)
    have HW3 := Lib.hid (HW2.out.trans (hb3.mono HW2.out.size))
    clear hb3 x0 x1 x2
    obtain ⟨y0, y1, y2⟩ := threeI HO3.out
    go_wp2_with fail
    refine (HRO0.out w3).mono ?_
    rintro en w4 ⟨rfl, hb4⟩
    have HB4 := Lib.hid (HB3.out.below hb4 HB3.out.lt)
    have HO4 := Lib.hid (HO3.out.below hb4 HO3.out.lt)
    have HW4 := Lib.hid (HW3.out.trans (hb4.mono HW3.out.size))
    clear hb4 y0 y1 y2
    go_upto_region 5 with (fail)
    refine wp_region_any (by kernel_rfl) ?_
    change wpAny _ _ _ _ _ _ _ (World.drew _)
    have HC0 : Hid (Blk w4.drew z 23 (penW (u, k, m))) := HB4.out.drew
    have HC1' : Hid (Blk w4.drew (z + 1) 23 (penW (s, t, q))) := HO4.out.drew
    have HKt : Hid (PT w4.drew) := (HK.out.keep HW4.out).of_heap rfl
    have HRa' : Hid (ReadsI .i64 w4.drew A n c l) := (HR.out.keep HW4.out).of_heap rfl
    have HW5 : Hid (Below w.heap.size w w4.drew) := HW4.out.drew
    refine wpAny_relyG (g := 0) [(0, 25), (1, 26), (2, 27), (3, 28), (4, 7), (5, 8)] (condAt (C5 u k m N L)) [] (by kernel_rfl) rfl (condAt_keep (C5_stable u k m N L)) ?hstep ?hend
    case hstep =>
      intro p hp o ho X W hbel hdep K hK
      obtain ⟨x0, x1, x2⟩ := threeP (HC0.out.below hbel HC0.out.lt)
      simp only at x0 x1 x2
      simp only [List.mem_cons, List.not_mem_nil, or_false] at hp
      rcases hp with rfl | rfl | rfl | rfl | rfl | rfl
      · cases Option.some.inj ho
        simp only [frm, List.foldl_cons, List.foldl_nil, Act.put, List.setIfInBounds_toArray, List.set_cons_zero, List.set_cons_succ] at hK ⊢
        clear hdep ho
        rw [if_pos (by rfl)]
        go_simp
        exact hK _ _ rfl (Below.refl _ _) (by simp)
      · cases Option.some.inj ho
        have d0 : X 0 = .agg #[.int .i64 (u : Int), .int .i64 (k : Int), .int .i64 (m : Int)] := hdep ⟨0, .data⟩ (by simp) rfl rfl
        simp only [frm, List.foldl_cons, List.foldl_nil, Act.put, List.setIfInBounds_toArray, List.set_cons_zero, List.set_cons_succ] at hK ⊢
        clear hdep ho
        rw [d0] at hK ⊢
        clear d0
        rw [if_pos (by rfl)]
        go_simp
        refine (HCo.out _ (HKt.out.keep hbel)).mono ?_
        rintro e w' ⟨A1, c1, rfl, hr, hb⟩
        exact hK _ _ ⟨A1, c1, rfl, hr⟩ hb (by simp)
      · cases Option.some.inj ho
        simp only [frm, List.foldl_cons, List.foldl_nil, Act.put, List.setIfInBounds_toArray, List.set_cons_zero, List.set_cons_succ] at hK ⊢
        clear hdep ho
        rw [if_pos (by rfl)]
        go_simp
        exact hK _ _ rfl (Below.refl _ _) (by simp)
      · cases Option.some.inj ho
        have d2 : X 2 = .agg #[.int .i64 (u : Int), .int .i64 (k : Int), .int .i64 (m : Int)] := hdep ⟨2, .data⟩ (by simp) rfl rfl
        simp only [frm, List.foldl_cons, List.foldl_nil, Act.put, List.setIfInBounds_toArray, List.set_cons_zero, List.set_cons_succ] at hK ⊢
        clear hdep ho
        rw [d2] at hK ⊢
        clear d2
        rw [if_pos (by rfl)]
        go_simp
        refine (HRo.out _).mono ?_
        rintro e w' ⟨A1, c1, rfl, hr, hb⟩
        exact hK _ _ ⟨A1, c1, rfl, hr⟩ hb (by simp)
      · cases Option.some.inj ho
        have h1 : ∃ A c, (X 1) = .slice A N c ∧ ReadsI .i64 W A N c (L) := hdep ⟨1, .data⟩ (by simp) rfl rfl
        simp only [frm, List.foldl_cons, List.foldl_nil, Act.put, List.setIfInBounds_toArray, List.set_cons_zero, List.set_cons_succ] at hK ⊢
        clear hdep ho
        rw [if_pos (by rfl)]
        obtain ⟨A1, c1, d1, ra1⟩ := h1
        rw [d1] at hK ⊢
        clear d1
        go_simp
        exact hK _ _ ⟨_, _, rfl, ra1⟩ (Below.refl _ _) (by simp)
      · cases Option.some.inj ho
        have h3 : ∃ A c, (X 3) = .slice A N c ∧ ReadsI .i64 W A N c (L) := hdep ⟨3, .data⟩ (by simp) rfl rfl
        simp only [frm, List.foldl_cons, List.foldl_nil, Act.put, List.setIfInBounds_toArray, List.set_cons_zero, List.set_cons_succ] at hK ⊢
        clear hdep ho
        rw [if_pos (by rfl)]
        obtain ⟨A3, c3, d3, ra3⟩ := h3
        rw [d3] at hK ⊢
        clear d3
        go_simp
        exact hK _ _ ⟨_, _, rfl, ra3⟩ (Below.refl _ _) (by simp)
    case hend =>
      intro X W hbel hall _
      obtain ⟨A4, c4, d4, ra4⟩ : ∃ A c, (X 4) = .slice A N c ∧ ReadsI .i64 W A N c (L) := hall (4, 7) (by simp)
      obtain ⟨A5, c5, d5, ra5⟩ : ∃ A c, (X 5) = .slice A N c ∧ ReadsI .i64 W A N c (L) := hall (5, 8) (by simp)
      simp only [frm, List.foldl_cons, List.foldl_nil, Act.put, List.setIfInBounds_toArray, List.set_cons_zero, List.set_cons_succ]
      rw [d4, d5]
      clear hall d4 d5
      generalize X 0 = z0
      generalize X 1 = z1
      generalize X 2 = z2
      generalize X 3 = z3
      refine wpAny_done (by kernel_rfl) ?_ _
      have HS : Hid (PkSt w W z (u, k, m) (s, t, q) A4 A5 A N c4 c5 n c L l) := ⟨HC0.out.below hbel HC0.out.lt, HC1'.out.below hbel HC1'.out.lt, ra4, ra5, HRa'.out.keep hbel, HKt.out.keep hbel, HW5.out.trans (hbel.mono HW5.out.size)⟩
      clear ra4 ra5 hbel
      have n1 : ((N : Int) != (N : Int)) = false := by simp
      go_upto_region 9 with (fail)
      go_loopw [9] (fun i wr => ∃ j : Nat, j ≤ N ∧ i = .int .i64 j ∧ Hid (PkSt w wr z (u, k, m) (s, t, q) A4 A5 A N c4 c5 n c L l)) (fun i _ => N - (intOf i).toNat)
      case atStart => exact ⟨0, Nat.zero_le _, rfl, HS⟩
      case round =>
        obtain ⟨j, hj, rfl, HJ⟩ := hrel
        clear HS
        by_cases hlt : j < N
        · have q1 : decide ((j : Int) < (N : Int)) = true ∧ decide (j < N) = true := by simp; omega
          obtain ⟨q1, q1'⟩ := q1
          have hlt2 : (j : Int) < (N : Int) := by omega
          have j0 : (0 : Int) ≤ (j : Int) := by omega
          have hjl : j < L.length := by rw [hN.out]; exact hlt
          obtain ⟨ad7, e7, _, hc7⟩ := HJ.out.l7.cell j hjl
          obtain ⟨ad8, e8, _, hc8⟩ := HJ.out.l8.cell j hjl
          subst e7 e8
          obtain ⟨y, hy⟩ : ∃ y, Hid (L[j] = y) := ⟨L[j], rfl⟩
          rw [hy.out] at hc7 hc8
          have q2 : (y != y) = false := by simp
          go_upto_region 11 with (fail)
          go_quiet (fail)
          go_wp2
          go_roundw
          case rel => exact ⟨j + 1, by omega, by go_num, Lib.hid (HJ.out.of_heap _)⟩
          case measure => simp [intOf]; omega
        · have q1 : decide ((j : Int) < (N : Int)) = false ∧ decide (j < N) = false := by simp; omega
          obtain ⟨q1, q1'⟩ := q1
          have hjN : Hid (j = N) := by show _ = _; omega
          clear hlt hj HC0 HC1' HKt HRa' HW5
          have HC0 : Hid (Blk wr.drew z 23 (penW (u, k, m))) := HJ.out.box.drew
          have HC1 : Hid (Blk wr.drew (z + 1) 23 (penW (s, t, q))) := HJ.out.oth.drew
          have HKt : Hid (PT wr.drew) := HJ.out.tab.of_heap rfl
          have HRa : Hid (ReadsI .i64 wr.drew A n c l) := HJ.out.row.of_heap rfl
          have HR7 : Hid (ReadsI .i64 wr.drew A4 N c4 L) := HJ.out.l7.of_heap rfl
          have HW7 : Hid (Below w.heap.size w wr.drew) := HJ.out.bel.drew
          have HAp1 := Lib.hid (HAp1'.out A4 c4)
          have HAp3 := Lib.hid (HAp3'.out A4 c4)
          go_upto_region 13 with (fail)
          refine wp_region_any (by kernel_rfl) ?_
          change wpAny _ _ _ _ _ _ _ (World.drew _)
          refine wpAny_relyG (g := 0) [(0, 49), (1, 50), (2, 51), (3, 52), (4, 53), (5, 54), (6, 55), (7, 56), (8, 57), (9, 58), (10, 59), (11, 60), (12, 61), (13, 62), (14, 6)] (condAt (C13 a b d u k m s t q N c4 n c A4 A)) [] (by kernel_rfl) rfl (condAt_keep (C13_stable a b d u k m s t q N c4 n c A4 A)) ?hstepB ?hendB
          case hstepB =>
            intro p hp o ho X W hbel hdep K hK
            obtain ⟨x0, x1, x2⟩ := threeP (HC0.out.below hbel HC0.out.lt)
            obtain ⟨y0, y1, y2⟩ := threeP (HC1.out.below hbel HC1.out.lt)
            simp only at x0 x1 x2 y0 y1 y2
            simp only [List.mem_cons, List.not_mem_nil, or_false] at hp
            rcases hp with rfl | rfl | rfl | rfl | rfl | rfl | rfl | rfl | rfl | rfl | rfl | rfl | rfl | rfl | rfl
            · cases Option.some.inj ho
              simp only [frm, List.foldl_cons, List.foldl_nil, Act.put, List.setIfInBounds_toArray, List.set_cons_zero, List.set_cons_succ] at hK ⊢
              clear hdep ho
              rw [if_pos (by rfl)]
              go_simp
              exact hK _ _ rfl (Below.refl _ _) (by simp)
            · cases Option.some.inj ho
              simp only [frm, List.foldl_cons, List.foldl_nil, Act.put, List.setIfInBounds_toArray, List.set_cons_zero, List.set_cons_succ] at hK ⊢
              clear hdep ho
              rw [if_pos (by rfl)]
              go_simp
              exact hK _ _ rfl (Below.refl _ _) (by simp)
            · cases Option.some.inj ho
              have d0 : X 0 = .agg #[.int .i64 (s : Int), .int .i64 (t : Int), .int .i64 (q : Int)] := hdep ⟨0, .data⟩ (by simp) rfl rfl
              have d1 : X 1 = .slice A4 N c4 := hdep ⟨1, .data⟩ (by simp) rfl rfl
              simp only [frm, List.foldl_cons, List.foldl_nil, Act.put, List.setIfInBounds_toArray, List.set_cons_zero, List.set_cons_succ] at hK ⊢
              clear hdep ho
              rw [d0, d1] at hK ⊢
              clear d0 d1
              rw [if_pos (by rfl)]
              go_simp
              refine (HAp1.out _ (HKt.out.keep hbel) (HR7.out.keep hbel)).mono ?_
              rintro e w' ⟨rfl, hb⟩
              exact hK _ _ rfl hb (by simp)
            · cases Option.some.inj ho
              simp only [frm, List.foldl_cons, List.foldl_nil, Act.put, List.setIfInBounds_toArray, List.set_cons_zero, List.set_cons_succ] at hK ⊢
              clear hdep ho
              rw [if_pos (by rfl)]
              go_simp
              exact hK _ _ rfl (Below.refl _ _) (by simp)
            · cases Option.some.inj ho
              have d2 : X 2 = .agg #[.int .i64 (u : Int), .int .i64 (k : Int), .int .i64 (m : Int)] := hdep ⟨2, .data⟩ (by simp) rfl rfl
              have d3 : X 3 = .agg #[.int .i64 (u : Int), .int .i64 (k : Int), .int .i64 (m : Int)] := hdep ⟨3, .data⟩ (by simp) rfl rfl
              simp only [frm, List.foldl_cons, List.foldl_nil, Act.put, List.setIfInBounds_toArray, List.set_cons_zero, List.set_cons_succ] at hK ⊢
              clear hdep ho
              rw [d2, d3] at hK ⊢
              clear d2 d3
              rw [if_pos (by rfl)]
              go_simp
              exact hK _ _ rfl (Below.refl _ _) (by simp)
            · cases Option.some.inj ho
              have d4 : X 4 = .bool true := hdep ⟨4, .data⟩ (by simp) rfl rfl
              simp only [frm, List.foldl_cons, List.foldl_nil, Act.put, List.setIfInBounds_toArray, List.set_cons_zero, List.set_cons_succ] at hK ⊢
              clear hdep ho
              rw [d4] at hK ⊢
              clear d4
              rw [if_pos (by rfl)]
              go_simp
              exact hK _ _ rfl (Below.refl _ _) (by simp)
            · cases Option.some.inj ho
              have d5 : X 5 = .bool true := hdep ⟨5, .guard⟩ (by simp) rfl rfl
              simp only [frm, List.foldl_cons, List.foldl_nil, Act.put, List.setIfInBounds_toArray, List.set_cons_zero, List.set_cons_succ] at hK ⊢
              clear hdep ho
              rw [d5] at hK ⊢
              clear d5
              rw [if_pos (by rfl)]
              go_simp
              exact hK _ _ rfl (Below.refl _ _) (by simp)
            · cases Option.some.inj ho
              have d5 : X 5 = .bool true := hdep ⟨5, .guard⟩ (by simp) rfl rfl
              simp only [frm, List.foldl_cons, List.foldl_nil, Act.put, List.setIfInBounds_toArray, List.set_cons_zero, List.set_cons_succ] at hK ⊢
              clear hdep ho
              rw [d5] at hK ⊢
              clear d5
              rw [if_pos (by rfl)]
              go_simp
              exact hK _ _ rfl (Below.refl _ _) (by simp)
            · cases Option.some.inj ho
              have d6 : X 6 = .agg #[.int .i64 (s : Int), .int .i64 (t : Int), .int .i64 (q : Int)] := hdep ⟨6, .data⟩ (by simp) rfl rfl
              have d7 : X 7 = .slice A n c := hdep ⟨7, .data⟩ (by simp) rfl rfl
              have d5 : X 5 = .bool true := hdep ⟨5, .guard⟩ (by simp) rfl rfl
              simp only [frm, List.foldl_cons, List.foldl_nil, Act.put, List.setIfInBounds_toArray, List.set_cons_zero, List.set_cons_succ] at hK ⊢
              clear hdep ho
              rw [d6, d7, d5] at hK ⊢
              clear d6 d7 d5
              rw [if_pos (by rfl)]
              go_simp
              refine (HAp2.out _ (HKt.out.keep hbel) (HRa.out.keep hbel)).mono ?_
              rintro e w' ⟨rfl, hb⟩
              exact hK _ _ rfl hb (by simp)
            · cases Option.some.inj ho
              have d5 : X 5 = .bool true := hdep ⟨5, .guard⟩ (by simp) rfl rfl
              simp only [frm, List.foldl_cons, List.foldl_nil, Act.put, List.setIfInBounds_toArray, List.set_cons_zero, List.set_cons_succ] at hK ⊢
              clear hdep ho
              rw [d5] at hK ⊢
              clear d5
              rw [if_pos (by rfl)]
              go_simp
              exact hK _ _ rfl (Below.refl _ _) (by simp)
            · cases Option.some.inj ho
              have d8 : X 8 = .agg #[.int .i64 (a : Int), .int .i64 (b : Int), .int .i64 (d : Int)] := hdep ⟨8, .data⟩ (by simp) rfl rfl
              have d9 : X 9 = .slice A4 N c4 := hdep ⟨9, .data⟩ (by simp) rfl rfl
              have d5 : X 5 = .bool true := hdep ⟨5, .guard⟩ (by simp) rfl rfl
              simp only [frm, List.foldl_cons, List.foldl_nil, Act.put, List.setIfInBounds_toArray, List.set_cons_zero, List.set_cons_succ] at hK ⊢
              clear hdep ho
              rw [d8, d9, d5] at hK ⊢
              clear d8 d9 d5
              rw [if_pos (by rfl)]
              go_simp
              refine (HAp3.out _ (HKt.out.keep hbel) (HR7.out.keep hbel)).mono ?_
              rintro e w' ⟨rfl, hb⟩
              exact hK _ _ rfl hb (by simp)
            · cases Option.some.inj ho
              have d5 : X 5 = .bool true := hdep ⟨5, .guard⟩ (by simp) rfl rfl
              simp only [frm, List.foldl_cons, List.foldl_nil, Act.put, List.setIfInBounds_toArray, List.set_cons_zero, List.set_cons_succ] at hK ⊢
              clear hdep ho
              rw [d5] at hK ⊢
              clear d5
              rw [if_pos (by rfl)]
              go_simp
              exact hK _ _ rfl (Below.refl _ _) (by simp)
            · cases Option.some.inj ho
              have d10 : X 10 = .agg #[.int .i64 (u : Int), .int .i64 (k : Int), .int .i64 (m : Int)] := hdep ⟨10, .data⟩ (by simp) rfl rfl
              have d11 : X 11 = .agg #[.int .i64 (u : Int), .int .i64 (k : Int), .int .i64 (m : Int)] := hdep ⟨11, .data⟩ (by simp) rfl rfl
              have d5 : X 5 = .bool true := hdep ⟨5, .guard⟩ (by simp) rfl rfl
              simp only [frm, List.foldl_cons, List.foldl_nil, Act.put, List.setIfInBounds_toArray, List.set_cons_zero, List.set_cons_succ] at hK ⊢
              clear hdep ho
              rw [d10, d11, d5] at hK ⊢
              clear d10 d11 d5
              rw [if_pos (by rfl)]
              go_simp
              exact hK _ _ rfl (Below.refl _ _) (by simp)
            · cases Option.some.inj ho
              have d5 : X 5 = .bool true := hdep ⟨5, .data⟩ (by simp) rfl rfl
              have d12 : X 12 = .bool true := hdep ⟨12, .data⟩ (by simp) rfl rfl
              simp only [frm, List.foldl_cons, List.foldl_nil, Act.put, List.setIfInBounds_toArray, List.set_cons_zero, List.set_cons_succ] at hK ⊢
              clear hdep ho
              rw [d5, d12] at hK ⊢
              clear d5 d12
              rw [if_pos (by rfl)]
              go_simp
              exact hK _ _ rfl (Below.refl _ _) (by simp)
            · cases Option.some.inj ho
              have d13 : X 13 = .bool true := hdep ⟨13, .data⟩ (by simp) rfl rfl
              simp only [frm, List.foldl_cons, List.foldl_nil, Act.put, List.setIfInBounds_toArray, List.set_cons_zero, List.set_cons_succ] at hK ⊢
              clear hdep ho
              rw [d13] at hK ⊢
              clear d13
              rw [if_pos (by rfl)]
              go_simp
              exact hK _ _ rfl (Below.refl _ _) (by simp)
          case hendB =>
            intro X W hbel hall _
            have d14 : X 14 = .bool true := hall (14, 6) (by simp)
            simp only [frm, List.foldl_cons, List.foldl_nil, Act.put, List.setIfInBounds_toArray, List.set_cons_zero, List.set_cons_succ]
            rw [d14]
            clear hall d14
            generalize X 0 = z0
            generalize X 1 = z1
            generalize X 2 = z2
            generalize X 3 = z3
            generalize X 4 = z4
            generalize X 5 = z5
            generalize X 6 = z6
            generalize X 7 = z7
            generalize X 8 = z8
            generalize X 9 = z9
            generalize X 10 = z10
            generalize X 11 = z11
            generalize X 12 = z12
            generalize X 13 = z13
            refine wpAny_done (by kernel_rfl) ?_ _
            have hbw := HW7.out.trans (hbel.mono HW7.out.size)
            go_wp2
            go_ret
            exact ⟨rfl, hbw⟩
end Go.Proofs.YtajllkfoaigdlaaDoor.penCodes
