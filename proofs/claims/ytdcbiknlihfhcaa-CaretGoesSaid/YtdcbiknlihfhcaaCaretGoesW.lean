/- The walk through CaretGoes: for every area, caret and two numbers it returns true and leaves old memory as it was. Conditions: none. -/
import Derived.Test.YtdcbiknlihfhcaaCaretA
namespace Go.Proofs.Ytdcbiknlihfhcaa.caretGoes
open Go.ChangeShapes Go.WideShapes Go.RowKit
theorem stable_new {n : Nat} {t : TypeId} {zs : List Value} : Stable (fun v W => ∃ g, v = .pointer (some ⟨g, 0, none⟩) ∧ n ≤ g ∧ Blk W g t zs) := by
  rintro v w w' ⟨g, e, hn, h⟩ hb
  exact ⟨g, e, hn, h.below hb h.lt⟩
theorem twoD {W : World} {z : Nat} {t : TypeId} {a b : Int} (h : Blk W z t [.int .i64 a, .int .i64 b]) : W.cell? ⟨z, 0, none⟩ = some (.int .i64 a) ∧ W.cell? ⟨z, 1, none⟩ = some (.int .i64 b) := ⟨h.cell 0, h.cell 1⟩
def C5 (R C T B : Int) (o : Bool) (r c : Int) (q : Bool) (a b i j h g : Int) (e : Bool) (z n0 : Nat) : List (Value → World → Prop) := [fun v _ => v = .agg #[.int .i64 R, .int .i64 C, .int .i64 T, .int .i64 B, .bool o],
  fun v _ => v = .pointer (some ⟨z + 2, 0, none⟩),
  fun v _ => v = .int .i64 a,
  fun v _ => v = .pointer (some ⟨z + 2, 1, none⟩),
  fun v _ => v = .int .i64 b,
  fun v _ => v = .agg #[.int .i64 i, .int .i64 j, .bool false],
  fun v _ => v = .agg #[.int .i64 R, .int .i64 C, .int .i64 T, .int .i64 B, .bool o],
  fun v _ => v = .agg #[.int .i64 r, .int .i64 c, .bool q],
  fun v _ => v = .agg #[.int .i64 h, .int .i64 g, .bool e],
  (fun v W => ∃ g, v = .pointer (some ⟨g, 0, none⟩) ∧ n0 ≤ g ∧ Blk W g 25 [.int .i64 0, .int .i64 0, .bool false]),
  (fun v W => ∃ g, v = .pointer (some ⟨g, 0, none⟩) ∧ n0 ≤ g ∧ Blk W g 25 [.int .i64 0, .int .i64 0, .bool false])]
theorem C5_stable (R C T B : Int) (o : Bool) (r c : Int) (q : Bool) (a b i j h g : Int) (e : Bool) (z n0 : Nat) : ∀ p ∈ C5 R C T B o r c q a b i j h g e z n0, Stable p := (stable_cons (stable_eq _) (stable_cons (stable_eq _) (stable_cons (stable_eq _) (stable_cons (stable_eq _) (stable_cons (stable_eq _) (stable_cons (stable_eq _) (stable_cons (stable_eq _) (stable_cons (stable_eq _) (stable_cons (stable_eq _) (stable_cons stable_new (stable_cons stable_new stable_nil)))))))))))
def C9 (R C T B : Int) (o : Bool) (b i j y h g : Int) (e : Bool) (z : Nat) : List (Value → World → Prop) := [fun v _ => v = .agg #[.int .i64 i, .int .i64 j, .bool false],
  fun v _ => v = .int .i64 i,
  fun v _ => v = .pointer (some ⟨z + 2, 1, none⟩),
  fun v _ => v = .int .i64 b,
  fun v _ => v = .pointer (some ⟨z, 1, none⟩),
  fun v _ => v = .int .i64 C,
  fun v _ => v = .int .i64 y,
  fun v _ => v = .int .i64 j,
  fun v _ => v = .agg #[.int .i64 i, .int .i64 j, .bool false],
  fun v _ => v = .bool false,
  fun v _ => v = .bool false,
  fun v _ => v = .agg #[.int .i64 R, .int .i64 C, .int .i64 T, .int .i64 B, .bool o],
  fun v _ => v = .agg #[.int .i64 h, .int .i64 g, .bool e],
  fun v _ => v = .bool true,
  fun v _ => v = .bool false,
  fun v _ => v = .bool false]
theorem C9_stable (R C T B : Int) (o : Bool) (b i j y h g : Int) (e : Bool) (z : Nat) : ∀ p ∈ C9 R C T B o b i j y h g e z, Stable p := (stable_cons (stable_eq _) (stable_cons (stable_eq _) (stable_cons (stable_eq _) (stable_cons (stable_eq _) (stable_cons (stable_eq _) (stable_cons (stable_eq _) (stable_cons (stable_eq _) (stable_cons (stable_eq _) (stable_cons (stable_eq _) (stable_cons (stable_eq _) (stable_cons (stable_eq _) (stable_cons (stable_eq _) (stable_cons (stable_eq _) (stable_cons (stable_eq _) (stable_cons (stable_eq _) (stable_cons (stable_eq _) stable_nil))))))))))))))))
def C11t (R C r c h g : Int) (e : Bool) (z gH : Nat) : List (Value → World → Prop) := [fun v _ => v = .pointer (some ⟨gH, 0, none⟩),
  fun v _ => v = .int .i64 h,
  fun v _ => v = .pointer (some ⟨z + 1, 0, none⟩),
  fun v _ => v = .int .i64 r,
  fun v _ => v = .pointer (some ⟨z, 0, none⟩),
  fun v _ => v = .int .i64 R,
  fun v _ => v = .int .i64 (R - 1),
  fun v _ => v = .int .i64 h,
  fun v _ => v = .bool true,
  fun v _ => v = .bool true,
  fun v _ => v = .pointer (some ⟨gH, 1, none⟩),
  fun v _ => v = .int .i64 g,
  fun v _ => v = .pointer (some ⟨z + 1, 1, none⟩),
  fun v _ => v = .int .i64 c,
  fun v _ => v = .pointer (some ⟨z, 1, none⟩),
  fun v _ => v = .int .i64 C,
  fun v _ => v = .int .i64 (C - 1),
  fun v _ => v = .int .i64 g,
  fun v _ => v = .bool true,
  fun v _ => v = .bool true,
  fun v _ => v = .bool true,
  fun v _ => v = .pointer (some ⟨gH, 2, none⟩),
  fun v _ => v = .bool e,
  fun v _ => v = .pointer (some ⟨z + 1, 2, none⟩),
  fun v _ => v = .bool true,
  fun v _ => v = .bool true,
  fun v _ => v = .pointer (some ⟨z + 1, 1, none⟩),
  fun v _ => v = .int .i64 c,
  fun v _ => v = .pointer (some ⟨z, 1, none⟩),
  fun v _ => v = .int .i64 C,
  fun v _ => v = .int .i64 (C - 1),
  fun v _ => v = .bool e,
  fun v _ => v = .bool e,
  fun v _ => v = .bool true,
  fun v _ => v = .bool true,
  fun v _ => v = .bool true]
theorem C11t_stable (R C r c h g : Int) (e : Bool) (z gH : Nat) : ∀ p ∈ C11t R C r c h g e z gH, Stable p := (stable_cons (stable_eq _) (stable_cons (stable_eq _) (stable_cons (stable_eq _) (stable_cons (stable_eq _) (stable_cons (stable_eq _) (stable_cons (stable_eq _) (stable_cons (stable_eq _) (stable_cons (stable_eq _) (stable_cons (stable_eq _) (stable_cons (stable_eq _) (stable_cons (stable_eq _) (stable_cons (stable_eq _) (stable_cons (stable_eq _) (stable_cons (stable_eq _) (stable_cons (stable_eq _) (stable_cons (stable_eq _) (stable_cons (stable_eq _) (stable_cons (stable_eq _) (stable_cons (stable_eq _) (stable_cons (stable_eq _) (stable_cons (stable_eq _) (stable_cons (stable_eq _) (stable_cons (stable_eq _) (stable_cons (stable_eq _) (stable_cons (stable_eq _) (stable_cons (stable_eq _) (stable_cons (stable_eq _) (stable_cons (stable_eq _) (stable_cons (stable_eq _) (stable_cons (stable_eq _) (stable_cons (stable_eq _) (stable_cons (stable_eq _) (stable_cons (stable_eq _) (stable_cons (stable_eq _) (stable_cons (stable_eq _) (stable_cons (stable_eq _) stable_nil))))))))))))))))))))))))))))))))))))
def C11f (R C r c h g : Int) (e : Bool) (z gH : Nat) : List (Value → World → Prop) := [fun v _ => v = .pointer (some ⟨gH, 0, none⟩),
  fun v _ => v = .int .i64 h,
  fun v _ => v = .pointer (some ⟨z + 1, 0, none⟩),
  fun v _ => v = .int .i64 r,
  fun v _ => v = .pointer (some ⟨z, 0, none⟩),
  fun v _ => v = .int .i64 R,
  fun v _ => v = .int .i64 (R - 1),
  fun v _ => v = .int .i64 h,
  fun v _ => v = .bool true,
  fun v _ => v = .bool true,
  fun v _ => v = .pointer (some ⟨gH, 1, none⟩),
  fun v _ => v = .int .i64 g,
  fun v _ => v = .pointer (some ⟨z + 1, 1, none⟩),
  fun v _ => v = .int .i64 c,
  fun v _ => v = .pointer (some ⟨z, 1, none⟩),
  fun v _ => v = .int .i64 C,
  fun v _ => v = .int .i64 (C - 1),
  fun v _ => v = .int .i64 g,
  fun v _ => v = .bool true,
  fun v _ => v = .bool true,
  fun v _ => v = .bool true,
  fun v _ => v = .pointer (some ⟨gH, 2, none⟩),
  fun v _ => v = .bool e,
  fun v _ => v = .pointer (some ⟨z + 1, 2, none⟩),
  fun v _ => v = .bool false,
  fun v _ => v = .bool false,
  fun v _ => v = undef,
  fun v _ => v = undef,
  fun v _ => v = undef,
  fun v _ => v = undef,
  fun v _ => v = undef,
  fun v _ => v = undef,
  fun v _ => v = .bool e,
  fun v _ => v = .bool true,
  fun v _ => v = .bool true,
  fun v _ => v = .bool true]
theorem C11f_stable (R C r c h g : Int) (e : Bool) (z gH : Nat) : ∀ p ∈ C11f R C r c h g e z gH, Stable p := (stable_cons (stable_eq _) (stable_cons (stable_eq _) (stable_cons (stable_eq _) (stable_cons (stable_eq _) (stable_cons (stable_eq _) (stable_cons (stable_eq _) (stable_cons (stable_eq _) (stable_cons (stable_eq _) (stable_cons (stable_eq _) (stable_cons (stable_eq _) (stable_cons (stable_eq _) (stable_cons (stable_eq _) (stable_cons (stable_eq _) (stable_cons (stable_eq _) (stable_cons (stable_eq _) (stable_cons (stable_eq _) (stable_cons (stable_eq _) (stable_cons (stable_eq _) (stable_cons (stable_eq _) (stable_cons (stable_eq _) (stable_cons (stable_eq _) (stable_cons (stable_eq _) (stable_cons (stable_eq _) (stable_cons (stable_eq _) (stable_cons (stable_eq _) (stable_cons (stable_eq _) (stable_cons (stable_eq _) (stable_cons (stable_eq _) (stable_cons (stable_eq _) (stable_cons (stable_eq _) (stable_cons (stable_eq _) (stable_cons (stable_eq _) (stable_cons (stable_eq _) (stable_cons (stable_eq _) (stable_cons (stable_eq _) (stable_cons (stable_eq _) stable_nil))))))))))))))))))))))))))))))))))))
set_option maxRecDepth 100000 in
set_option maxHeartbeats 12800000 in
theorem walk (ar : AreaV) (ca : CaretV) (a b : Int) (w : World) (har : fit64 ar.1 ∧ fit64 ar.2.1 ∧ fit64 ar.2.2.1 ∧ fit64 ar.2.2.2.1) (hk : fit64 ca.1 ∧ fit64 ca.2.1) (ha : (Lit.int .i64 a).wf = true) (hb : (Lit.int .i64 b).wf = true) :
    Calls Try.prog 5 #[.agg #[.int .i64 ar.1, .int .i64 ar.2.1, .int .i64 ar.2.2.1, .int .i64 ar.2.2.2.1, .bool ar.2.2.2.2], .agg #[.int .i64 ca.1, .int .i64 ca.2.1, .bool ca.2.2], .agg #[.int .i64 a, .int .i64 b]] w fun e w' => e = .returned (.bool true) ∧ Below w.heap.size w w' := by
  obtain ⟨R, C, T, B, o⟩ := ar
  obtain ⟨r, c, q⟩ := ca
  simp only at har hk ⊢
  obtain ⟨z, hz⟩ : ∃ z, Hid (w.heap.size = z) := ⟨_, rfl⟩
  have HRef : Hid (∀ W, Calls Try.prog 9 #[.agg #[.int .i64 R, .int .i64 C, .int .i64 T, .int .i64 B, .bool o]] W fun en w' => en = .returned (.agg #[.int .i64 R, .int .i64 C, .int .i64 T, .int .i64 B, .bool o]) ∧ Below W.heap.size W w') := fun W => ref_c R C T B o W
  have HRi : Hid (∀ W, Calls Try.prog 8 #[.agg #[.int .i64 R, .int .i64 C, .int .i64 T, .int .i64 B, .bool o]] W (BoolPost W (areaOk R C T B))) := fun W => refRight_c R C T B o W
  have hra := range_i64 a ha
  have hrb := range_i64 b hb
  have hkr : -9223372036854775808 ≤ r ∧ r ≤ 9223372036854775807 := hk.1
  have hkc : -9223372036854775808 ≤ c ∧ c ≤ 9223372036854775807 := hk.2
  clear har hk ha hb
  cases hX : areaOk R C T B with
  | false =>
    rw [hX] at HRi
    clear hX hra hrb hkr hkc
    go_enter Try.func5, Try.ntmps5
    go_upto_region 1 with (fail)
    rw [hz.out]
    refine name_wp (fun w1 => BothAt w w1 z R C T B o r c q ∧ Blk w1 (z + 2) 26 [.int .i64 a, .int .i64 b]) ⟨(BothAt.new w hz.out R C T B o r c q).keep (alloc_below' _ _), by rw [← hz.out]; exact blk3 w _ _ _ [.int .i64 a, .int .i64 b]⟩ ?_
    rintro w1 ⟨hb1, hd1⟩
    have HB1 := Lib.hid hb1
    have HD1 := Lib.hid hd1
    clear hb1 hd1
    go_wp2_with fail
    refine (awake14_c w1).mono ?_
    rintro en w2 ⟨rfl, hb2⟩
    have HB2 := Lib.hid (HB1.out.keep hb2)
    have HD2 := Lib.hid (HD1.out.below hb2 HD1.out.lt)
    clear hb2
    obtain ⟨x0, x1, x2, x3, x4⟩ := fiveA HB2.out.area
    obtain ⟨y0, y1, y2⟩ := threeA HB2.out.caret
    go_wp2_with fail
    refine (HRef.out _).mono ?_
    rintro en w3 ⟨rfl, hb3⟩
    have HB3 := Lib.hid (HB2.out.keep hb3)
    have HD3 := Lib.hid (HD2.out.below hb3 HD2.out.lt)
    clear hb3 x0 x1 x2 x3 x4 y0 y1 y2
    obtain ⟨x0, x1, x2, x3, x4⟩ := fiveA HB3.out.area
    obtain ⟨y0, y1, y2⟩ := threeA HB3.out.caret
    go_wp2_with fail
    refine (HRi.out _).mono ?_
    rintro en w4 ⟨rfl, hb4⟩
    have HB4 := Lib.hid (HB3.out.keep hb4)
    have HD4 := Lib.hid (HD3.out.below hb4 HD3.out.lt)
    clear hb4 x0 x1 x2 x3 x4 y0 y1 y2
    obtain ⟨x0, x1, x2, x3, x4⟩ := fiveA HB4.out.area
    obtain ⟨y0, y1, y2⟩ := threeA HB4.out.caret
    go_wp2
    go_ret
    exact ⟨rfl, HB4.out.bel⟩
  | true =>
    rw [hX] at HRi
    have HA := Lib.hid (areaOk_of hX)
    clear hX
    have HGo : Hid (∀ W, Calls Try.prog 20 #[.agg #[.int .i64 R, .int .i64 C, .int .i64 T, .int .i64 B, .bool o], .int .i64 a, .int .i64 b] W (CaretPost W (gotoZ o R T B a) (min (max b 1 - 1) (C - 1)) false)) := fun W => goto_c R C T B o a b W HA.out hra.2 hrb.2
    have HHo : Hid (∀ W, Calls Try.prog 21 #[.agg #[.int .i64 R, .int .i64 C, .int .i64 T, .int .i64 B, .bool o], .agg #[.int .i64 r, .int .i64 c, .bool q]] W (CaretPost W (min (max r 0) (R - 1)) (min (max c 0) (C - 1)) (q && (c == C - 1)))) := fun W => hold_c R C T B o r c q W (by have := HA.out; omega)
    have HHa : Hid (∀ W, Calls Try.prog 19 #[.int .i64 a, .int .i64 1, .int .i64 R] W fun en w' => en = .returned (.int .i64 (holdZ a 1 R)) ∧ w' = W) := fun W => refHold_c _ _ _ W
    have HHb : Hid (∀ W, Calls Try.prog 19 #[.int .i64 b, .int .i64 1, .int .i64 C] W fun en w' => en = .returned (.int .i64 (holdZ b 1 C)) ∧ w' = W) := fun W => refHold_c _ _ _ W
    have HHr : Hid (∀ W, Calls Try.prog 19 #[.int .i64 r, .int .i64 0, .int .i64 (R - 1)] W fun en w' => en = .returned (.int .i64 (min (max r 0) (R - 1))) ∧ w' = W) := fun W => by
      have h := refHold_c r 0 (R - 1) W
      rwa [show holdZ r 0 (R - 1) = min (max r 0) (R - 1) by have := HA.out; unfold holdZ; split <;> (try split) <;> omega] at h
    have HHc : Hid (∀ W, Calls Try.prog 19 #[.int .i64 c, .int .i64 0, .int .i64 (C - 1)] W fun en w' => en = .returned (.int .i64 (min (max c 0) (C - 1))) ∧ w' = W) := fun W => by
      have h := refHold_c c 0 (C - 1) W
      rwa [show holdZ c 0 (C - 1) = min (max c 0) (C - 1) by have := HA.out; unfold holdZ; split <;> (try split) <;> omega] at h
    have HFi : Hid (∀ W, Calls Try.prog 13 #[.agg #[.int .i64 R, .int .i64 C, .int .i64 T, .int .i64 B, .bool o], .agg #[.int .i64 (min (max r 0) (R - 1)), .int .i64 (min (max c 0) (C - 1)), .bool (q && (c == C - 1))]] W (BoolPost W true)) := fun W => by
      have h := fits_c R C T B o (min (max r 0) (R - 1)) (min (max c 0) (C - 1)) (q && (c == C - 1)) W (by have := HA.out; omega)
      rwa [show fitsZ R C (min (max r 0) (R - 1)) (min (max c 0) (C - 1)) (q && (c == C - 1)) = true by
        have := HA.out
        rw [fitsZ_iff]
        refine ⟨by omega, by omega, by omega, by omega, fun h => ?_⟩
        simp only [Bool.and_eq_true, beq_iff_eq] at h
        omega] at h
    have HI : Hid (gotoZ o R T B a = if o then min (T + (holdZ a 1 R - 1)) B else holdZ a 1 R - 1) := Lib.hid (by
      have := HA.out
      unfold gotoZ holdZ
      cases o
      · simp only [Bool.false_eq_true, if_false]; split <;> (try split) <;> omega
      · simp only [if_true]; split <;> (try split) <;> omega)
    have hj : holdZ b 1 C - 1 = min (max b 1 - 1) (C - 1) := by have := HA.out; unfold holdZ; split <;> (try split) <;> omega
    have hyr : 1 ≤ holdZ b 1 C ∧ holdZ b 1 C ≤ C := by have := HA.out; unfold holdZ; split <;> (try split) <;> omega
    have hvr : 1 ≤ holdZ a 1 R ∧ holdZ a 1 R ≤ R := by have := HA.out; unfold holdZ; split <;> (try split) <;> omega
    generalize gotoZ o R T B a = i at HGo HI
    generalize min (max b 1 - 1) (C - 1) = j at HGo hj
    generalize min (max r 0) (R - 1) = h at HHo HHr HFi
    generalize min (max c 0) (C - 1) = g at HHo HHc HFi
    obtain ⟨e, he⟩ : ∃ e, (q && (c == C - 1)) = e := ⟨_, rfl⟩
    rw [he] at HHo HFi
    generalize holdZ b 1 C = y at HHb hj hyr
    generalize holdZ a 1 R = v at HHa HI hvr
    have HEe := Lib.hid he
    have HJ := Lib.hid hj
    have HYr := Lib.hid hyr
    have HVr := Lib.hid hvr
    unfold CaretPost caretA at HGo HHo
    clear he hj hyr hvr hra hrb hkr hkc
    go_enter Try.func5, Try.ntmps5
    go_upto_region 1 with (fail)
    rw [hz.out]
    refine name_wp (fun w1 => BothAt w w1 z R C T B o r c q ∧ Blk w1 (z + 2) 26 [.int .i64 a, .int .i64 b]) ⟨(BothAt.new w hz.out R C T B o r c q).keep (alloc_below' _ _), by rw [← hz.out]; exact blk3 w _ _ _ [.int .i64 a, .int .i64 b]⟩ ?_
    rintro w1 ⟨hb1, hd1⟩
    have HB1 := Lib.hid hb1
    have HD1 := Lib.hid hd1
    clear hb1 hd1
    go_wp2_with fail
    refine (awake14_c w1).mono ?_
    rintro en w2 ⟨rfl, hb2⟩
    have HB2 := Lib.hid (HB1.out.keep hb2)
    have HD2 := Lib.hid (HD1.out.below hb2 HD1.out.lt)
    clear hb2
    obtain ⟨x0, x1, x2, x3, x4⟩ := fiveA HB2.out.area
    obtain ⟨y0, y1, y2⟩ := threeA HB2.out.caret
    go_wp2_with fail
    refine (HRef.out _).mono ?_
    rintro en w3 ⟨rfl, hb3⟩
    have HB3 := Lib.hid (HB2.out.keep hb3)
    have HD3 := Lib.hid (HD2.out.below hb3 HD2.out.lt)
    clear hb3 x0 x1 x2 x3 x4 y0 y1 y2
    obtain ⟨x0, x1, x2, x3, x4⟩ := fiveA HB3.out.area
    obtain ⟨y0, y1, y2⟩ := threeA HB3.out.caret
    go_wp2_with fail
    refine (HRi.out _).mono ?_
    rintro en w4 ⟨rfl, hb4⟩
    have HB4 := Lib.hid (HB3.out.keep hb4)
    have HD4 := Lib.hid (HD3.out.below hb4 HD3.out.lt)
    clear hb4 x0 x1 x2 x3 x4 y0 y1 y2
    obtain ⟨x0, x1, x2, x3, x4⟩ := fiveA HB4.out.area
    obtain ⟨y0, y1, y2⟩ := threeA HB4.out.caret
    clear x0 x1 x2 x3 x4 y0 y1 y2
    go_upto_region 5 with (fail)
    refine wp_region_any (by kernel_rfl) ?_
    change wpAny _ _ _ _ _ _ _ (World.drew _)
    have HBx := Lib.hid (HB4.out.keep (Below.refl _ _).drew)
    have HDx := Lib.hid HD4.out.drew
    generalize w4.drew = w6 at *
    obtain ⟨n0, hn0⟩ : ∃ n, Hid (w6.heap.size = n) := ⟨_, rfl⟩
    refine R3.wpAny_relyG (g := 2) [(0, 16), (1, 17), (2, 18), (3, 19), (4, 20), (5, 21), (6, 22), (7, 23), (8, 24), (9, 7), (10, 8)] (condAt (C5 R C T B o r c q a b i j h g e z n0)) [9, 10] (by kernel_rfl) rfl (condAt_keep (C5_stable R C T B o r c q a b i j h g e z n0)) ?hstep ?hend
    case hstep =>
      intro p hp o' ho x W hbel hdep K hK
      have hB := HBx.out.keep hbel
      obtain ⟨x0, x1, x2, x3, x4⟩ := fiveA hB.area
      obtain ⟨y0, y1, y2⟩ := threeA hB.caret
      obtain ⟨p0, p1⟩ := twoD (HDx.out.below hbel HDx.out.lt)
      simp only [List.mem_cons, List.not_mem_nil, or_false] at hp
      rcases hp with rfl | rfl | rfl | rfl | rfl | rfl | rfl | rfl | rfl | rfl | rfl
      · cases Option.some.inj ho
        simp only [frm, List.foldl_cons, List.foldl_nil, Act.put, List.setIfInBounds_toArray, List.set_cons_zero, List.set_cons_succ] at hK ⊢
        clear hdep ho
        rw [if_pos (by rfl)]
        go_simp
        exact hK _ _ rfl (Below.refl _ _) (by simp)
      · cases Option.some.inj ho
        simp only [frm, List.foldl_cons, List.foldl_nil, Act.put, List.setIfInBounds_toArray, List.set_cons_zero, List.set_cons_succ] at hK ⊢
        clear hdep ho
        rw [if_pos (by rfl)]
        go_simp
        exact hK _ _ rfl (Below.refl _ _) (by simp)
      · cases Option.some.inj ho
        have d1 : x 1 = .pointer (some ⟨z + 2, 0, none⟩) := hdep ⟨1, .data⟩ (by simp) rfl rfl
        simp only [frm, List.foldl_cons, List.foldl_nil, Act.put, List.setIfInBounds_toArray, List.set_cons_zero, List.set_cons_succ] at hK ⊢
        clear hdep ho
        rw [d1] at hK ⊢
        clear d1
        rw [if_pos (by rfl)]
        go_simp
        exact hK _ _ rfl (Below.refl _ _) (by simp)
      · cases Option.some.inj ho
        simp only [frm, List.foldl_cons, List.foldl_nil, Act.put, List.setIfInBounds_toArray, List.set_cons_zero, List.set_cons_succ] at hK ⊢
        clear hdep ho
        rw [if_pos (by rfl)]
        go_simp
        exact hK _ _ rfl (Below.refl _ _) (by simp)
      · cases Option.some.inj ho
        have d3 : x 3 = .pointer (some ⟨z + 2, 1, none⟩) := hdep ⟨3, .data⟩ (by simp) rfl rfl
        simp only [frm, List.foldl_cons, List.foldl_nil, Act.put, List.setIfInBounds_toArray, List.set_cons_zero, List.set_cons_succ] at hK ⊢
        clear hdep ho
        rw [d3] at hK ⊢
        clear d3
        rw [if_pos (by rfl)]
        go_simp
        exact hK _ _ rfl (Below.refl _ _) (by simp)
      · cases Option.some.inj ho
        have d0 : x 0 = .agg #[.int .i64 R, .int .i64 C, .int .i64 T, .int .i64 B, .bool o] := hdep ⟨0, .data⟩ (by simp) rfl rfl
        have d2 : x 2 = .int .i64 a := hdep ⟨2, .data⟩ (by simp) rfl rfl
        have d4 : x 4 = .int .i64 b := hdep ⟨4, .data⟩ (by simp) rfl rfl
        simp only [frm, List.foldl_cons, List.foldl_nil, Act.put, List.setIfInBounds_toArray, List.set_cons_zero, List.set_cons_succ] at hK ⊢
        clear hdep ho
        rw [d0, d2, d4] at hK ⊢
        clear d0 d2 d4
        rw [if_pos (by rfl)]
        go_simp
        refine (HGo.out _).mono ?_
        rintro e w' ⟨rfl, hb⟩
        exact hK _ _ rfl hb (by simp)
      · cases Option.some.inj ho
        simp only [frm, List.foldl_cons, List.foldl_nil, Act.put, List.setIfInBounds_toArray, List.set_cons_zero, List.set_cons_succ] at hK ⊢
        clear hdep ho
        rw [if_pos (by rfl)]
        go_simp
        exact hK _ _ rfl (Below.refl _ _) (by simp)
      · cases Option.some.inj ho
        simp only [frm, List.foldl_cons, List.foldl_nil, Act.put, List.setIfInBounds_toArray, List.set_cons_zero, List.set_cons_succ] at hK ⊢
        clear hdep ho
        rw [if_pos (by rfl)]
        go_simp
        exact hK _ _ rfl (Below.refl _ _) (by simp)
      · cases Option.some.inj ho
        have d6 : x 6 = .agg #[.int .i64 R, .int .i64 C, .int .i64 T, .int .i64 B, .bool o] := hdep ⟨6, .data⟩ (by simp) rfl rfl
        have d7 : x 7 = .agg #[.int .i64 r, .int .i64 c, .bool q] := hdep ⟨7, .data⟩ (by simp) rfl rfl
        simp only [frm, List.foldl_cons, List.foldl_nil, Act.put, List.setIfInBounds_toArray, List.set_cons_zero, List.set_cons_succ] at hK ⊢
        clear hdep ho
        rw [d6, d7] at hK ⊢
        clear d6 d7
        rw [if_pos (by rfl)]
        go_simp
        refine (HHo.out _).mono ?_
        rintro e w' ⟨rfl, hb⟩
        exact hK _ _ rfl hb (by simp)
      · cases Option.some.inj ho
        simp only [frm, List.foldl_cons, List.foldl_nil, Act.put, List.setIfInBounds_toArray, List.set_cons_zero, List.set_cons_succ] at hK ⊢
        clear hdep ho
        rw [if_pos (by rfl)]
        go_simp
        exact hK _ _ ⟨_, rfl, (by rw [← hn0.out]; exact hbel.size), Blk.new _ _ [.int .i64 0, .int .i64 0, .bool false]⟩ (alloc_below' _ _) (fun _ => ⟨Nat.le_refl _, by simp [bk]⟩)
      · cases Option.some.inj ho
        simp only [frm, List.foldl_cons, List.foldl_nil, Act.put, List.setIfInBounds_toArray, List.set_cons_zero, List.set_cons_succ] at hK ⊢
        clear hdep ho
        rw [if_pos (by rfl)]
        go_simp
        exact hK _ _ ⟨_, rfl, (by rw [← hn0.out]; exact hbel.size), Blk.new _ _ [.int .i64 0, .int .i64 0, .bool false]⟩ (alloc_below' _ _) (fun _ => ⟨Nat.le_refl _, by simp [bk]⟩)
    --@@out
    case hend =>
      intro X W hbel hall hdist
      have e0 : X 5 = .agg #[.int .i64 i, .int .i64 j, .bool false] := hall (5, 21) (by simp)
      have e1 : X 8 = .agg #[.int .i64 h, .int .i64 g, .bool e] := hall (8, 24) (by simp)
      obtain ⟨gG, d0, n1, k0⟩ : ∃ g, X 9 = .pointer (some ⟨g, 0, none⟩) ∧ n0 ≤ g ∧ Blk W g 25 [.int .i64 0, .int .i64 0, .bool false] := hall (9, 7) (by simp)
      obtain ⟨gH, d1, n2, k1⟩ : ∃ g, X 10 = .pointer (some ⟨g, 0, none⟩) ∧ n0 ≤ g ∧ Blk W g 25 [.int .i64 0, .int .i64 0, .bool false] := hall (10, 8) (by simp)
      have hne : gG ≠ gH := by
        have t01 := hdist (9, 7) (by simp) (10, 8) (by simp) (by simp) (by simp) (by simp)
        rw [d0, d1] at t01
        exact t01
      simp only [frm, List.foldl_cons, List.foldl_nil, Act.put, List.setIfInBounds_toArray, List.set_cons_zero, List.set_cons_succ]
      rw [e0, e1, d0, d1]
      clear hall hdist e0 e1 d0 d1
      generalize X 0 = v0
      generalize X 1 = v1
      generalize X 2 = v2
      generalize X 3 = v3
      generalize X 4 = v4
      generalize X 6 = v6
      generalize X 7 = v7
      refine wpAny_ready (rs := [11]) (by kernel_rfl) (by simp) (AllReady.cons (o := ⟨none, .store 25 (.tmp 7) (.tmp 21), _, _, _, _⟩) rfl (fun K hK => ?_) AllReady.nil)
      refine step_store_blk rfl rfl 25 (.tmp 7) (.tmp 21) rfl gG rfl [.int .i64 i, .int .i64 j, .bool false] rfl [.int .i64 0, .int .i64 0, .bool false] 25 (k0) rfl (one_caretV _ _ _) sizeCaret ?_
      intro w10 hb10 hg10
      refine hK _ _ ?_
      clear hK K
      try simp only [Act.put, List.setIfInBounds_toArray, List.set_cons_zero, List.set_cons_succ]
      replace k1 := k1.grown hg10 (fun e => hne (Option.some.inj e).symm)
      refine wpAny_ready (rs := [12]) (by kernel_rfl) (by simp) (AllReady.cons (o := ⟨none, .store 25 (.tmp 8) (.tmp 24), _, _, _, _⟩) rfl (fun K hK => ?_) AllReady.nil)
      refine step_store_blk rfl rfl 25 (.tmp 8) (.tmp 24) rfl gH rfl [.int .i64 h, .int .i64 g, .bool e] rfl [.int .i64 0, .int .i64 0, .bool false] 25 (k1) rfl (one_caretV _ _ _) sizeCaret ?_
      intro w11 hb11 hg11
      refine hK _ _ ?_
      clear hK K
      try simp only [Act.put, List.setIfInBounds_toArray, List.set_cons_zero, List.set_cons_succ]
      replace k0 := hb10.grown hg11 (fun e => hne (Option.some.inj e))
      refine wpAny_done (by kernel_rfl) ?_ _
      have HS0 := Lib.hid (HBx.out.bel.trans (hbel.mono HBx.out.bel.size))
      have HSz := Lib.hid HBx.out.bel.size
      have hkeep : ∀ {g : Nat} {t : TypeId} {cs : List Value}, g < n0 → Blk w6 g t cs → Blk w11 g t cs := fun h hb => (((hb.below hbel hb.lt).grown hg10 (fun e => by have := Option.some.inj e; omega)).grown hg11 (fun e => by have := Option.some.inj e; omega))
      have HB11 : Hid (BothAt w w11 z R C T B o r c q) := by
        have hn := hn0.out
        have hl := HBx.out.caret.lt
        refine ⟨hkeep (by omega) HBx.out.area, hkeep (by omega) HBx.out.caret, ?_⟩
        have h10 := HS0.out.grown hg10 HS0.out.size (fun k e => by have := Option.some.inj e; have := HSz.out; omega)
        exact h10.grown hg11 h10.size (fun k e => by have := Option.some.inj e; have := HSz.out; omega)
      have HD11 := Lib.hid (hkeep (by rw [← hn0.out]; exact HDx.out.lt) HDx.out)
      have HGG := Lib.hid k0
      have HGH := Lib.hid hb11
      clear hkeep HBx HDx HSz HS0 hbel k0 k1 hb10 hb11 hg10 hg11 n1 n2 hne hn0
      obtain ⟨x0, x1, x2, x3, x4⟩ := fiveA HB11.out.area
      obtain ⟨p0, p1⟩ := twoD HD11.out
      go_wp2_with fail
      refine (HHa.out _).mono ?_
      rintro en w12 ⟨rfl, rfl⟩
      have hv : (o = false ∧ v - 1 = i) ∨ (o = true ∧ min (T + (v - 1)) B = i) := by
        rw [HI.out]
        cases o
        · exact .inl ⟨rfl, by simp⟩
        · exact .inr ⟨rfl, by simp⟩
      have hw1 : IntKind.i64.wrap (v - 1) = v - 1 := IntWalk.i64_in _ (by have := HVr.out; have := HA.out; omega)
      have hw2 : IntKind.i64.wrap (T + (v - 1)) = T + (v - 1) := IntWalk.i64_in _ (by have := HVr.out; have := HA.out; omega)
      go_upto_region 7 with (fail)
      go_cut [9, 32] (fun s t wx => s = .int .i64 (v - 1) ∧ t = .bool o ∧ w12 = wx)
      case first =>
        go_wp2_with fail
        go_meet
        exact ⟨rfl, rfl, rfl⟩
      case' rest => skip
      obtain ⟨rfl, rfl, rfl⟩ := hcut
      go_upto_if 32 with (fail)
      go_cut [9] (fun s wx => s = .int .i64 i ∧ w12 = wx)
      case first =>
        rcases hv with ⟨rfl, hv⟩ | ⟨rfl, hv⟩
        all_goals
          go_wp2_with fail
          go_meet
          exact ⟨by first | rfl | rw [hv], rfl⟩
      case rest =>
        obtain ⟨rfl, rfl⟩ := hcut
        clear hv hw1 hw2 x0 x1 x2 x3 x4 p0 p1
        go_upto_region 9 with (fail)
        refine wp_region_any (by kernel_rfl) ?_
        change wpAny _ _ _ _ _ _ _ (World.drew _)
        have HBx := Lib.hid (HB11.out.keep (Below.refl _ _).drew)
        have HDx := Lib.hid HD11.out.drew
        replace HGG := Lib.hid HGG.out.drew
        replace HGH := Lib.hid HGH.out.drew
        generalize w12.drew = w14 at *
        have hw3 : IntKind.i64.wrap (y - 1) = j := by rw [← HJ.out]; exact IntWalk.i64_in _ (by have := HYr.out; have := HA.out; omega)
        have heqG := fun W => run_eq_caret W i j false
        refine wpAny_relyG (g := 0) [(0, 40), (1, 41), (2, 42), (3, 43), (4, 44), (5, 45), (6, 46), (7, 47), (8, 48), (9, 49), (10, 50), (11, 51), (12, 52), (13, 53), (14, 54), (15, 55)] (condAt (C9 R C T B o b i j y h g e z)) [] (by kernel_rfl) rfl (condAt_keep (C9_stable R C T B o b i j y h g e z)) ?hstep ?hend
        case hstep =>
          intro p hp o' ho x W hbel hdep K hK
          have hB := HBx.out.keep hbel
          obtain ⟨x0, x1, x2, x3, x4⟩ := fiveA hB.area
          obtain ⟨y0, y1, y2⟩ := threeA hB.caret
          obtain ⟨p0, p1⟩ := twoD (HDx.out.below hbel HDx.out.lt)
          obtain ⟨a0, a1, a2⟩ := threeA (HGG.out.below hbel HGG.out.lt)
          obtain ⟨b0, b1, b2⟩ := threeA (HGH.out.below hbel HGH.out.lt)
          simp only [List.mem_cons, List.not_mem_nil, or_false] at hp
          rcases hp with rfl | rfl | rfl | rfl | rfl | rfl | rfl | rfl | rfl | rfl | rfl | rfl | rfl | rfl | rfl | rfl
          · cases Option.some.inj ho
            simp only [frm, List.foldl_cons, List.foldl_nil, Act.put, List.setIfInBounds_toArray, List.set_cons_zero, List.set_cons_succ] at hK ⊢
            clear hdep ho
            rw [if_pos (by rfl)]
            go_simp
            exact hK _ _ rfl (Below.refl _ _) (by simp)
          · cases Option.some.inj ho
            simp only [frm, List.foldl_cons, List.foldl_nil, Act.put, List.setIfInBounds_toArray, List.set_cons_zero, List.set_cons_succ] at hK ⊢
            clear hdep ho
            rw [if_pos (by rfl)]
            go_simp
            exact hK _ _ rfl (Below.refl _ _) (by simp)
          · cases Option.some.inj ho
            simp only [frm, List.foldl_cons, List.foldl_nil, Act.put, List.setIfInBounds_toArray, List.set_cons_zero, List.set_cons_succ] at hK ⊢
            clear hdep ho
            rw [if_pos (by rfl)]
            go_simp
            exact hK _ _ rfl (Below.refl _ _) (by simp)
          · cases Option.some.inj ho
            have d2 : x 2 = .pointer (some ⟨z + 2, 1, none⟩) := hdep ⟨2, .data⟩ (by simp) rfl rfl
            simp only [frm, List.foldl_cons, List.foldl_nil, Act.put, List.setIfInBounds_toArray, List.set_cons_zero, List.set_cons_succ] at hK ⊢
            clear hdep ho
            rw [d2] at hK ⊢
            clear d2
            rw [if_pos (by rfl)]
            go_simp
            exact hK _ _ rfl (Below.refl _ _) (by simp)
          · cases Option.some.inj ho
            simp only [frm, List.foldl_cons, List.foldl_nil, Act.put, List.setIfInBounds_toArray, List.set_cons_zero, List.set_cons_succ] at hK ⊢
            clear hdep ho
            rw [if_pos (by rfl)]
            go_simp
            exact hK _ _ rfl (Below.refl _ _) (by simp)
          · cases Option.some.inj ho
            have d4 : x 4 = .pointer (some ⟨z, 1, none⟩) := hdep ⟨4, .data⟩ (by simp) rfl rfl
            simp only [frm, List.foldl_cons, List.foldl_nil, Act.put, List.setIfInBounds_toArray, List.set_cons_zero, List.set_cons_succ] at hK ⊢
            clear hdep ho
            rw [d4] at hK ⊢
            clear d4
            rw [if_pos (by rfl)]
            go_simp
            exact hK _ _ rfl (Below.refl _ _) (by simp)
          · cases Option.some.inj ho
            have d3 : x 3 = .int .i64 b := hdep ⟨3, .data⟩ (by simp) rfl rfl
            have d5 : x 5 = .int .i64 C := hdep ⟨5, .data⟩ (by simp) rfl rfl
            simp only [frm, List.foldl_cons, List.foldl_nil, Act.put, List.setIfInBounds_toArray, List.set_cons_zero, List.set_cons_succ] at hK ⊢
            clear hdep ho
            rw [d3, d5] at hK ⊢
            clear d3 d5
            rw [if_pos (by rfl)]
            go_simp
            refine (HHb.out _).mono ?_
            rintro e w' ⟨rfl, rfl⟩
            exact hK _ _ rfl (Below.refl _ _) (by simp)
          · cases Option.some.inj ho
            have d6 : x 6 = .int .i64 y := hdep ⟨6, .data⟩ (by simp) rfl rfl
            simp only [frm, List.foldl_cons, List.foldl_nil, Act.put, List.setIfInBounds_toArray, List.set_cons_zero, List.set_cons_succ] at hK ⊢
            clear hdep ho
            rw [d6] at hK ⊢
            clear d6
            rw [if_pos (by rfl)]
            go_simp
            exact hK _ _ rfl (Below.refl _ _) (by simp)
          · cases Option.some.inj ho
            have d1 : x 1 = .int .i64 i := hdep ⟨1, .data⟩ (by simp) rfl rfl
            have d7 : x 7 = .int .i64 j := hdep ⟨7, .data⟩ (by simp) rfl rfl
            simp only [frm, List.foldl_cons, List.foldl_nil, Act.put, List.setIfInBounds_toArray, List.set_cons_zero, List.set_cons_succ] at hK ⊢
            clear hdep ho
            rw [d1, d7] at hK ⊢
            clear d1 d7
            rw [if_pos (by rfl)]
            go_simp
            exact hK _ _ rfl (Below.refl _ _) (by simp)
          · cases Option.some.inj ho
            have d0 : x 0 = .agg #[.int .i64 i, .int .i64 j, .bool false] := hdep ⟨0, .data⟩ (by simp) rfl rfl
            have d8 : x 8 = .agg #[.int .i64 i, .int .i64 j, .bool false] := hdep ⟨8, .data⟩ (by simp) rfl rfl
            simp only [frm, List.foldl_cons, List.foldl_nil, Act.put, List.setIfInBounds_toArray, List.set_cons_zero, List.set_cons_succ] at hK ⊢
            clear hdep ho
            rw [d0, d8] at hK ⊢
            clear d0 d8
            rw [if_pos (by rfl)]
            go_simp
            exact hK _ _ rfl (Below.refl _ _) (by simp)
          · cases Option.some.inj ho
            have d9 : x 9 = .bool false := hdep ⟨9, .data⟩ (by simp) rfl rfl
            simp only [frm, List.foldl_cons, List.foldl_nil, Act.put, List.setIfInBounds_toArray, List.set_cons_zero, List.set_cons_succ] at hK ⊢
            clear hdep ho
            rw [d9] at hK ⊢
            clear d9
            rw [if_pos (by rfl)]
            go_simp
            exact hK _ _ rfl (Below.refl _ _) (by simp)
          · cases Option.some.inj ho
            have d10 : x 10 = .bool false := hdep ⟨10, .guard⟩ (by simp) rfl rfl
            simp only [frm, List.foldl_cons, List.foldl_nil, Act.put, List.setIfInBounds_toArray, List.set_cons_zero, List.set_cons_succ] at hK ⊢
            clear hdep ho
            rw [d10] at hK ⊢
            clear d10
            rw [if_pos (by rfl)]
            go_simp
            exact hK _ _ rfl (Below.refl _ _) (by simp)
          · cases Option.some.inj ho
            have d10 : x 10 = .bool false := hdep ⟨10, .guard⟩ (by simp) rfl rfl
            simp only [frm, List.foldl_cons, List.foldl_nil, Act.put, List.setIfInBounds_toArray, List.set_cons_zero, List.set_cons_succ] at hK ⊢
            clear hdep ho
            rw [d10] at hK ⊢
            clear d10
            rw [if_pos (by rfl)]
            go_simp
            exact hK _ _ rfl (Below.refl _ _) (by simp)
          · cases Option.some.inj ho
            have d11 : x 11 = .agg #[.int .i64 R, .int .i64 C, .int .i64 T, .int .i64 B, .bool o] := hdep ⟨11, .data⟩ (by simp) rfl rfl
            have d12 : x 12 = .agg #[.int .i64 h, .int .i64 g, .bool e] := hdep ⟨12, .data⟩ (by simp) rfl rfl
            have d10 : x 10 = .bool false := hdep ⟨10, .guard⟩ (by simp) rfl rfl
            simp only [frm, List.foldl_cons, List.foldl_nil, Act.put, List.setIfInBounds_toArray, List.set_cons_zero, List.set_cons_succ] at hK ⊢
            clear hdep ho
            rw [d11, d12, d10] at hK ⊢
            clear d11 d12 d10
            rw [if_pos (by rfl)]
            go_simp
            refine (HFi.out _).mono ?_
            rintro e w' ⟨rfl, hb⟩
            exact hK _ _ rfl hb (by simp)
          · cases Option.some.inj ho
            have d13 : x 13 = .bool true := hdep ⟨13, .data⟩ (by simp) rfl rfl
            have d10 : x 10 = .bool false := hdep ⟨10, .guard⟩ (by simp) rfl rfl
            simp only [frm, List.foldl_cons, List.foldl_nil, Act.put, List.setIfInBounds_toArray, List.set_cons_zero, List.set_cons_succ] at hK ⊢
            clear hdep ho
            rw [d13, d10] at hK ⊢
            clear d13 d10
            rw [if_pos (by rfl)]
            go_simp
            exact hK _ _ rfl (Below.refl _ _) (by simp)
          · cases Option.some.inj ho
            have d10 : x 10 = .bool false := hdep ⟨10, .data⟩ (by simp) rfl rfl
            have d14 : x 14 = .bool false := hdep ⟨14, .data⟩ (by simp) rfl rfl
            simp only [frm, List.foldl_cons, List.foldl_nil, Act.put, List.setIfInBounds_toArray, List.set_cons_zero, List.set_cons_succ] at hK ⊢
            clear hdep ho
            rw [d10, d14] at hK ⊢
            clear d10 d14
            rw [if_pos (by rfl)]
            go_simp
            exact hK _ _ rfl (Below.refl _ _) (by simp)
        --@@out
        case hend =>
          intro X W hbel hall _
          have d15 : X 15 = .bool false := hall (15, 55) (by simp)
          simp only [frm, List.foldl_cons, List.foldl_nil, Act.put, List.setIfInBounds_toArray, List.set_cons_zero, List.set_cons_succ]
          rw [d15]
          clear hall d15
          generalize X 0 = z0
          generalize X 1 = z1
          generalize X 2 = z2
          generalize X 3 = z3
          generalize X 4 = z4
          generalize X 5 = z5
          generalize X 6 = z6
          generalize X 7 = z7
          generalize X 8 = z8
          generalize X 9 = z9
          generalize X 10 = z10
          generalize X 11 = z11
          generalize X 12 = z12
          generalize X 13 = z13
          generalize X 14 = z14
          refine wpAny_done (by kernel_rfl) ?_ _
          have HB15 := Lib.hid (HBx.out.keep hbel)
          replace HGH := Lib.hid (HGH.out.below hbel HGH.out.lt)
          clear heqG HBx HDx HGG hbel hw3
          go_upto_region 11 with (fail)
          refine wp_region_any (by kernel_rfl) ?_
          change wpAny _ _ _ _ _ _ _ (World.drew _)
          have HBx := Lib.hid (HB15.out.keep (Below.refl _ _).drew)
          replace HGH := Lib.hid HGH.out.drew
          generalize W.drew = w16 at *
          have hw3 : IntKind.i64.wrap (C - 1) = C - 1 := IntWalk.i64_in _ (by have := HA.out; omega)
          have hw4 : IntKind.i64.wrap (R - 1) = R - 1 := IntWalk.i64_in _ (by have := HA.out; omega)
          cases q
          · obtain rfl : false = e := HEe.out
            refine wpAny_relyG (g := 0) [(0, 56), (1, 57), (2, 58), (3, 59), (4, 60), (5, 61), (6, 62), (7, 63), (8, 64), (9, 65), (10, 66), (11, 67), (12, 68), (13, 69), (14, 70), (15, 71), (16, 72), (17, 73), (18, 74), (19, 75), (20, 76), (21, 77), (22, 78), (23, 79), (24, 80), (25, 81), (26, 82), (27, 83), (28, 84), (29, 85), (30, 86), (31, 87), (32, 88), (33, 89), (34, 90), (35, 6)] (condAt (C11f R C r c h g false z gH)) [] (by kernel_rfl) rfl (condAt_keep (C11f_stable R C r c h g false z gH)) ?hstep ?hend
            case hstep =>
              intro p hp o' ho x W hbel hdep K hK
              have hB := HBx.out.keep hbel
              obtain ⟨x0, x1, x2, x3, x4⟩ := fiveA hB.area
              obtain ⟨y0, y1, y2⟩ := threeA hB.caret
              obtain ⟨b0, b1, b2⟩ := threeA (HGH.out.below hbel HGH.out.lt)
              simp only [List.mem_cons, List.not_mem_nil, or_false] at hp
              rcases hp with rfl | rfl | rfl | rfl | rfl | rfl | rfl | rfl | rfl | rfl | rfl | rfl | rfl | rfl | rfl | rfl | rfl | rfl | rfl | rfl | rfl | rfl | rfl | rfl | rfl | rfl | rfl | rfl | rfl | rfl | rfl | rfl | rfl | rfl | rfl | rfl
              · cases Option.some.inj ho
                simp only [frm, List.foldl_cons, List.foldl_nil, Act.put, List.setIfInBounds_toArray, List.set_cons_zero, List.set_cons_succ] at hK ⊢
                clear hdep ho
                rw [if_pos (by rfl)]
                go_simp
                exact hK _ _ rfl (Below.refl _ _) (by simp)
              · cases Option.some.inj ho
                have d0 : x 0 = .pointer (some ⟨gH, 0, none⟩) := hdep ⟨0, .data⟩ (by simp) rfl rfl
                simp only [frm, List.foldl_cons, List.foldl_nil, Act.put, List.setIfInBounds_toArray, List.set_cons_zero, List.set_cons_succ] at hK ⊢
                clear hdep ho
                rw [d0] at hK ⊢
                clear d0
                rw [if_pos (by rfl)]
                go_simp
                exact hK _ _ rfl (Below.refl _ _) (by simp)
              · cases Option.some.inj ho
                simp only [frm, List.foldl_cons, List.foldl_nil, Act.put, List.setIfInBounds_toArray, List.set_cons_zero, List.set_cons_succ] at hK ⊢
                clear hdep ho
                rw [if_pos (by rfl)]
                go_simp
                exact hK _ _ rfl (Below.refl _ _) (by simp)
              · cases Option.some.inj ho
                have d2 : x 2 = .pointer (some ⟨z + 1, 0, none⟩) := hdep ⟨2, .data⟩ (by simp) rfl rfl
                simp only [frm, List.foldl_cons, List.foldl_nil, Act.put, List.setIfInBounds_toArray, List.set_cons_zero, List.set_cons_succ] at hK ⊢
                clear hdep ho
                rw [d2] at hK ⊢
                clear d2
                rw [if_pos (by rfl)]
                go_simp
                exact hK _ _ rfl (Below.refl _ _) (by simp)
              · cases Option.some.inj ho
                simp only [frm, List.foldl_cons, List.foldl_nil, Act.put, List.setIfInBounds_toArray, List.set_cons_zero, List.set_cons_succ] at hK ⊢
                clear hdep ho
                rw [if_pos (by rfl)]
                go_simp
                exact hK _ _ rfl (Below.refl _ _) (by simp)
              · cases Option.some.inj ho
                have d4 : x 4 = .pointer (some ⟨z, 0, none⟩) := hdep ⟨4, .data⟩ (by simp) rfl rfl
                simp only [frm, List.foldl_cons, List.foldl_nil, Act.put, List.setIfInBounds_toArray, List.set_cons_zero, List.set_cons_succ] at hK ⊢
                clear hdep ho
                rw [d4] at hK ⊢
                clear d4
                rw [if_pos (by rfl)]
                go_simp
                exact hK _ _ rfl (Below.refl _ _) (by simp)
              · cases Option.some.inj ho
                have d5 : x 5 = .int .i64 R := hdep ⟨5, .data⟩ (by simp) rfl rfl
                simp only [frm, List.foldl_cons, List.foldl_nil, Act.put, List.setIfInBounds_toArray, List.set_cons_zero, List.set_cons_succ] at hK ⊢
                clear hdep ho
                rw [d5] at hK ⊢
                clear d5
                rw [if_pos (by rfl)]
                go_simp
                exact hK _ _ rfl (Below.refl _ _) (by simp)
              · cases Option.some.inj ho
                have d3 : x 3 = .int .i64 r := hdep ⟨3, .data⟩ (by simp) rfl rfl
                have d6 : x 6 = .int .i64 (R - 1) := hdep ⟨6, .data⟩ (by simp) rfl rfl
                simp only [frm, List.foldl_cons, List.foldl_nil, Act.put, List.setIfInBounds_toArray, List.set_cons_zero, List.set_cons_succ] at hK ⊢
                clear hdep ho
                rw [d3, d6] at hK ⊢
                clear d3 d6
                rw [if_pos (by rfl)]
                go_simp
                refine (HHr.out _).mono ?_
                rintro e w' ⟨rfl, rfl⟩
                exact hK _ _ rfl (Below.refl _ _) (by simp)
              · cases Option.some.inj ho
                have d1 : x 1 = .int .i64 h := hdep ⟨1, .data⟩ (by simp) rfl rfl
                have d7 : x 7 = .int .i64 h := hdep ⟨7, .data⟩ (by simp) rfl rfl
                simp only [frm, List.foldl_cons, List.foldl_nil, Act.put, List.setIfInBounds_toArray, List.set_cons_zero, List.set_cons_succ] at hK ⊢
                clear hdep ho
                rw [d1, d7] at hK ⊢
                clear d1 d7
                rw [if_pos (by rfl)]
                go_simp
                exact hK _ _ rfl (Below.refl _ _) (by simp)
              · cases Option.some.inj ho
                have d8 : x 8 = .bool true := hdep ⟨8, .data⟩ (by simp) rfl rfl
                simp only [frm, List.foldl_cons, List.foldl_nil, Act.put, List.setIfInBounds_toArray, List.set_cons_zero, List.set_cons_succ] at hK ⊢
                clear hdep ho
                rw [d8] at hK ⊢
                clear d8
                rw [if_pos (by rfl)]
                go_simp
                exact hK _ _ rfl (Below.refl _ _) (by simp)
              · cases Option.some.inj ho
                have d9 : x 9 = .bool true := hdep ⟨9, .guard⟩ (by simp) rfl rfl
                simp only [frm, List.foldl_cons, List.foldl_nil, Act.put, List.setIfInBounds_toArray, List.set_cons_zero, List.set_cons_succ] at hK ⊢
                clear hdep ho
                rw [d9] at hK ⊢
                clear d9
                rw [if_pos (by rfl)]
                go_simp
                exact hK _ _ rfl (Below.refl _ _) (by simp)
              · cases Option.some.inj ho
                have d10 : x 10 = .pointer (some ⟨gH, 1, none⟩) := hdep ⟨10, .data⟩ (by simp) rfl rfl
                have d9 : x 9 = .bool true := hdep ⟨9, .guard⟩ (by simp) rfl rfl
                simp only [frm, List.foldl_cons, List.foldl_nil, Act.put, List.setIfInBounds_toArray, List.set_cons_zero, List.set_cons_succ] at hK ⊢
                clear hdep ho
                rw [d10, d9] at hK ⊢
                clear d10 d9
                rw [if_pos (by rfl)]
                go_simp
                exact hK _ _ rfl (Below.refl _ _) (by simp)
              · cases Option.some.inj ho
                have d9 : x 9 = .bool true := hdep ⟨9, .guard⟩ (by simp) rfl rfl
                simp only [frm, List.foldl_cons, List.foldl_nil, Act.put, List.setIfInBounds_toArray, List.set_cons_zero, List.set_cons_succ] at hK ⊢
                clear hdep ho
                rw [d9] at hK ⊢
                clear d9
                rw [if_pos (by rfl)]
                go_simp
                exact hK _ _ rfl (Below.refl _ _) (by simp)
              · cases Option.some.inj ho
                have d12 : x 12 = .pointer (some ⟨z + 1, 1, none⟩) := hdep ⟨12, .data⟩ (by simp) rfl rfl
                have d9 : x 9 = .bool true := hdep ⟨9, .guard⟩ (by simp) rfl rfl
                simp only [frm, List.foldl_cons, List.foldl_nil, Act.put, List.setIfInBounds_toArray, List.set_cons_zero, List.set_cons_succ] at hK ⊢
                clear hdep ho
                rw [d12, d9] at hK ⊢
                clear d12 d9
                rw [if_pos (by rfl)]
                go_simp
                exact hK _ _ rfl (Below.refl _ _) (by simp)
              · cases Option.some.inj ho
                have d9 : x 9 = .bool true := hdep ⟨9, .guard⟩ (by simp) rfl rfl
                simp only [frm, List.foldl_cons, List.foldl_nil, Act.put, List.setIfInBounds_toArray, List.set_cons_zero, List.set_cons_succ] at hK ⊢
                clear hdep ho
                rw [d9] at hK ⊢
                clear d9
                rw [if_pos (by rfl)]
                go_simp
                exact hK _ _ rfl (Below.refl _ _) (by simp)
              · cases Option.some.inj ho
                have d14 : x 14 = .pointer (some ⟨z, 1, none⟩) := hdep ⟨14, .data⟩ (by simp) rfl rfl
                have d9 : x 9 = .bool true := hdep ⟨9, .guard⟩ (by simp) rfl rfl
                simp only [frm, List.foldl_cons, List.foldl_nil, Act.put, List.setIfInBounds_toArray, List.set_cons_zero, List.set_cons_succ] at hK ⊢
                clear hdep ho
                rw [d14, d9] at hK ⊢
                clear d14 d9
                rw [if_pos (by rfl)]
                go_simp
                exact hK _ _ rfl (Below.refl _ _) (by simp)
              · cases Option.some.inj ho
                have d15 : x 15 = .int .i64 C := hdep ⟨15, .data⟩ (by simp) rfl rfl
                have d9 : x 9 = .bool true := hdep ⟨9, .guard⟩ (by simp) rfl rfl
                simp only [frm, List.foldl_cons, List.foldl_nil, Act.put, List.setIfInBounds_toArray, List.set_cons_zero, List.set_cons_succ] at hK ⊢
                clear hdep ho
                rw [d15, d9] at hK ⊢
                clear d15 d9
                rw [if_pos (by rfl)]
                go_simp
                exact hK _ _ rfl (Below.refl _ _) (by simp)
              · cases Option.some.inj ho
                have d13 : x 13 = .int .i64 c := hdep ⟨13, .data⟩ (by simp) rfl rfl
                have d16 : x 16 = .int .i64 (C - 1) := hdep ⟨16, .data⟩ (by simp) rfl rfl
                have d9 : x 9 = .bool true := hdep ⟨9, .guard⟩ (by simp) rfl rfl
                simp only [frm, List.foldl_cons, List.foldl_nil, Act.put, List.setIfInBounds_toArray, List.set_cons_zero, List.set_cons_succ] at hK ⊢
                clear hdep ho
                rw [d13, d16, d9] at hK ⊢
                clear d13 d16 d9
                rw [if_pos (by rfl)]
                go_simp
                refine (HHc.out _).mono ?_
                rintro e w' ⟨rfl, rfl⟩
                exact hK _ _ rfl (Below.refl _ _) (by simp)
              · cases Option.some.inj ho
                have d11 : x 11 = .int .i64 g := hdep ⟨11, .data⟩ (by simp) rfl rfl
                have d17 : x 17 = .int .i64 g := hdep ⟨17, .data⟩ (by simp) rfl rfl
                have d9 : x 9 = .bool true := hdep ⟨9, .guard⟩ (by simp) rfl rfl
                simp only [frm, List.foldl_cons, List.foldl_nil, Act.put, List.setIfInBounds_toArray, List.set_cons_zero, List.set_cons_succ] at hK ⊢
                clear hdep ho
                rw [d11, d17, d9] at hK ⊢
                clear d11 d17 d9
                rw [if_pos (by rfl)]
                go_simp
                exact hK _ _ rfl (Below.refl _ _) (by simp)
              · cases Option.some.inj ho
                have d9 : x 9 = .bool true := hdep ⟨9, .data⟩ (by simp) rfl rfl
                have d18 : x 18 = .bool true := hdep ⟨18, .data⟩ (by simp) rfl rfl
                simp only [frm, List.foldl_cons, List.foldl_nil, Act.put, List.setIfInBounds_toArray, List.set_cons_zero, List.set_cons_succ] at hK ⊢
                clear hdep ho
                rw [d9, d18] at hK ⊢
                clear d9 d18
                rw [if_pos (by rfl)]
                go_simp
                exact hK _ _ rfl (Below.refl _ _) (by simp)
              · cases Option.some.inj ho
                have d19 : x 19 = .bool true := hdep ⟨19, .data⟩ (by simp) rfl rfl
                simp only [frm, List.foldl_cons, List.foldl_nil, Act.put, List.setIfInBounds_toArray, List.set_cons_zero, List.set_cons_succ] at hK ⊢
                clear hdep ho
                rw [d19] at hK ⊢
                clear d19
                rw [if_pos (by rfl)]
                go_simp
                exact hK _ _ rfl (Below.refl _ _) (by simp)
              · cases Option.some.inj ho
                have d20 : x 20 = .bool true := hdep ⟨20, .guard⟩ (by simp) rfl rfl
                simp only [frm, List.foldl_cons, List.foldl_nil, Act.put, List.setIfInBounds_toArray, List.set_cons_zero, List.set_cons_succ] at hK ⊢
                clear hdep ho
                rw [d20] at hK ⊢
                clear d20
                rw [if_pos (by rfl)]
                go_simp
                exact hK _ _ rfl (Below.refl _ _) (by simp)
              · cases Option.some.inj ho
                have d21 : x 21 = .pointer (some ⟨gH, 2, none⟩) := hdep ⟨21, .data⟩ (by simp) rfl rfl
                have d20 : x 20 = .bool true := hdep ⟨20, .guard⟩ (by simp) rfl rfl
                simp only [frm, List.foldl_cons, List.foldl_nil, Act.put, List.setIfInBounds_toArray, List.set_cons_zero, List.set_cons_succ] at hK ⊢
                clear hdep ho
                rw [d21, d20] at hK ⊢
                clear d21 d20
                rw [if_pos (by rfl)]
                go_simp
                exact hK _ _ rfl (Below.refl _ _) (by simp)
              · cases Option.some.inj ho
                have d20 : x 20 = .bool true := hdep ⟨20, .guard⟩ (by simp) rfl rfl
                simp only [frm, List.foldl_cons, List.foldl_nil, Act.put, List.setIfInBounds_toArray, List.set_cons_zero, List.set_cons_succ] at hK ⊢
                clear hdep ho
                rw [d20] at hK ⊢
                clear d20
                rw [if_pos (by rfl)]
                go_simp
                exact hK _ _ rfl (Below.refl _ _) (by simp)
              · cases Option.some.inj ho
                have d23 : x 23 = .pointer (some ⟨z + 1, 2, none⟩) := hdep ⟨23, .data⟩ (by simp) rfl rfl
                have d20 : x 20 = .bool true := hdep ⟨20, .guard⟩ (by simp) rfl rfl
                simp only [frm, List.foldl_cons, List.foldl_nil, Act.put, List.setIfInBounds_toArray, List.set_cons_zero, List.set_cons_succ] at hK ⊢
                clear hdep ho
                rw [d23, d20] at hK ⊢
                clear d23 d20
                rw [if_pos (by rfl)]
                go_simp
                exact hK _ _ rfl (Below.refl _ _) (by simp)
              · cases Option.some.inj ho
                have d24 : x 24 = .bool false := hdep ⟨24, .data⟩ (by simp) rfl rfl
                have d20 : x 20 = .bool true := hdep ⟨20, .guard⟩ (by simp) rfl rfl
                simp only [frm, List.foldl_cons, List.foldl_nil, Act.put, List.setIfInBounds_toArray, List.set_cons_zero, List.set_cons_succ] at hK ⊢
                clear hdep ho
                rw [d24, d20] at hK ⊢
                clear d24 d20
                rw [if_pos (by rfl)]
                go_simp
                exact hK _ _ rfl (Below.refl _ _) (by simp)
              · cases Option.some.inj ho
                have d25 : x 25 = .bool false := hdep ⟨25, .guard⟩ (by simp) rfl rfl
                simp only [frm, List.foldl_cons, List.foldl_nil, Act.put, List.setIfInBounds_toArray, List.set_cons_zero, List.set_cons_succ] at hK ⊢
                clear hdep ho
                rw [d25] at hK ⊢
                clear d25
                rw [if_neg (by first | (simp [Region.wanted, yielded]; done) | (simp [Region.wanted, yielded, undef]; done))]
                exact hK _ _ rfl (Below.refl _ _) (by simp)
              · cases Option.some.inj ho
                have d25 : x 25 = .bool false := hdep ⟨25, .guard⟩ (by simp) rfl rfl
                simp only [frm, List.foldl_cons, List.foldl_nil, Act.put, List.setIfInBounds_toArray, List.set_cons_zero, List.set_cons_succ] at hK ⊢
                clear hdep ho
                rw [d25] at hK ⊢
                clear d25
                rw [if_neg (by first | (simp [Region.wanted, yielded]; done) | (simp [Region.wanted, yielded, undef]; done))]
                exact hK _ _ rfl (Below.refl _ _) (by simp)
              · cases Option.some.inj ho
                have d25 : x 25 = .bool false := hdep ⟨25, .guard⟩ (by simp) rfl rfl
                simp only [frm, List.foldl_cons, List.foldl_nil, Act.put, List.setIfInBounds_toArray, List.set_cons_zero, List.set_cons_succ] at hK ⊢
                clear hdep ho
                rw [d25] at hK ⊢
                clear d25
                rw [if_neg (by first | (simp [Region.wanted, yielded]; done) | (simp [Region.wanted, yielded, undef]; done))]
                exact hK _ _ rfl (Below.refl _ _) (by simp)
              · cases Option.some.inj ho
                have d25 : x 25 = .bool false := hdep ⟨25, .guard⟩ (by simp) rfl rfl
                simp only [frm, List.foldl_cons, List.foldl_nil, Act.put, List.setIfInBounds_toArray, List.set_cons_zero, List.set_cons_succ] at hK ⊢
                clear hdep ho
                rw [d25] at hK ⊢
                clear d25
                rw [if_neg (by first | (simp [Region.wanted, yielded]; done) | (simp [Region.wanted, yielded, undef]; done))]
                exact hK _ _ rfl (Below.refl _ _) (by simp)
              · cases Option.some.inj ho
                have d25 : x 25 = .bool false := hdep ⟨25, .guard⟩ (by simp) rfl rfl
                simp only [frm, List.foldl_cons, List.foldl_nil, Act.put, List.setIfInBounds_toArray, List.set_cons_zero, List.set_cons_succ] at hK ⊢
                clear hdep ho
                rw [d25] at hK ⊢
                clear d25
                rw [if_neg (by first | (simp [Region.wanted, yielded]; done) | (simp [Region.wanted, yielded, undef]; done))]
                exact hK _ _ rfl (Below.refl _ _) (by simp)
              · cases Option.some.inj ho
                have d25 : x 25 = .bool false := hdep ⟨25, .guard⟩ (by simp) rfl rfl
                simp only [frm, List.foldl_cons, List.foldl_nil, Act.put, List.setIfInBounds_toArray, List.set_cons_zero, List.set_cons_succ] at hK ⊢
                clear hdep ho
                rw [d25] at hK ⊢
                clear d25
                rw [if_neg (by first | (simp [Region.wanted, yielded]; done) | (simp [Region.wanted, yielded, undef]; done))]
                exact hK _ _ rfl (Below.refl _ _) (by simp)
              · cases Option.some.inj ho
                have d25 : x 25 = .bool false := hdep ⟨25, .data⟩ (by simp) rfl rfl
                have d31 : x 31 = undef := hdep ⟨31, .data⟩ (by simp) rfl rfl
                have d20 : x 20 = .bool true := hdep ⟨20, .guard⟩ (by simp) rfl rfl
                simp only [frm, List.foldl_cons, List.foldl_nil, Act.put, List.setIfInBounds_toArray, List.set_cons_zero, List.set_cons_succ] at hK ⊢
                clear hdep ho
                rw [d25, d31, d20] at hK ⊢
                clear d25 d31 d20
                rw [if_pos (by rfl)]
                go_simp
                exact hK _ _ rfl (Below.refl _ _) (by simp)
              · cases Option.some.inj ho
                have d22 : x 22 = .bool false := hdep ⟨22, .data⟩ (by simp) rfl rfl
                have d32 : x 32 = .bool false := hdep ⟨32, .data⟩ (by simp) rfl rfl
                have d20 : x 20 = .bool true := hdep ⟨20, .guard⟩ (by simp) rfl rfl
                simp only [frm, List.foldl_cons, List.foldl_nil, Act.put, List.setIfInBounds_toArray, List.set_cons_zero, List.set_cons_succ] at hK ⊢
                clear hdep ho
                rw [d22, d32, d20] at hK ⊢
                clear d22 d32 d20
                rw [if_pos (by rfl)]
                go_simp
                exact hK _ _ rfl (Below.refl _ _) (by simp)
              · cases Option.some.inj ho
                have d20 : x 20 = .bool true := hdep ⟨20, .data⟩ (by simp) rfl rfl
                have d33 : x 33 = .bool true := hdep ⟨33, .data⟩ (by simp) rfl rfl
                simp only [frm, List.foldl_cons, List.foldl_nil, Act.put, List.setIfInBounds_toArray, List.set_cons_zero, List.set_cons_succ] at hK ⊢
                clear hdep ho
                rw [d20, d33] at hK ⊢
                clear d20 d33
                rw [if_pos (by rfl)]
                go_simp
                exact hK _ _ rfl (Below.refl _ _) (by simp)
              · cases Option.some.inj ho
                have d34 : x 34 = .bool true := hdep ⟨34, .data⟩ (by simp) rfl rfl
                simp only [frm, List.foldl_cons, List.foldl_nil, Act.put, List.setIfInBounds_toArray, List.set_cons_zero, List.set_cons_succ] at hK ⊢
                clear hdep ho
                rw [d34] at hK ⊢
                clear d34
                rw [if_pos (by rfl)]
                go_simp
                exact hK _ _ rfl (Below.refl _ _) (by simp)
            --@@out
            case hend =>
              intro X W hbel hall _
              have d35 : X 35 = .bool true := hall (35, 6) (by simp)
              simp only [frm, List.foldl_cons, List.foldl_nil, Act.put, List.setIfInBounds_toArray, List.set_cons_zero, List.set_cons_succ]
              rw [d35]
              clear hall d35
              generalize X 0 = z0
              generalize X 1 = z1
              generalize X 2 = z2
              generalize X 3 = z3
              generalize X 4 = z4
              generalize X 5 = z5
              generalize X 6 = z6
              generalize X 7 = z7
              generalize X 8 = z8
              generalize X 9 = z9
              generalize X 10 = z10
              generalize X 11 = z11
              generalize X 12 = z12
              generalize X 13 = z13
              generalize X 14 = z14
              generalize X 15 = z15
              generalize X 16 = z16
              generalize X 17 = z17
              generalize X 18 = z18
              generalize X 19 = z19
              generalize X 20 = z20
              generalize X 21 = z21
              generalize X 22 = z22
              generalize X 23 = z23
              generalize X 24 = z24
              generalize X 25 = z25
              generalize X 26 = z26
              generalize X 27 = z27
              generalize X 28 = z28
              generalize X 29 = z29
              generalize X 30 = z30
              generalize X 31 = z31
              generalize X 32 = z32
              generalize X 33 = z33
              generalize X 34 = z34
              refine wpAny_done (by kernel_rfl) ?_ _
              have hbw := HBx.out.bel.trans (hbel.mono HBx.out.bel.size)
              go_wp2
              go_ret
              exact ⟨rfl, hbw⟩
          · have he : (c == C - 1) = e := by rw [← HEe.out]; rfl
            refine wpAny_relyG (g := 0) [(0, 56), (1, 57), (2, 58), (3, 59), (4, 60), (5, 61), (6, 62), (7, 63), (8, 64), (9, 65), (10, 66), (11, 67), (12, 68), (13, 69), (14, 70), (15, 71), (16, 72), (17, 73), (18, 74), (19, 75), (20, 76), (21, 77), (22, 78), (23, 79), (24, 80), (25, 81), (26, 82), (27, 83), (28, 84), (29, 85), (30, 86), (31, 87), (32, 88), (33, 89), (34, 90), (35, 6)] (condAt (C11t R C r c h g e z gH)) [] (by kernel_rfl) rfl (condAt_keep (C11t_stable R C r c h g e z gH)) ?hstep ?hend
            case hstep =>
              intro p hp o' ho x W hbel hdep K hK
              have hB := HBx.out.keep hbel
              obtain ⟨x0, x1, x2, x3, x4⟩ := fiveA hB.area
              obtain ⟨y0, y1, y2⟩ := threeA hB.caret
              obtain ⟨b0, b1, b2⟩ := threeA (HGH.out.below hbel HGH.out.lt)
              simp only [List.mem_cons, List.not_mem_nil, or_false] at hp
              rcases hp with rfl | rfl | rfl | rfl | rfl | rfl | rfl | rfl | rfl | rfl | rfl | rfl | rfl | rfl | rfl | rfl | rfl | rfl | rfl | rfl | rfl | rfl | rfl | rfl | rfl | rfl | rfl | rfl | rfl | rfl | rfl | rfl | rfl | rfl | rfl | rfl
              · cases Option.some.inj ho
                simp only [frm, List.foldl_cons, List.foldl_nil, Act.put, List.setIfInBounds_toArray, List.set_cons_zero, List.set_cons_succ] at hK ⊢
                clear hdep ho
                rw [if_pos (by rfl)]
                go_simp
                exact hK _ _ rfl (Below.refl _ _) (by simp)
              · cases Option.some.inj ho
                have d0 : x 0 = .pointer (some ⟨gH, 0, none⟩) := hdep ⟨0, .data⟩ (by simp) rfl rfl
                simp only [frm, List.foldl_cons, List.foldl_nil, Act.put, List.setIfInBounds_toArray, List.set_cons_zero, List.set_cons_succ] at hK ⊢
                clear hdep ho
                rw [d0] at hK ⊢
                clear d0
                rw [if_pos (by rfl)]
                go_simp
                exact hK _ _ rfl (Below.refl _ _) (by simp)
              · cases Option.some.inj ho
                simp only [frm, List.foldl_cons, List.foldl_nil, Act.put, List.setIfInBounds_toArray, List.set_cons_zero, List.set_cons_succ] at hK ⊢
                clear hdep ho
                rw [if_pos (by rfl)]
                go_simp
                exact hK _ _ rfl (Below.refl _ _) (by simp)
              · cases Option.some.inj ho
                have d2 : x 2 = .pointer (some ⟨z + 1, 0, none⟩) := hdep ⟨2, .data⟩ (by simp) rfl rfl
                simp only [frm, List.foldl_cons, List.foldl_nil, Act.put, List.setIfInBounds_toArray, List.set_cons_zero, List.set_cons_succ] at hK ⊢
                clear hdep ho
                rw [d2] at hK ⊢
                clear d2
                rw [if_pos (by rfl)]
                go_simp
                exact hK _ _ rfl (Below.refl _ _) (by simp)
              · cases Option.some.inj ho
                simp only [frm, List.foldl_cons, List.foldl_nil, Act.put, List.setIfInBounds_toArray, List.set_cons_zero, List.set_cons_succ] at hK ⊢
                clear hdep ho
                rw [if_pos (by rfl)]
                go_simp
                exact hK _ _ rfl (Below.refl _ _) (by simp)
              · cases Option.some.inj ho
                have d4 : x 4 = .pointer (some ⟨z, 0, none⟩) := hdep ⟨4, .data⟩ (by simp) rfl rfl
                simp only [frm, List.foldl_cons, List.foldl_nil, Act.put, List.setIfInBounds_toArray, List.set_cons_zero, List.set_cons_succ] at hK ⊢
                clear hdep ho
                rw [d4] at hK ⊢
                clear d4
                rw [if_pos (by rfl)]
                go_simp
                exact hK _ _ rfl (Below.refl _ _) (by simp)
              · cases Option.some.inj ho
                have d5 : x 5 = .int .i64 R := hdep ⟨5, .data⟩ (by simp) rfl rfl
                simp only [frm, List.foldl_cons, List.foldl_nil, Act.put, List.setIfInBounds_toArray, List.set_cons_zero, List.set_cons_succ] at hK ⊢
                clear hdep ho
                rw [d5] at hK ⊢
                clear d5
                rw [if_pos (by rfl)]
                go_simp
                exact hK _ _ rfl (Below.refl _ _) (by simp)
              · cases Option.some.inj ho
                have d3 : x 3 = .int .i64 r := hdep ⟨3, .data⟩ (by simp) rfl rfl
                have d6 : x 6 = .int .i64 (R - 1) := hdep ⟨6, .data⟩ (by simp) rfl rfl
                simp only [frm, List.foldl_cons, List.foldl_nil, Act.put, List.setIfInBounds_toArray, List.set_cons_zero, List.set_cons_succ] at hK ⊢
                clear hdep ho
                rw [d3, d6] at hK ⊢
                clear d3 d6
                rw [if_pos (by rfl)]
                go_simp
                refine (HHr.out _).mono ?_
                rintro e w' ⟨rfl, rfl⟩
                exact hK _ _ rfl (Below.refl _ _) (by simp)
              · cases Option.some.inj ho
                have d1 : x 1 = .int .i64 h := hdep ⟨1, .data⟩ (by simp) rfl rfl
                have d7 : x 7 = .int .i64 h := hdep ⟨7, .data⟩ (by simp) rfl rfl
                simp only [frm, List.foldl_cons, List.foldl_nil, Act.put, List.setIfInBounds_toArray, List.set_cons_zero, List.set_cons_succ] at hK ⊢
                clear hdep ho
                rw [d1, d7] at hK ⊢
                clear d1 d7
                rw [if_pos (by rfl)]
                go_simp
                exact hK _ _ rfl (Below.refl _ _) (by simp)
              · cases Option.some.inj ho
                have d8 : x 8 = .bool true := hdep ⟨8, .data⟩ (by simp) rfl rfl
                simp only [frm, List.foldl_cons, List.foldl_nil, Act.put, List.setIfInBounds_toArray, List.set_cons_zero, List.set_cons_succ] at hK ⊢
                clear hdep ho
                rw [d8] at hK ⊢
                clear d8
                rw [if_pos (by rfl)]
                go_simp
                exact hK _ _ rfl (Below.refl _ _) (by simp)
              · cases Option.some.inj ho
                have d9 : x 9 = .bool true := hdep ⟨9, .guard⟩ (by simp) rfl rfl
                simp only [frm, List.foldl_cons, List.foldl_nil, Act.put, List.setIfInBounds_toArray, List.set_cons_zero, List.set_cons_succ] at hK ⊢
                clear hdep ho
                rw [d9] at hK ⊢
                clear d9
                rw [if_pos (by rfl)]
                go_simp
                exact hK _ _ rfl (Below.refl _ _) (by simp)
              · cases Option.some.inj ho
                have d10 : x 10 = .pointer (some ⟨gH, 1, none⟩) := hdep ⟨10, .data⟩ (by simp) rfl rfl
                have d9 : x 9 = .bool true := hdep ⟨9, .guard⟩ (by simp) rfl rfl
                simp only [frm, List.foldl_cons, List.foldl_nil, Act.put, List.setIfInBounds_toArray, List.set_cons_zero, List.set_cons_succ] at hK ⊢
                clear hdep ho
                rw [d10, d9] at hK ⊢
                clear d10 d9
                rw [if_pos (by rfl)]
                go_simp
                exact hK _ _ rfl (Below.refl _ _) (by simp)
              · cases Option.some.inj ho
                have d9 : x 9 = .bool true := hdep ⟨9, .guard⟩ (by simp) rfl rfl
                simp only [frm, List.foldl_cons, List.foldl_nil, Act.put, List.setIfInBounds_toArray, List.set_cons_zero, List.set_cons_succ] at hK ⊢
                clear hdep ho
                rw [d9] at hK ⊢
                clear d9
                rw [if_pos (by rfl)]
                go_simp
                exact hK _ _ rfl (Below.refl _ _) (by simp)
              · cases Option.some.inj ho
                have d12 : x 12 = .pointer (some ⟨z + 1, 1, none⟩) := hdep ⟨12, .data⟩ (by simp) rfl rfl
                have d9 : x 9 = .bool true := hdep ⟨9, .guard⟩ (by simp) rfl rfl
                simp only [frm, List.foldl_cons, List.foldl_nil, Act.put, List.setIfInBounds_toArray, List.set_cons_zero, List.set_cons_succ] at hK ⊢
                clear hdep ho
                rw [d12, d9] at hK ⊢
                clear d12 d9
                rw [if_pos (by rfl)]
                go_simp
                exact hK _ _ rfl (Below.refl _ _) (by simp)
              · cases Option.some.inj ho
                have d9 : x 9 = .bool true := hdep ⟨9, .guard⟩ (by simp) rfl rfl
                simp only [frm, List.foldl_cons, List.foldl_nil, Act.put, List.setIfInBounds_toArray, List.set_cons_zero, List.set_cons_succ] at hK ⊢
                clear hdep ho
                rw [d9] at hK ⊢
                clear d9
                rw [if_pos (by rfl)]
                go_simp
                exact hK _ _ rfl (Below.refl _ _) (by simp)
              · cases Option.some.inj ho
                have d14 : x 14 = .pointer (some ⟨z, 1, none⟩) := hdep ⟨14, .data⟩ (by simp) rfl rfl
                have d9 : x 9 = .bool true := hdep ⟨9, .guard⟩ (by simp) rfl rfl
                simp only [frm, List.foldl_cons, List.foldl_nil, Act.put, List.setIfInBounds_toArray, List.set_cons_zero, List.set_cons_succ] at hK ⊢
                clear hdep ho
                rw [d14, d9] at hK ⊢
                clear d14 d9
                rw [if_pos (by rfl)]
                go_simp
                exact hK _ _ rfl (Below.refl _ _) (by simp)
              · cases Option.some.inj ho
                have d15 : x 15 = .int .i64 C := hdep ⟨15, .data⟩ (by simp) rfl rfl
                have d9 : x 9 = .bool true := hdep ⟨9, .guard⟩ (by simp) rfl rfl
                simp only [frm, List.foldl_cons, List.foldl_nil, Act.put, List.setIfInBounds_toArray, List.set_cons_zero, List.set_cons_succ] at hK ⊢
                clear hdep ho
                rw [d15, d9] at hK ⊢
                clear d15 d9
                rw [if_pos (by rfl)]
                go_simp
                exact hK _ _ rfl (Below.refl _ _) (by simp)
              · cases Option.some.inj ho
                have d13 : x 13 = .int .i64 c := hdep ⟨13, .data⟩ (by simp) rfl rfl
                have d16 : x 16 = .int .i64 (C - 1) := hdep ⟨16, .data⟩ (by simp) rfl rfl
                have d9 : x 9 = .bool true := hdep ⟨9, .guard⟩ (by simp) rfl rfl
                simp only [frm, List.foldl_cons, List.foldl_nil, Act.put, List.setIfInBounds_toArray, List.set_cons_zero, List.set_cons_succ] at hK ⊢
                clear hdep ho
                rw [d13, d16, d9] at hK ⊢
                clear d13 d16 d9
                rw [if_pos (by rfl)]
                go_simp
                refine (HHc.out _).mono ?_
                rintro e w' ⟨rfl, rfl⟩
                exact hK _ _ rfl (Below.refl _ _) (by simp)
              · cases Option.some.inj ho
                have d11 : x 11 = .int .i64 g := hdep ⟨11, .data⟩ (by simp) rfl rfl
                have d17 : x 17 = .int .i64 g := hdep ⟨17, .data⟩ (by simp) rfl rfl
                have d9 : x 9 = .bool true := hdep ⟨9, .guard⟩ (by simp) rfl rfl
                simp only [frm, List.foldl_cons, List.foldl_nil, Act.put, List.setIfInBounds_toArray, List.set_cons_zero, List.set_cons_succ] at hK ⊢
                clear hdep ho
                rw [d11, d17, d9] at hK ⊢
                clear d11 d17 d9
                rw [if_pos (by rfl)]
                go_simp
                exact hK _ _ rfl (Below.refl _ _) (by simp)
              · cases Option.some.inj ho
                have d9 : x 9 = .bool true := hdep ⟨9, .data⟩ (by simp) rfl rfl
                have d18 : x 18 = .bool true := hdep ⟨18, .data⟩ (by simp) rfl rfl
                simp only [frm, List.foldl_cons, List.foldl_nil, Act.put, List.setIfInBounds_toArray, List.set_cons_zero, List.set_cons_succ] at hK ⊢
                clear hdep ho
                rw [d9, d18] at hK ⊢
                clear d9 d18
                rw [if_pos (by rfl)]
                go_simp
                exact hK _ _ rfl (Below.refl _ _) (by simp)
              · cases Option.some.inj ho
                have d19 : x 19 = .bool true := hdep ⟨19, .data⟩ (by simp) rfl rfl
                simp only [frm, List.foldl_cons, List.foldl_nil, Act.put, List.setIfInBounds_toArray, List.set_cons_zero, List.set_cons_succ] at hK ⊢
                clear hdep ho
                rw [d19] at hK ⊢
                clear d19
                rw [if_pos (by rfl)]
                go_simp
                exact hK _ _ rfl (Below.refl _ _) (by simp)
              · cases Option.some.inj ho
                have d20 : x 20 = .bool true := hdep ⟨20, .guard⟩ (by simp) rfl rfl
                simp only [frm, List.foldl_cons, List.foldl_nil, Act.put, List.setIfInBounds_toArray, List.set_cons_zero, List.set_cons_succ] at hK ⊢
                clear hdep ho
                rw [d20] at hK ⊢
                clear d20
                rw [if_pos (by rfl)]
                go_simp
                exact hK _ _ rfl (Below.refl _ _) (by simp)
              · cases Option.some.inj ho
                have d21 : x 21 = .pointer (some ⟨gH, 2, none⟩) := hdep ⟨21, .data⟩ (by simp) rfl rfl
                have d20 : x 20 = .bool true := hdep ⟨20, .guard⟩ (by simp) rfl rfl
                simp only [frm, List.foldl_cons, List.foldl_nil, Act.put, List.setIfInBounds_toArray, List.set_cons_zero, List.set_cons_succ] at hK ⊢
                clear hdep ho
                rw [d21, d20] at hK ⊢
                clear d21 d20
                rw [if_pos (by rfl)]
                go_simp
                exact hK _ _ rfl (Below.refl _ _) (by simp)
              · cases Option.some.inj ho
                have d20 : x 20 = .bool true := hdep ⟨20, .guard⟩ (by simp) rfl rfl
                simp only [frm, List.foldl_cons, List.foldl_nil, Act.put, List.setIfInBounds_toArray, List.set_cons_zero, List.set_cons_succ] at hK ⊢
                clear hdep ho
                rw [d20] at hK ⊢
                clear d20
                rw [if_pos (by rfl)]
                go_simp
                exact hK _ _ rfl (Below.refl _ _) (by simp)
              · cases Option.some.inj ho
                have d23 : x 23 = .pointer (some ⟨z + 1, 2, none⟩) := hdep ⟨23, .data⟩ (by simp) rfl rfl
                have d20 : x 20 = .bool true := hdep ⟨20, .guard⟩ (by simp) rfl rfl
                simp only [frm, List.foldl_cons, List.foldl_nil, Act.put, List.setIfInBounds_toArray, List.set_cons_zero, List.set_cons_succ] at hK ⊢
                clear hdep ho
                rw [d23, d20] at hK ⊢
                clear d23 d20
                rw [if_pos (by rfl)]
                go_simp
                exact hK _ _ rfl (Below.refl _ _) (by simp)
              · cases Option.some.inj ho
                have d24 : x 24 = .bool true := hdep ⟨24, .data⟩ (by simp) rfl rfl
                have d20 : x 20 = .bool true := hdep ⟨20, .guard⟩ (by simp) rfl rfl
                simp only [frm, List.foldl_cons, List.foldl_nil, Act.put, List.setIfInBounds_toArray, List.set_cons_zero, List.set_cons_succ] at hK ⊢
                clear hdep ho
                rw [d24, d20] at hK ⊢
                clear d24 d20
                rw [if_pos (by rfl)]
                go_simp
                exact hK _ _ rfl (Below.refl _ _) (by simp)
              · cases Option.some.inj ho
                have d25 : x 25 = .bool true := hdep ⟨25, .guard⟩ (by simp) rfl rfl
                simp only [frm, List.foldl_cons, List.foldl_nil, Act.put, List.setIfInBounds_toArray, List.set_cons_zero, List.set_cons_succ] at hK ⊢
                clear hdep ho
                rw [d25] at hK ⊢
                clear d25
                rw [if_pos (by rfl)]
                go_simp
                exact hK _ _ rfl (Below.refl _ _) (by simp)
              · cases Option.some.inj ho
                have d26 : x 26 = .pointer (some ⟨z + 1, 1, none⟩) := hdep ⟨26, .data⟩ (by simp) rfl rfl
                have d25 : x 25 = .bool true := hdep ⟨25, .guard⟩ (by simp) rfl rfl
                simp only [frm, List.foldl_cons, List.foldl_nil, Act.put, List.setIfInBounds_toArray, List.set_cons_zero, List.set_cons_succ] at hK ⊢
                clear hdep ho
                rw [d26, d25] at hK ⊢
                clear d26 d25
                rw [if_pos (by rfl)]
                go_simp
                exact hK _ _ rfl (Below.refl _ _) (by simp)
              · cases Option.some.inj ho
                have d25 : x 25 = .bool true := hdep ⟨25, .guard⟩ (by simp) rfl rfl
                simp only [frm, List.foldl_cons, List.foldl_nil, Act.put, List.setIfInBounds_toArray, List.set_cons_zero, List.set_cons_succ] at hK ⊢
                clear hdep ho
                rw [d25] at hK ⊢
                clear d25
                rw [if_pos (by rfl)]
                go_simp
                exact hK _ _ rfl (Below.refl _ _) (by simp)
              · cases Option.some.inj ho
                have d28 : x 28 = .pointer (some ⟨z, 1, none⟩) := hdep ⟨28, .data⟩ (by simp) rfl rfl
                have d25 : x 25 = .bool true := hdep ⟨25, .guard⟩ (by simp) rfl rfl
                simp only [frm, List.foldl_cons, List.foldl_nil, Act.put, List.setIfInBounds_toArray, List.set_cons_zero, List.set_cons_succ] at hK ⊢
                clear hdep ho
                rw [d28, d25] at hK ⊢
                clear d28 d25
                rw [if_pos (by rfl)]
                go_simp
                exact hK _ _ rfl (Below.refl _ _) (by simp)
              · cases Option.some.inj ho
                have d29 : x 29 = .int .i64 C := hdep ⟨29, .data⟩ (by simp) rfl rfl
                have d25 : x 25 = .bool true := hdep ⟨25, .guard⟩ (by simp) rfl rfl
                simp only [frm, List.foldl_cons, List.foldl_nil, Act.put, List.setIfInBounds_toArray, List.set_cons_zero, List.set_cons_succ] at hK ⊢
                clear hdep ho
                rw [d29, d25] at hK ⊢
                clear d29 d25
                rw [if_pos (by rfl)]
                go_simp
                exact hK _ _ rfl (Below.refl _ _) (by simp)
              · cases Option.some.inj ho
                have d27 : x 27 = .int .i64 c := hdep ⟨27, .data⟩ (by simp) rfl rfl
                have d30 : x 30 = .int .i64 (C - 1) := hdep ⟨30, .data⟩ (by simp) rfl rfl
                have d25 : x 25 = .bool true := hdep ⟨25, .guard⟩ (by simp) rfl rfl
                simp only [frm, List.foldl_cons, List.foldl_nil, Act.put, List.setIfInBounds_toArray, List.set_cons_zero, List.set_cons_succ] at hK ⊢
                clear hdep ho
                rw [d27, d30, d25] at hK ⊢
                clear d27 d30 d25
                rw [if_pos (by rfl)]
                go_simp
                exact hK _ _ rfl (Below.refl _ _) (by simp)
              · cases Option.some.inj ho
                have d25 : x 25 = .bool true := hdep ⟨25, .data⟩ (by simp) rfl rfl
                have d31 : x 31 = .bool e := hdep ⟨31, .data⟩ (by simp) rfl rfl
                have d20 : x 20 = .bool true := hdep ⟨20, .guard⟩ (by simp) rfl rfl
                simp only [frm, List.foldl_cons, List.foldl_nil, Act.put, List.setIfInBounds_toArray, List.set_cons_zero, List.set_cons_succ] at hK ⊢
                clear hdep ho
                rw [d25, d31, d20] at hK ⊢
                clear d25 d31 d20
                rw [if_pos (by rfl)]
                go_simp
                exact hK _ _ rfl (Below.refl _ _) (by simp)
              · cases Option.some.inj ho
                have d22 : x 22 = .bool e := hdep ⟨22, .data⟩ (by simp) rfl rfl
                have d32 : x 32 = .bool e := hdep ⟨32, .data⟩ (by simp) rfl rfl
                have d20 : x 20 = .bool true := hdep ⟨20, .guard⟩ (by simp) rfl rfl
                simp only [frm, List.foldl_cons, List.foldl_nil, Act.put, List.setIfInBounds_toArray, List.set_cons_zero, List.set_cons_succ] at hK ⊢
                clear hdep ho
                rw [d22, d32, d20] at hK ⊢
                clear d22 d32 d20
                rw [if_pos (by rfl)]
                go_simp
                exact hK _ _ rfl (Below.refl _ _) (by simp)
              · cases Option.some.inj ho
                have d20 : x 20 = .bool true := hdep ⟨20, .data⟩ (by simp) rfl rfl
                have d33 : x 33 = .bool true := hdep ⟨33, .data⟩ (by simp) rfl rfl
                simp only [frm, List.foldl_cons, List.foldl_nil, Act.put, List.setIfInBounds_toArray, List.set_cons_zero, List.set_cons_succ] at hK ⊢
                clear hdep ho
                rw [d20, d33] at hK ⊢
                clear d20 d33
                rw [if_pos (by rfl)]
                go_simp
                exact hK _ _ rfl (Below.refl _ _) (by simp)
              · cases Option.some.inj ho
                have d34 : x 34 = .bool true := hdep ⟨34, .data⟩ (by simp) rfl rfl
                simp only [frm, List.foldl_cons, List.foldl_nil, Act.put, List.setIfInBounds_toArray, List.set_cons_zero, List.set_cons_succ] at hK ⊢
                clear hdep ho
                rw [d34] at hK ⊢
                clear d34
                rw [if_pos (by rfl)]
                go_simp
                exact hK _ _ rfl (Below.refl _ _) (by simp)
            --@@out
            case hend =>
              intro X W hbel hall _
              have d35 : X 35 = .bool true := hall (35, 6) (by simp)
              simp only [frm, List.foldl_cons, List.foldl_nil, Act.put, List.setIfInBounds_toArray, List.set_cons_zero, List.set_cons_succ]
              rw [d35]
              clear hall d35
              generalize X 0 = z0
              generalize X 1 = z1
              generalize X 2 = z2
              generalize X 3 = z3
              generalize X 4 = z4
              generalize X 5 = z5
              generalize X 6 = z6
              generalize X 7 = z7
              generalize X 8 = z8
              generalize X 9 = z9
              generalize X 10 = z10
              generalize X 11 = z11
              generalize X 12 = z12
              generalize X 13 = z13
              generalize X 14 = z14
              generalize X 15 = z15
              generalize X 16 = z16
              generalize X 17 = z17
              generalize X 18 = z18
              generalize X 19 = z19
              generalize X 20 = z20
              generalize X 21 = z21
              generalize X 22 = z22
              generalize X 23 = z23
              generalize X 24 = z24
              generalize X 25 = z25
              generalize X 26 = z26
              generalize X 27 = z27
              generalize X 28 = z28
              generalize X 29 = z29
              generalize X 30 = z30
              generalize X 31 = z31
              generalize X 32 = z32
              generalize X 33 = z33
              generalize X 34 = z34
              refine wpAny_done (by kernel_rfl) ?_ _
              have hbw := HBx.out.bel.trans (hbel.mono HBx.out.bel.size)
              go_wp2
              go_ret
              exact ⟨rfl, hbw⟩
end Go.Proofs.Ytdcbiknlihfhcaa.caretGoes
