/- The walk through CaretMoves: for every area, caret and number it returns true and leaves old memory as it was. Conditions: none. -/
import Derived.Test.YtdcbiknlihfhcaaCaretA
namespace Go.Proofs.Ytdcbiknlihfhcaa.caretMoves
open Go.ChangeShapes Go.WideShapes Go.RowKit
theorem stable_new {n : Nat} {t : TypeId} {zs : List Value} : Stable (fun v W => ∃ g, v = .pointer (some ⟨g, 0, none⟩) ∧ n ≤ g ∧ Blk W g t zs) := by
  rintro v w w' ⟨g, e, hn, h⟩ hb
  exact ⟨g, e, hn, h.below hb h.lt⟩
def C5 (R C T B : Int) (o : Bool) (r c : Int) (q : Bool) (n u d l m : Int) (n0 : Nat) : List (Value → World → Prop) := [fun v _ => v = .agg #[.int .i64 R, .int .i64 C, .int .i64 T, .int .i64 B, .bool o],
  fun v _ => v = .agg #[.int .i64 r, .int .i64 c, .bool q],
  fun v _ => v = .int .i64 n,
  fun v _ => v = .agg #[.int .i64 u, .int .i64 c, .bool false],
  fun v _ => v = .agg #[.int .i64 R, .int .i64 C, .int .i64 T, .int .i64 B, .bool o],
  fun v _ => v = .agg #[.int .i64 r, .int .i64 c, .bool q],
  fun v _ => v = .int .i64 n,
  fun v _ => v = .agg #[.int .i64 d, .int .i64 c, .bool false],
  fun v _ => v = .agg #[.int .i64 R, .int .i64 C, .int .i64 T, .int .i64 B, .bool o],
  fun v _ => v = .agg #[.int .i64 r, .int .i64 c, .bool q],
  fun v _ => v = .int .i64 n,
  fun v _ => v = .agg #[.int .i64 r, .int .i64 l, .bool false],
  fun v _ => v = .agg #[.int .i64 R, .int .i64 C, .int .i64 T, .int .i64 B, .bool o],
  fun v _ => v = .agg #[.int .i64 r, .int .i64 c, .bool q],
  fun v _ => v = .int .i64 n,
  fun v _ => v = .agg #[.int .i64 r, .int .i64 m, .bool false],
  (fun v W => ∃ g, v = .pointer (some ⟨g, 0, none⟩) ∧ n0 ≤ g ∧ Blk W g 25 [.int .i64 0, .int .i64 0, .bool false]),
  (fun v W => ∃ g, v = .pointer (some ⟨g, 0, none⟩) ∧ n0 ≤ g ∧ Blk W g 25 [.int .i64 0, .int .i64 0, .bool false]),
  (fun v W => ∃ g, v = .pointer (some ⟨g, 0, none⟩) ∧ n0 ≤ g ∧ Blk W g 25 [.int .i64 0, .int .i64 0, .bool false]),
  (fun v W => ∃ g, v = .pointer (some ⟨g, 0, none⟩) ∧ n0 ≤ g ∧ Blk W g 25 [.int .i64 0, .int .i64 0, .bool false])]
theorem C5_stable (R C T B : Int) (o : Bool) (r c : Int) (q : Bool) (n u d l m : Int) (n0 : Nat) : ∀ p ∈ C5 R C T B o r c q n u d l m n0, Stable p := (stable_cons (stable_eq _) (stable_cons (stable_eq _) (stable_cons (stable_eq _) (stable_cons (stable_eq _) (stable_cons (stable_eq _) (stable_cons (stable_eq _) (stable_cons (stable_eq _) (stable_cons (stable_eq _) (stable_cons (stable_eq _) (stable_cons (stable_eq _) (stable_cons (stable_eq _) (stable_cons (stable_eq _) (stable_cons (stable_eq _) (stable_cons (stable_eq _) (stable_cons (stable_eq _) (stable_cons (stable_eq _) (stable_cons stable_new (stable_cons stable_new (stable_cons stable_new (stable_cons stable_new stable_nil))))))))))))))))))))
def C7 (R C T B : Int) (o : Bool) (r c n k u d l m : Int) (z : Nat) : List (Value → World → Prop) := [fun v _ => v = .agg #[.int .i64 u, .int .i64 c, .bool false],
  fun v _ => v = .agg #[.int .i64 R, .int .i64 C, .int .i64 T, .int .i64 B, .bool o],
  fun v _ => v = .agg #[.int .i64 R, .int .i64 C, .int .i64 T, .int .i64 B, .bool o],
  fun v _ => v = .pointer (some ⟨z + 1, 0, none⟩),
  fun v _ => v = .int .i64 r,
  fun v _ => v = .int .i64 n,
  fun v _ => v = .int .i64 u,
  fun v _ => v = .pointer (some ⟨z + 1, 1, none⟩),
  fun v _ => v = .int .i64 c,
  fun v _ => v = .agg #[.int .i64 u, .int .i64 c, .bool false],
  fun v _ => v = .bool true,
  fun v _ => v = .bool true,
  fun v _ => v = .agg #[.int .i64 d, .int .i64 c, .bool false],
  fun v _ => v = .agg #[.int .i64 R, .int .i64 C, .int .i64 T, .int .i64 B, .bool o],
  fun v _ => v = .agg #[.int .i64 R, .int .i64 C, .int .i64 T, .int .i64 B, .bool o],
  fun v _ => v = .pointer (some ⟨z + 1, 0, none⟩),
  fun v _ => v = .int .i64 r,
  fun v _ => v = .int .i64 n,
  fun v _ => v = .int .i64 d,
  fun v _ => v = .pointer (some ⟨z + 1, 1, none⟩),
  fun v _ => v = .int .i64 c,
  fun v _ => v = .agg #[.int .i64 d, .int .i64 c, .bool false],
  fun v _ => v = .bool true,
  fun v _ => v = .bool true,
  fun v _ => v = .bool true,
  fun v _ => v = .agg #[.int .i64 r, .int .i64 l, .bool false],
  fun v _ => v = .pointer (some ⟨z + 1, 0, none⟩),
  fun v _ => v = .int .i64 r,
  fun v _ => v = .pointer (some ⟨z + 1, 1, none⟩),
  fun v _ => v = .int .i64 c,
  fun v _ => v = .int .i64 k,
  fun v _ => v = .int .i64 (c - k),
  fun v _ => v = .pointer (some ⟨z, 1, none⟩),
  fun v _ => v = .int .i64 C,
  fun v _ => v = .int .i64 (C - 1),
  fun v _ => v = .int .i64 l,
  fun v _ => v = .agg #[.int .i64 r, .int .i64 l, .bool false],
  fun v _ => v = .bool true,
  fun v _ => v = .bool true,
  fun v _ => v = .bool true,
  fun v _ => v = .agg #[.int .i64 r, .int .i64 m, .bool false],
  fun v _ => v = .pointer (some ⟨z + 1, 0, none⟩),
  fun v _ => v = .int .i64 r,
  fun v _ => v = .pointer (some ⟨z + 1, 1, none⟩),
  fun v _ => v = .int .i64 c,
  fun v _ => v = .int .i64 k,
  fun v _ => v = .int .i64 (c + k),
  fun v _ => v = .pointer (some ⟨z, 1, none⟩),
  fun v _ => v = .int .i64 C,
  fun v _ => v = .int .i64 (C - 1),
  fun v _ => v = .int .i64 m,
  fun v _ => v = .agg #[.int .i64 r, .int .i64 m, .bool false],
  fun v _ => v = .bool true,
  fun v _ => v = .bool true,
  fun v _ => v = .bool true]
theorem C7_stable (R C T B : Int) (o : Bool) (r c n k u d l m : Int) (z : Nat) : ∀ p ∈ C7 R C T B o r c n k u d l m z, Stable p := (stable_cons (stable_eq _) (stable_cons (stable_eq _) (stable_cons (stable_eq _) (stable_cons (stable_eq _) (stable_cons (stable_eq _) (stable_cons (stable_eq _) (stable_cons (stable_eq _) (stable_cons (stable_eq _) (stable_cons (stable_eq _) (stable_cons (stable_eq _) (stable_cons (stable_eq _) (stable_cons (stable_eq _) (stable_cons (stable_eq _) (stable_cons (stable_eq _) (stable_cons (stable_eq _) (stable_cons (stable_eq _) (stable_cons (stable_eq _) (stable_cons (stable_eq _) (stable_cons (stable_eq _) (stable_cons (stable_eq _) (stable_cons (stable_eq _) (stable_cons (stable_eq _) (stable_cons (stable_eq _) (stable_cons (stable_eq _) (stable_cons (stable_eq _) (stable_cons (stable_eq _) (stable_cons (stable_eq _) (stable_cons (stable_eq _) (stable_cons (stable_eq _) (stable_cons (stable_eq _) (stable_cons (stable_eq _) (stable_cons (stable_eq _) (stable_cons (stable_eq _) (stable_cons (stable_eq _) (stable_cons (stable_eq _) (stable_cons (stable_eq _) (stable_cons (stable_eq _) (stable_cons (stable_eq _) (stable_cons (stable_eq _) (stable_cons (stable_eq _) (stable_cons (stable_eq _) (stable_cons (stable_eq _) (stable_cons (stable_eq _) (stable_cons (stable_eq _) (stable_cons (stable_eq _) (stable_cons (stable_eq _) (stable_cons (stable_eq _) (stable_cons (stable_eq _) (stable_cons (stable_eq _) (stable_cons (stable_eq _) (stable_cons (stable_eq _) (stable_cons (stable_eq _) (stable_cons (stable_eq _) (stable_cons (stable_eq _) (stable_cons (stable_eq _) stable_nil)))))))))))))))))))))))))))))))))))))))))))))))))))))))
set_option maxRecDepth 100000 in
set_option maxHeartbeats 12800000 in
theorem walk (a : AreaV) (k : CaretV) (n : Int) (w : World) (_ : fit64 a.1 ∧ fit64 a.2.1 ∧ fit64 a.2.2.1 ∧ fit64 a.2.2.2.1) (hk : fit64 k.1 ∧ fit64 k.2.1) (hn : (Lit.int .i64 n).wf = true) :
    Calls Try.prog 4 #[.agg #[.int .i64 a.1, .int .i64 a.2.1, .int .i64 a.2.2.1, .int .i64 a.2.2.2.1, .bool a.2.2.2.2], .agg #[.int .i64 k.1, .int .i64 k.2.1, .bool k.2.2], .int .i64 n] w fun e w' => e = .returned (.bool true) ∧ Below w.heap.size w w' := by
  obtain ⟨R, C, T, B, o⟩ := a
  obtain ⟨r, c, q⟩ := k
  simp only at hk ⊢
  obtain ⟨z, hz⟩ : ∃ z, Hid (w.heap.size = z) := ⟨_, rfl⟩
  have HRef : Hid (∀ W, Calls Try.prog 9 #[.agg #[.int .i64 R, .int .i64 C, .int .i64 T, .int .i64 B, .bool o]] W fun en w' => en = .returned (.agg #[.int .i64 R, .int .i64 C, .int .i64 T, .int .i64 B, .bool o]) ∧ Below W.heap.size W w') := fun W => ref_c R C T B o W
  have HRi : Hid (∀ W, Calls Try.prog 8 #[.agg #[.int .i64 R, .int .i64 C, .int .i64 T, .int .i64 B, .bool o]] W (BoolPost W (areaOk R C T B))) := fun W => refRight_c R C T B o W
  have hnr := range_i64 n hn
  clear hk hn
  cases hX : areaOk R C T B with
  | false =>
    rw [hX] at HRi
    clear hX
    go_enter Try.func4, Try.ntmps4
    go_upto_region 1 with (fail)
    rw [hz.out]
    refine name_wp (fun w1 => BothAt w w1 z R C T B o r c q) (BothAt.new w hz.out R C T B o r c q) ?_
    intro w1 hb1
    have HB1 := Lib.hid hb1
    clear hb1
    go_wp2_with fail
    refine (awake14_c w1).mono ?_
    rintro en w2 ⟨rfl, hb2⟩
    have HB2 := Lib.hid (HB1.out.keep hb2)
    clear hb2
    obtain ⟨x0, x1, x2, x3, x4⟩ := fiveA HB2.out.area
    obtain ⟨y0, y1, y2⟩ := threeA HB2.out.caret
    go_wp2_with fail
    refine (HRef.out _).mono ?_
    rintro en w3 ⟨rfl, hb3⟩
    have HB3 := Lib.hid (HB2.out.keep hb3)
    clear hb3 x0 x1 x2 x3 x4 y0 y1 y2
    obtain ⟨x0, x1, x2, x3, x4⟩ := fiveA HB3.out.area
    obtain ⟨y0, y1, y2⟩ := threeA HB3.out.caret
    go_wp2_with fail
    refine (HRi.out _).mono ?_
    rintro en w4 ⟨rfl, hb4⟩
    have HB4 := Lib.hid (HB3.out.keep hb4)
    clear hb4 x0 x1 x2 x3 x4 y0 y1 y2
    obtain ⟨x0, x1, x2, x3, x4⟩ := fiveA HB4.out.area
    obtain ⟨y0, y1, y2⟩ := threeA HB4.out.caret
    go_wp2
    go_ret
    exact ⟨rfl, HB4.out.bel⟩
  | true =>
    rw [hX] at HRi
    have HA := Lib.hid (areaOk_of hX)
    clear hX
    have HFi : Hid (∀ W, Calls Try.prog 13 #[.agg #[.int .i64 R, .int .i64 C, .int .i64 T, .int .i64 B, .bool o], .agg #[.int .i64 r, .int .i64 c, .bool q]] W (BoolPost W (fitsZ R C r c q))) := fun W => fits_c R C T B o r c q W ⟨HA.out.2.2.1, HA.out.2.2.2.1⟩
    cases hY : fitsZ R C r c q with
    | false =>
      rw [hY] at HFi
      clear hY
      go_enter Try.func4, Try.ntmps4
      go_upto_region 1 with (fail)
      rw [hz.out]
      refine name_wp (fun w1 => BothAt w w1 z R C T B o r c q) (BothAt.new w hz.out R C T B o r c q) ?_
      intro w1 hb1
      have HB1 := Lib.hid hb1
      clear hb1
      go_wp2_with fail
      refine (awake14_c w1).mono ?_
      rintro en w2 ⟨rfl, hb2⟩
      have HB2 := Lib.hid (HB1.out.keep hb2)
      clear hb2
      obtain ⟨x0, x1, x2, x3, x4⟩ := fiveA HB2.out.area
      obtain ⟨y0, y1, y2⟩ := threeA HB2.out.caret
      go_wp2_with fail
      refine (HRef.out _).mono ?_
      rintro en w3 ⟨rfl, hb3⟩
      have HB3 := Lib.hid (HB2.out.keep hb3)
      clear hb3 x0 x1 x2 x3 x4 y0 y1 y2
      obtain ⟨x0, x1, x2, x3, x4⟩ := fiveA HB3.out.area
      obtain ⟨y0, y1, y2⟩ := threeA HB3.out.caret
      go_wp2_with fail
      refine (HRi.out _).mono ?_
      rintro en w4 ⟨rfl, hb4⟩
      have HB4 := Lib.hid (HB3.out.keep hb4)
      clear hb4 x0 x1 x2 x3 x4 y0 y1 y2
      obtain ⟨x0, x1, x2, x3, x4⟩ := fiveA HB4.out.area
      obtain ⟨y0, y1, y2⟩ := threeA HB4.out.caret
      go_wp2_with fail
      refine (HFi.out _).mono ?_
      rintro en w5 ⟨rfl, hb5⟩
      have HB5 := Lib.hid (HB4.out.keep hb5)
      clear hb5 x0 x1 x2 x3 x4 y0 y1 y2
      obtain ⟨x0, x1, x2, x3, x4⟩ := fiveA HB5.out.area
      obtain ⟨y0, y1, y2⟩ := threeA HB5.out.caret
      go_wp2
      go_ret
      exact ⟨rfl, HB5.out.bel⟩
    | true =>
      rw [hY] at HFi
      have HF := Lib.hid (fitsZ_iff.1 hY)
      clear hY
      obtain ⟨k, hk⟩ : ∃ k, min (max n 1) 300 = k := ⟨_, rfl⟩
      have HFo : Hid (1 ≤ R ∧ R ≤ 60 ∧ 1 ≤ C ∧ C ≤ 132 ∧ 0 ≤ T ∧ T ≤ B ∧ B < R ∧ 0 ≤ r ∧ r < R ∧ 0 ≤ c ∧ c < C ∧ 1 ≤ k ∧ k ≤ 300) := Lib.hid (by have := HA.out; have := HF.out; omega)
      have HUp : Hid (∀ W, Calls Try.prog 14 #[.agg #[.int .i64 R, .int .i64 C, .int .i64 T, .int .i64 B, .bool o], .agg #[.int .i64 r, .int .i64 c, .bool q], .int .i64 n] W (CaretPost W (upZ T r (timesZ n)) c false)) := fun W => up_c R C T B o r c q n W (by have := HFo.out; omega)
      have HDn : Hid (∀ W, Calls Try.prog 15 #[.agg #[.int .i64 R, .int .i64 C, .int .i64 T, .int .i64 B, .bool o], .agg #[.int .i64 r, .int .i64 c, .bool q], .int .i64 n] W (CaretPost W (downZ R B r (timesZ n)) c false)) := fun W => down_c R C T B o r c q n W (by have := HFo.out; omega)
      have HLe : Hid (∀ W, Calls Try.prog 16 #[.agg #[.int .i64 R, .int .i64 C, .int .i64 T, .int .i64 B, .bool o], .agg #[.int .i64 r, .int .i64 c, .bool q], .int .i64 n] W (CaretPost W r (holdZ (c - k) 0 (C - 1)) false)) := fun W => by
        have h := left_c R C T B o r c q n W (by have := HFo.out; omega)
        rwa [show c - min (max n 1) c = holdZ (c - k) 0 (C - 1) by have := HFo.out; unfold holdZ; split <;> (try split) <;> omega] at h
      have HAh : Hid (∀ W, Calls Try.prog 17 #[.agg #[.int .i64 R, .int .i64 C, .int .i64 T, .int .i64 B, .bool o], .agg #[.int .i64 r, .int .i64 c, .bool q], .int .i64 n] W (CaretPost W r (holdZ (c + k) 0 (C - 1)) false)) := fun W => by
        have h := ahead_c R C T B o r c q n W (by have := HFo.out; omega)
        rwa [show c + min (max n 1) (C - 1 - c) = holdZ (c + k) 0 (C - 1) by have := HFo.out; unfold holdZ; split <;> (try split) <;> omega] at h
      have HSu : Hid (∀ W, Calls Try.prog 18 #[.agg #[.int .i64 R, .int .i64 C, .int .i64 T, .int .i64 B, .bool o], .int .i64 r, .int .i64 (-1), .int .i64 n] W fun en w' => en = .returned (.int .i64 (upZ T r (timesZ n))) ∧ Below W.heap.size W w') := fun W => stepUp_c R C T B o r n W (by have := HFo.out; omega) (by have := HFo.out; omega)
      have HSd : Hid (∀ W, Calls Try.prog 18 #[.agg #[.int .i64 R, .int .i64 C, .int .i64 T, .int .i64 B, .bool o], .int .i64 r, .int .i64 1, .int .i64 n] W fun en w' => en = .returned (.int .i64 (downZ R B r (timesZ n))) ∧ Below W.heap.size W w') := fun W => stepDown_c R C T B o r n W (by have := HFo.out; omega) (by have := HFo.out; omega) (by have := HFo.out; omega)
      have HHl : Hid (∀ W, Calls Try.prog 19 #[.int .i64 (c - k), .int .i64 0, .int .i64 (C - 1)] W fun en w' => en = .returned (.int .i64 (holdZ (c - k) 0 (C - 1))) ∧ w' = W) := fun W => refHold_c _ _ _ W
      have HHm : Hid (∀ W, Calls Try.prog 19 #[.int .i64 (c + k), .int .i64 0, .int .i64 (C - 1)] W fun en w' => en = .returned (.int .i64 (holdZ (c + k) 0 (C - 1))) ∧ w' = W) := fun W => refHold_c _ _ _ W
      generalize upZ T r (timesZ n) = u at HUp HSu
      generalize downZ R B r (timesZ n) = d at HDn HSd
      generalize holdZ (c - k) 0 (C - 1) = l at HLe HHl
      generalize holdZ (c + k) 0 (C - 1) = m at HAh HHm
      unfold CaretPost caretA at HUp HDn HLe HAh
      have HKk := Lib.hid hk
      clear hk hnr
      go_enter Try.func4, Try.ntmps4
      go_upto_region 1 with (fail)
      rw [hz.out]
      refine name_wp (fun w1 => BothAt w w1 z R C T B o r c q) (BothAt.new w hz.out R C T B o r c q) ?_
      intro w1 hb1
      have HB1 := Lib.hid hb1
      clear hb1
      go_wp2_with fail
      refine (awake14_c w1).mono ?_
      rintro en w2 ⟨rfl, hb2⟩
      have HB2 := Lib.hid (HB1.out.keep hb2)
      clear hb2
      obtain ⟨x0, x1, x2, x3, x4⟩ := fiveA HB2.out.area
      obtain ⟨y0, y1, y2⟩ := threeA HB2.out.caret
      go_wp2_with fail
      refine (HRef.out _).mono ?_
      rintro en w3 ⟨rfl, hb3⟩
      have HB3 := Lib.hid (HB2.out.keep hb3)
      clear hb3 x0 x1 x2 x3 x4 y0 y1 y2
      obtain ⟨x0, x1, x2, x3, x4⟩ := fiveA HB3.out.area
      obtain ⟨y0, y1, y2⟩ := threeA HB3.out.caret
      go_wp2_with fail
      refine (HRi.out _).mono ?_
      rintro en w4 ⟨rfl, hb4⟩
      have HB4 := Lib.hid (HB3.out.keep hb4)
      clear hb4 x0 x1 x2 x3 x4 y0 y1 y2
      obtain ⟨x0, x1, x2, x3, x4⟩ := fiveA HB4.out.area
      obtain ⟨y0, y1, y2⟩ := threeA HB4.out.caret
      go_wp2_with fail
      refine (HFi.out _).mono ?_
      rintro en w5 ⟨rfl, hb5⟩
      have HB5 := Lib.hid (HB4.out.keep hb5)
      clear hb5 x0 x1 x2 x3 x4 y0 y1 y2
      obtain ⟨x0, x1, x2, x3, x4⟩ := fiveA HB5.out.area
      obtain ⟨y0, y1, y2⟩ := threeA HB5.out.caret
      clear x0 x1 x2 x3 x4 y0 y1 y2
      go_upto_region 5 with (fail)
      refine wp_region_any (by kernel_rfl) ?_
      change wpAny _ _ _ _ _ _ _ (World.drew _)
      have HBx := Lib.hid (HB5.out.keep (Below.refl _ _).drew)
      generalize w5.drew = w6 at *
      obtain ⟨n0, hn0⟩ : ∃ n, Hid (w6.heap.size = n) := ⟨_, rfl⟩
      refine R3.wpAny_relyG (g := 4) [(0, 24), (1, 25), (2, 26), (3, 27), (4, 28), (5, 29), (6, 30), (7, 31), (8, 32), (9, 33), (10, 34), (11, 35), (12, 36), (13, 37), (14, 38), (15, 39), (16, 7), (17, 8), (18, 9), (19, 10)] (condAt (C5 R C T B o r c q n u d l m n0)) [16, 17, 18, 19] (by kernel_rfl) rfl (condAt_keep (C5_stable R C T B o r c q n u d l m n0)) ?hstep ?hend
      case hstep =>
        intro p hp o' ho x W hbel hdep K hK
        have hB := HBx.out.keep hbel
        obtain ⟨x0, x1, x2, x3, x4⟩ := fiveA hB.area
        obtain ⟨y0, y1, y2⟩ := threeA hB.caret
        simp only [List.mem_cons, List.not_mem_nil, or_false] at hp
        rcases hp with rfl | rfl | rfl | rfl | rfl | rfl | rfl | rfl | rfl | rfl | rfl | rfl | rfl | rfl | rfl | rfl | rfl | rfl | rfl | rfl
        · cases Option.some.inj ho
          simp only [frm, List.foldl_cons, List.foldl_nil, Act.put, List.setIfInBounds_toArray, List.set_cons_zero, List.set_cons_succ] at hK ⊢
          clear hdep ho
          rw [if_pos (by rfl)]
          go_simp
          exact hK _ _ rfl (Below.refl _ _) (by simp)
        · cases Option.some.inj ho
          simp only [frm, List.foldl_cons, List.foldl_nil, Act.put, List.setIfInBounds_toArray, List.set_cons_zero, List.set_cons_succ] at hK ⊢
          clear hdep ho
          rw [if_pos (by rfl)]
          go_simp
          exact hK _ _ rfl (Below.refl _ _) (by simp)
        · cases Option.some.inj ho
          simp only [frm, List.foldl_cons, List.foldl_nil, Act.put, List.setIfInBounds_toArray, List.set_cons_zero, List.set_cons_succ] at hK ⊢
          clear hdep ho
          rw [if_pos (by rfl)]
          go_simp
          exact hK _ _ rfl (Below.refl _ _) (by simp)
        · cases Option.some.inj ho
          have d0 : x 0 = .agg #[.int .i64 R, .int .i64 C, .int .i64 T, .int .i64 B, .bool o] := hdep ⟨0, .data⟩ (by simp) rfl rfl
          have d1 : x 1 = .agg #[.int .i64 r, .int .i64 c, .bool q] := hdep ⟨1, .data⟩ (by simp) rfl rfl
          have d2 : x 2 = .int .i64 n := hdep ⟨2, .data⟩ (by simp) rfl rfl
          simp only [frm, List.foldl_cons, List.foldl_nil, Act.put, List.setIfInBounds_toArray, List.set_cons_zero, List.set_cons_succ] at hK ⊢
          clear hdep ho
          rw [d0, d1, d2] at hK ⊢
          clear d0 d1 d2
          rw [if_pos (by rfl)]
          go_simp
          refine (HUp.out _).mono ?_
          rintro e w' ⟨rfl, hb⟩
          exact hK _ _ rfl hb (by simp)
        · cases Option.some.inj ho
          simp only [frm, List.foldl_cons, List.foldl_nil, Act.put, List.setIfInBounds_toArray, List.set_cons_zero, List.set_cons_succ] at hK ⊢
          clear hdep ho
          rw [if_pos (by rfl)]
          go_simp
          exact hK _ _ rfl (Below.refl _ _) (by simp)
        · cases Option.some.inj ho
          simp only [frm, List.foldl_cons, List.foldl_nil, Act.put, List.setIfInBounds_toArray, List.set_cons_zero, List.set_cons_succ] at hK ⊢
          clear hdep ho
          rw [if_pos (by rfl)]
          go_simp
          exact hK _ _ rfl (Below.refl _ _) (by simp)
        · cases Option.some.inj ho
          simp only [frm, List.foldl_cons, List.foldl_nil, Act.put, List.setIfInBounds_toArray, List.set_cons_zero, List.set_cons_succ] at hK ⊢
          clear hdep ho
          rw [if_pos (by rfl)]
          go_simp
          exact hK _ _ rfl (Below.refl _ _) (by simp)
        · cases Option.some.inj ho
          have d4 : x 4 = .agg #[.int .i64 R, .int .i64 C, .int .i64 T, .int .i64 B, .bool o] := hdep ⟨4, .data⟩ (by simp) rfl rfl
          have d5 : x 5 = .agg #[.int .i64 r, .int .i64 c, .bool q] := hdep ⟨5, .data⟩ (by simp) rfl rfl
          have d6 : x 6 = .int .i64 n := hdep ⟨6, .data⟩ (by simp) rfl rfl
          simp only [frm, List.foldl_cons, List.foldl_nil, Act.put, List.setIfInBounds_toArray, List.set_cons_zero, List.set_cons_succ] at hK ⊢
          clear hdep ho
          rw [d4, d5, d6] at hK ⊢
          clear d4 d5 d6
          rw [if_pos (by rfl)]
          go_simp
          refine (HDn.out _).mono ?_
          rintro e w' ⟨rfl, hb⟩
          exact hK _ _ rfl hb (by simp)
        · cases Option.some.inj ho
          simp only [frm, List.foldl_cons, List.foldl_nil, Act.put, List.setIfInBounds_toArray, List.set_cons_zero, List.set_cons_succ] at hK ⊢
          clear hdep ho
          rw [if_pos (by rfl)]
          go_simp
          exact hK _ _ rfl (Below.refl _ _) (by simp)
        · cases Option.some.inj ho
          simp only [frm, List.foldl_cons, List.foldl_nil, Act.put, List.setIfInBounds_toArray, List.set_cons_zero, List.set_cons_succ] at hK ⊢
          clear hdep ho
          rw [if_pos (by rfl)]
          go_simp
          exact hK _ _ rfl (Below.refl _ _) (by simp)
        · cases Option.some.inj ho
          simp only [frm, List.foldl_cons, List.foldl_nil, Act.put, List.setIfInBounds_toArray, List.set_cons_zero, List.set_cons_succ] at hK ⊢
          clear hdep ho
          rw [if_pos (by rfl)]
          go_simp
          exact hK _ _ rfl (Below.refl _ _) (by simp)
        · cases Option.some.inj ho
          have d8 : x 8 = .agg #[.int .i64 R, .int .i64 C, .int .i64 T, .int .i64 B, .bool o] := hdep ⟨8, .data⟩ (by simp) rfl rfl
          have d9 : x 9 = .agg #[.int .i64 r, .int .i64 c, .bool q] := hdep ⟨9, .data⟩ (by simp) rfl rfl
          have d10 : x 10 = .int .i64 n := hdep ⟨10, .data⟩ (by simp) rfl rfl
          simp only [frm, List.foldl_cons, List.foldl_nil, Act.put, List.setIfInBounds_toArray, List.set_cons_zero, List.set_cons_succ] at hK ⊢
          clear hdep ho
          rw [d8, d9, d10] at hK ⊢
          clear d8 d9 d10
          rw [if_pos (by rfl)]
          go_simp
          refine (HLe.out _).mono ?_
          rintro e w' ⟨rfl, hb⟩
          exact hK _ _ rfl hb (by simp)
        · cases Option.some.inj ho
          simp only [frm, List.foldl_cons, List.foldl_nil, Act.put, List.setIfInBounds_toArray, List.set_cons_zero, List.set_cons_succ] at hK ⊢
          clear hdep ho
          rw [if_pos (by rfl)]
          go_simp
          exact hK _ _ rfl (Below.refl _ _) (by simp)
        · cases Option.some.inj ho
          simp only [frm, List.foldl_cons, List.foldl_nil, Act.put, List.setIfInBounds_toArray, List.set_cons_zero, List.set_cons_succ] at hK ⊢
          clear hdep ho
          rw [if_pos (by rfl)]
          go_simp
          exact hK _ _ rfl (Below.refl _ _) (by simp)
        · cases Option.some.inj ho
          simp only [frm, List.foldl_cons, List.foldl_nil, Act.put, List.setIfInBounds_toArray, List.set_cons_zero, List.set_cons_succ] at hK ⊢
          clear hdep ho
          rw [if_pos (by rfl)]
          go_simp
          exact hK _ _ rfl (Below.refl _ _) (by simp)
        · cases Option.some.inj ho
          have d12 : x 12 = .agg #[.int .i64 R, .int .i64 C, .int .i64 T, .int .i64 B, .bool o] := hdep ⟨12, .data⟩ (by simp) rfl rfl
          have d13 : x 13 = .agg #[.int .i64 r, .int .i64 c, .bool q] := hdep ⟨13, .data⟩ (by simp) rfl rfl
          have d14 : x 14 = .int .i64 n := hdep ⟨14, .data⟩ (by simp) rfl rfl
          simp only [frm, List.foldl_cons, List.foldl_nil, Act.put, List.setIfInBounds_toArray, List.set_cons_zero, List.set_cons_succ] at hK ⊢
          clear hdep ho
          rw [d12, d13, d14] at hK ⊢
          clear d12 d13 d14
          rw [if_pos (by rfl)]
          go_simp
          refine (HAh.out _).mono ?_
          rintro e w' ⟨rfl, hb⟩
          exact hK _ _ rfl hb (by simp)
        · cases Option.some.inj ho
          simp only [frm, List.foldl_cons, List.foldl_nil, Act.put, List.setIfInBounds_toArray, List.set_cons_zero, List.set_cons_succ] at hK ⊢
          clear hdep ho
          rw [if_pos (by rfl)]
          go_simp
          exact hK _ _ ⟨_, rfl, (by rw [← hn0.out]; exact hbel.size), Blk.new _ _ [.int .i64 0, .int .i64 0, .bool false]⟩ (alloc_below' _ _) (fun _ => ⟨Nat.le_refl _, by simp [bk]⟩)
        · cases Option.some.inj ho
          simp only [frm, List.foldl_cons, List.foldl_nil, Act.put, List.setIfInBounds_toArray, List.set_cons_zero, List.set_cons_succ] at hK ⊢
          clear hdep ho
          rw [if_pos (by rfl)]
          go_simp
          exact hK _ _ ⟨_, rfl, (by rw [← hn0.out]; exact hbel.size), Blk.new _ _ [.int .i64 0, .int .i64 0, .bool false]⟩ (alloc_below' _ _) (fun _ => ⟨Nat.le_refl _, by simp [bk]⟩)
        · cases Option.some.inj ho
          simp only [frm, List.foldl_cons, List.foldl_nil, Act.put, List.setIfInBounds_toArray, List.set_cons_zero, List.set_cons_succ] at hK ⊢
          clear hdep ho
          rw [if_pos (by rfl)]
          go_simp
          exact hK _ _ ⟨_, rfl, (by rw [← hn0.out]; exact hbel.size), Blk.new _ _ [.int .i64 0, .int .i64 0, .bool false]⟩ (alloc_below' _ _) (fun _ => ⟨Nat.le_refl _, by simp [bk]⟩)
        · cases Option.some.inj ho
          simp only [frm, List.foldl_cons, List.foldl_nil, Act.put, List.setIfInBounds_toArray, List.set_cons_zero, List.set_cons_succ] at hK ⊢
          clear hdep ho
          rw [if_pos (by rfl)]
          go_simp
          exact hK _ _ ⟨_, rfl, (by rw [← hn0.out]; exact hbel.size), Blk.new _ _ [.int .i64 0, .int .i64 0, .bool false]⟩ (alloc_below' _ _) (fun _ => ⟨Nat.le_refl _, by simp [bk]⟩)
      case hend =>
        intro x W hbel hall hdist
        have e0 : x 3 = .agg #[.int .i64 u, .int .i64 c, .bool false] := hall (3, 27) (by simp)
        have e1 : x 7 = .agg #[.int .i64 d, .int .i64 c, .bool false] := hall (7, 31) (by simp)
        have e2 : x 11 = .agg #[.int .i64 r, .int .i64 l, .bool false] := hall (11, 35) (by simp)
        have e3 : x 15 = .agg #[.int .i64 r, .int .i64 m, .bool false] := hall (15, 39) (by simp)
        obtain ⟨g0, d0, n10, k0⟩ : ∃ g, x 16 = .pointer (some ⟨g, 0, none⟩) ∧ n0 ≤ g ∧ Blk W g 25 [.int .i64 0, .int .i64 0, .bool false] := hall (16, 7) (by simp)
        obtain ⟨g1, d1, n11, k1⟩ : ∃ g, x 17 = .pointer (some ⟨g, 0, none⟩) ∧ n0 ≤ g ∧ Blk W g 25 [.int .i64 0, .int .i64 0, .bool false] := hall (17, 8) (by simp)
        obtain ⟨g2, d2, n12, k2⟩ : ∃ g, x 18 = .pointer (some ⟨g, 0, none⟩) ∧ n0 ≤ g ∧ Blk W g 25 [.int .i64 0, .int .i64 0, .bool false] := hall (18, 9) (by simp)
        obtain ⟨g3, d3, n13, k3⟩ : ∃ g, x 19 = .pointer (some ⟨g, 0, none⟩) ∧ n0 ≤ g ∧ Blk W g 25 [.int .i64 0, .int .i64 0, .bool false] := hall (19, 10) (by simp)
        have hne : g0 ≠ g1 ∧ g0 ≠ g2 ∧ g0 ≠ g3 ∧ g1 ≠ g2 ∧ g1 ≠ g3 ∧ g2 ≠ g3 := by
          have t01 := hdist (16, 7) (by simp) (17, 8) (by simp) (by simp) (by simp) (by simp)
          have t02 := hdist (16, 7) (by simp) (18, 9) (by simp) (by simp) (by simp) (by simp)
          have t03 := hdist (16, 7) (by simp) (19, 10) (by simp) (by simp) (by simp) (by simp)
          have t12 := hdist (17, 8) (by simp) (18, 9) (by simp) (by simp) (by simp) (by simp)
          have t13 := hdist (17, 8) (by simp) (19, 10) (by simp) (by simp) (by simp) (by simp)
          have t23 := hdist (18, 9) (by simp) (19, 10) (by simp) (by simp) (by simp) (by simp)
          rw [d0, d1] at t01
          rw [d0, d2] at t02
          rw [d0, d3] at t03
          rw [d1, d2] at t12
          rw [d1, d3] at t13
          rw [d2, d3] at t23
          exact ⟨t01, t02, t03, t12, t13, t23⟩
        obtain ⟨ne01, ne02, ne03, ne12, ne13, ne23⟩ := hne
        simp only [frm, List.foldl_cons, List.foldl_nil, Act.put, List.setIfInBounds_toArray, List.set_cons_zero, List.set_cons_succ]
        rw [e0, e1, e2, e3, d0, d1, d2, d3]
        clear hall hdist e0 e1 e2 e3 d0 d1 d2 d3
        generalize x 0 = v0
        generalize x 1 = v1
        generalize x 2 = v2
        generalize x 4 = v4
        generalize x 5 = v5
        generalize x 6 = v6
        generalize x 8 = v8
        generalize x 9 = v9
        generalize x 10 = v10
        generalize x 12 = v12
        generalize x 13 = v13
        generalize x 14 = v14
        refine wpAny_ready (rs := [20]) (by kernel_rfl) (by simp) (AllReady.cons (o := ⟨none, .store 25 (.tmp 7) (.tmp 27), _, _, _, _⟩) rfl (fun K hK => ?_) AllReady.nil)
        refine step_store_blk rfl rfl 25 (.tmp 7) (.tmp 27) rfl g0 rfl [.int .i64 u, .int .i64 c, .bool false] rfl [.int .i64 0, .int .i64 0, .bool false] 25 (k0) rfl (one_caretV _ _ _) sizeCaret ?_
        intro w10 hb10 hg10
        refine hK _ _ ?_
        clear hK K
        try simp only [Act.put, List.setIfInBounds_toArray, List.set_cons_zero, List.set_cons_succ]
        replace k1 := k1.grown hg10 (fun e => ne01 (Option.some.inj e).symm)
        replace k2 := k2.grown hg10 (fun e => ne02 (Option.some.inj e).symm)
        replace k3 := k3.grown hg10 (fun e => ne03 (Option.some.inj e).symm)
        replace k0 := hb10
        clear hb10
        refine wpAny_ready (rs := [21]) (by kernel_rfl) (by simp) (AllReady.cons (o := ⟨none, .store 25 (.tmp 8) (.tmp 31), _, _, _, _⟩) rfl (fun K hK => ?_) AllReady.nil)
        refine step_store_blk rfl rfl 25 (.tmp 8) (.tmp 31) rfl g1 rfl [.int .i64 d, .int .i64 c, .bool false] rfl [.int .i64 0, .int .i64 0, .bool false] 25 (k1) rfl (one_caretV _ _ _) sizeCaret ?_
        intro w11 hb11 hg11
        refine hK _ _ ?_
        clear hK K
        try simp only [Act.put, List.setIfInBounds_toArray, List.set_cons_zero, List.set_cons_succ]
        replace k0 := k0.grown hg11 (fun e => ne01 (Option.some.inj e))
        replace k2 := k2.grown hg11 (fun e => ne12 (Option.some.inj e).symm)
        replace k3 := k3.grown hg11 (fun e => ne13 (Option.some.inj e).symm)
        replace k1 := hb11
        clear hb11
        refine wpAny_ready (rs := [22]) (by kernel_rfl) (by simp) (AllReady.cons (o := ⟨none, .store 25 (.tmp 9) (.tmp 35), _, _, _, _⟩) rfl (fun K hK => ?_) AllReady.nil)
        refine step_store_blk rfl rfl 25 (.tmp 9) (.tmp 35) rfl g2 rfl [.int .i64 r, .int .i64 l, .bool false] rfl [.int .i64 0, .int .i64 0, .bool false] 25 (k2) rfl (one_caretV _ _ _) sizeCaret ?_
        intro w12 hb12 hg12
        refine hK _ _ ?_
        clear hK K
        try simp only [Act.put, List.setIfInBounds_toArray, List.set_cons_zero, List.set_cons_succ]
        replace k0 := k0.grown hg12 (fun e => ne02 (Option.some.inj e))
        replace k1 := k1.grown hg12 (fun e => ne12 (Option.some.inj e))
        replace k3 := k3.grown hg12 (fun e => ne23 (Option.some.inj e).symm)
        replace k2 := hb12
        clear hb12
        refine wpAny_ready (rs := [23]) (by kernel_rfl) (by simp) (AllReady.cons (o := ⟨none, .store 25 (.tmp 10) (.tmp 39), _, _, _, _⟩) rfl (fun K hK => ?_) AllReady.nil)
        refine step_store_blk rfl rfl 25 (.tmp 10) (.tmp 39) rfl g3 rfl [.int .i64 r, .int .i64 m, .bool false] rfl [.int .i64 0, .int .i64 0, .bool false] 25 (k3) rfl (one_caretV _ _ _) sizeCaret ?_
        intro w13 hb13 hg13
        refine hK _ _ ?_
        clear hK K
        try simp only [Act.put, List.setIfInBounds_toArray, List.set_cons_zero, List.set_cons_succ]
        replace k0 := k0.grown hg13 (fun e => ne03 (Option.some.inj e))
        replace k1 := k1.grown hg13 (fun e => ne13 (Option.some.inj e))
        replace k2 := k2.grown hg13 (fun e => ne23 (Option.some.inj e))
        replace k3 := hb13
        clear hb13
        refine wpAny_done (by kernel_rfl) ?_ _
        have HS0 := Lib.hid (HBx.out.bel.trans (hbel.mono HBx.out.bel.size))
        have HSz := Lib.hid HBx.out.bel.size
        have hkeep : ∀ {g : Nat} {t : TypeId} {cs : List Value}, g < n0 → Blk w6 g t cs → Blk w13 g t cs := fun h hb => ((((hb.below hbel hb.lt).grown hg10 (fun e => by have := Option.some.inj e; omega)).grown hg11 (fun e => by have := Option.some.inj e; omega)).grown hg12 (fun e => by have := Option.some.inj e; omega)).grown hg13 (fun e => by have := Option.some.inj e; omega)
        have HB13 : Hid (BothAt w w13 z R C T B o r c q) := by
          have hn := hn0.out
          have hl := HBx.out.caret.lt
          refine ⟨hkeep (by omega) HBx.out.area, hkeep (by omega) HBx.out.caret, ?_⟩
          have h10 := HS0.out.grown hg10 HS0.out.size (fun k e => by have := Option.some.inj e; have := HSz.out; omega)
          have h11 := h10.grown hg11 h10.size (fun k e => by have := Option.some.inj e; have := HSz.out; omega)
          have h12 := h11.grown hg12 h11.size (fun k e => by have := Option.some.inj e; have := HSz.out; omega)
          exact h12.grown hg13 h12.size (fun k e => by have := Option.some.inj e; have := HSz.out; omega)
        have HG0 := Lib.hid k0
        have HG1 := Lib.hid k1
        have HG2 := Lib.hid k2
        have HG3 := Lib.hid k3
        clear hkeep HBx HSz HS0 hbel k0 k1 k2 k3 hg10 hg11 hg12 hg13 n10 n11 n12 n13 ne01 ne02 ne03 ne12 ne13 ne23
        have hk := HKk.out
        go_upto_region 7 with (fail)
        clear hk
        refine wp_region_any (by kernel_rfl) ?_
        change wpAny _ _ _ _ _ _ _ (World.drew _)
        have HBx := Lib.hid (HB13.out.keep (Below.refl _ _).drew)
        replace HG0 := Lib.hid HG0.out.drew
        replace HG1 := Lib.hid HG1.out.drew
        replace HG2 := Lib.hid HG2.out.drew
        replace HG3 := Lib.hid HG3.out.drew
        generalize w13.drew = w14 at *
        have hw1 : IntKind.i64.wrap (c - k) = c - k := IntWalk.i64_in _ (by have := HFo.out; omega)
        have hw2 : IntKind.i64.wrap (c + k) = c + k := IntWalk.i64_in _ (by have := HFo.out; omega)
        have hw3 : IntKind.i64.wrap (C - 1) = C - 1 := IntWalk.i64_in _ (by have := HFo.out; omega)
        have heqU := fun W => run_eq_caret W u c false
        have heqD := fun W => run_eq_caret W d c false
        have heqL := fun W => run_eq_caret W r l false
        have heqM := fun W => run_eq_caret W r m false
        refine wpAny_relyG (g := 0) [(0, 43), (1, 44), (2, 45), (3, 46), (4, 47), (5, 48), (6, 49), (7, 50), (8, 51), (9, 52), (10, 53), (11, 54), (12, 55), (13, 56), (14, 57), (15, 58), (16, 59), (17, 60), (18, 61), (19, 62), (20, 63), (21, 64), (22, 65), (23, 66), (24, 67), (25, 68), (26, 69), (27, 70), (28, 71), (29, 72), (30, 73), (31, 74), (32, 75), (33, 76), (34, 77), (35, 78), (36, 79), (37, 80), (38, 81), (39, 82), (40, 83), (41, 84), (42, 85), (43, 86), (44, 87), (45, 88), (46, 89), (47, 90), (48, 91), (49, 92), (50, 93), (51, 94), (52, 95), (53, 96), (54, 6)] (condAt (C7 R C T B o r c n k u d l m z)) [] (by kernel_rfl) rfl (condAt_keep (C7_stable R C T B o r c n k u d l m z)) ?hstep ?hend
        case hstep =>
          intro p hp o' ho x W hbel hdep K hK
          have hB := HBx.out.keep hbel
          obtain ⟨x0, x1, x2, x3, x4⟩ := fiveA hB.area
          obtain ⟨y0, y1, y2⟩ := threeA hB.caret
          obtain ⟨p0, q0, s0⟩ := threeA (HG0.out.below hbel HG0.out.lt)
          obtain ⟨p1, q1, s1⟩ := threeA (HG1.out.below hbel HG1.out.lt)
          obtain ⟨p2, q2, s2⟩ := threeA (HG2.out.below hbel HG2.out.lt)
          obtain ⟨p3, q3, s3⟩ := threeA (HG3.out.below hbel HG3.out.lt)
          simp only [List.mem_cons, List.not_mem_nil, or_false] at hp
          rcases hp with rfl | rfl | rfl | rfl | rfl | rfl | rfl | rfl | rfl | rfl | rfl | rfl | rfl | rfl | rfl | rfl | rfl | rfl | rfl | rfl | rfl | rfl | rfl | rfl | rfl | rfl | rfl | rfl | rfl | rfl | rfl | rfl | rfl | rfl | rfl | rfl | rfl | rfl | rfl | rfl | rfl | rfl | rfl | rfl | rfl | rfl | rfl | rfl | rfl | rfl | rfl | rfl | rfl | rfl | rfl
          · cases Option.some.inj ho
            simp only [frm, List.foldl_cons, List.foldl_nil, Act.put, List.setIfInBounds_toArray, List.set_cons_zero, List.set_cons_succ] at hK ⊢
            clear hdep ho
            rw [if_pos (by rfl)]
            go_simp
            exact hK _ _ rfl (Below.refl _ _) (by simp)
          · cases Option.some.inj ho
            simp only [frm, List.foldl_cons, List.foldl_nil, Act.put, List.setIfInBounds_toArray, List.set_cons_zero, List.set_cons_succ] at hK ⊢
            clear hdep ho
            rw [if_pos (by rfl)]
            go_simp
            exact hK _ _ rfl (Below.refl _ _) (by simp)
          · cases Option.some.inj ho
            have d1 : x 1 = .agg #[.int .i64 R, .int .i64 C, .int .i64 T, .int .i64 B, .bool o] := hdep ⟨1, .data⟩ (by simp) rfl rfl
            simp only [frm, List.foldl_cons, List.foldl_nil, Act.put, List.setIfInBounds_toArray, List.set_cons_zero, List.set_cons_succ] at hK ⊢
            clear hdep ho
            rw [d1] at hK ⊢
            clear d1
            rw [if_pos (by rfl)]
            go_simp
            refine (HRef.out _).mono ?_
            rintro e w' ⟨rfl, hb⟩
            exact hK _ _ rfl hb (by simp)
          · cases Option.some.inj ho
            simp only [frm, List.foldl_cons, List.foldl_nil, Act.put, List.setIfInBounds_toArray, List.set_cons_zero, List.set_cons_succ] at hK ⊢
            clear hdep ho
            rw [if_pos (by rfl)]
            go_simp
            exact hK _ _ rfl (Below.refl _ _) (by simp)
          · cases Option.some.inj ho
            have d3 : x 3 = .pointer (some ⟨z + 1, 0, none⟩) := hdep ⟨3, .data⟩ (by simp) rfl rfl
            simp only [frm, List.foldl_cons, List.foldl_nil, Act.put, List.setIfInBounds_toArray, List.set_cons_zero, List.set_cons_succ] at hK ⊢
            clear hdep ho
            rw [d3] at hK ⊢
            clear d3
            rw [if_pos (by rfl)]
            go_simp
            exact hK _ _ rfl (Below.refl _ _) (by simp)
          · cases Option.some.inj ho
            simp only [frm, List.foldl_cons, List.foldl_nil, Act.put, List.setIfInBounds_toArray, List.set_cons_zero, List.set_cons_succ] at hK ⊢
            clear hdep ho
            rw [if_pos (by rfl)]
            go_simp
            exact hK _ _ rfl (Below.refl _ _) (by simp)
          · cases Option.some.inj ho
            have d2 : x 2 = .agg #[.int .i64 R, .int .i64 C, .int .i64 T, .int .i64 B, .bool o] := hdep ⟨2, .data⟩ (by simp) rfl rfl
            have d4 : x 4 = .int .i64 r := hdep ⟨4, .data⟩ (by simp) rfl rfl
            have d5 : x 5 = .int .i64 n := hdep ⟨5, .data⟩ (by simp) rfl rfl
            simp only [frm, List.foldl_cons, List.foldl_nil, Act.put, List.setIfInBounds_toArray, List.set_cons_zero, List.set_cons_succ] at hK ⊢
            clear hdep ho
            rw [d2, d4, d5] at hK ⊢
            clear d2 d4 d5
            rw [if_pos (by rfl)]
            go_simp
            refine (HSu.out _).mono ?_
            rintro e w' ⟨rfl, hb⟩
            exact hK _ _ rfl hb (by simp)
          · cases Option.some.inj ho
            simp only [frm, List.foldl_cons, List.foldl_nil, Act.put, List.setIfInBounds_toArray, List.set_cons_zero, List.set_cons_succ] at hK ⊢
            clear hdep ho
            rw [if_pos (by rfl)]
            go_simp
            exact hK _ _ rfl (Below.refl _ _) (by simp)
          · cases Option.some.inj ho
            have d7 : x 7 = .pointer (some ⟨z + 1, 1, none⟩) := hdep ⟨7, .data⟩ (by simp) rfl rfl
            simp only [frm, List.foldl_cons, List.foldl_nil, Act.put, List.setIfInBounds_toArray, List.set_cons_zero, List.set_cons_succ] at hK ⊢
            clear hdep ho
            rw [d7] at hK ⊢
            clear d7
            rw [if_pos (by rfl)]
            go_simp
            exact hK _ _ rfl (Below.refl _ _) (by simp)
          · cases Option.some.inj ho
            have d6 : x 6 = .int .i64 u := hdep ⟨6, .data⟩ (by simp) rfl rfl
            have d8 : x 8 = .int .i64 c := hdep ⟨8, .data⟩ (by simp) rfl rfl
            simp only [frm, List.foldl_cons, List.foldl_nil, Act.put, List.setIfInBounds_toArray, List.set_cons_zero, List.set_cons_succ] at hK ⊢
            clear hdep ho
            rw [d6, d8] at hK ⊢
            clear d6 d8
            rw [if_pos (by rfl)]
            go_simp
            exact hK _ _ rfl (Below.refl _ _) (by simp)
          · cases Option.some.inj ho
            have d0 : x 0 = .agg #[.int .i64 u, .int .i64 c, .bool false] := hdep ⟨0, .data⟩ (by simp) rfl rfl
            have d9 : x 9 = .agg #[.int .i64 u, .int .i64 c, .bool false] := hdep ⟨9, .data⟩ (by simp) rfl rfl
            simp only [frm, List.foldl_cons, List.foldl_nil, Act.put, List.setIfInBounds_toArray, List.set_cons_zero, List.set_cons_succ] at hK ⊢
            clear hdep ho
            rw [d0, d9] at hK ⊢
            clear d0 d9
            rw [if_pos (by rfl)]
            go_simp
            exact hK _ _ rfl (Below.refl _ _) (by simp)
          · cases Option.some.inj ho
            have d10 : x 10 = .bool true := hdep ⟨10, .data⟩ (by simp) rfl rfl
            simp only [frm, List.foldl_cons, List.foldl_nil, Act.put, List.setIfInBounds_toArray, List.set_cons_zero, List.set_cons_succ] at hK ⊢
            clear hdep ho
            rw [d10] at hK ⊢
            clear d10
            rw [if_pos (by rfl)]
            go_simp
            exact hK _ _ rfl (Below.refl _ _) (by simp)
          · cases Option.some.inj ho
            have d11 : x 11 = .bool true := hdep ⟨11, .guard⟩ (by simp) rfl rfl
            simp only [frm, List.foldl_cons, List.foldl_nil, Act.put, List.setIfInBounds_toArray, List.set_cons_zero, List.set_cons_succ] at hK ⊢
            clear hdep ho
            rw [d11] at hK ⊢
            clear d11
            rw [if_pos (by rfl)]
            go_simp
            exact hK _ _ rfl (Below.refl _ _) (by simp)
          · cases Option.some.inj ho
            have d11 : x 11 = .bool true := hdep ⟨11, .guard⟩ (by simp) rfl rfl
            simp only [frm, List.foldl_cons, List.foldl_nil, Act.put, List.setIfInBounds_toArray, List.set_cons_zero, List.set_cons_succ] at hK ⊢
            clear hdep ho
            rw [d11] at hK ⊢
            clear d11
            rw [if_pos (by rfl)]
            go_simp
            exact hK _ _ rfl (Below.refl _ _) (by simp)
          · cases Option.some.inj ho
            have d13 : x 13 = .agg #[.int .i64 R, .int .i64 C, .int .i64 T, .int .i64 B, .bool o] := hdep ⟨13, .data⟩ (by simp) rfl rfl
            have d11 : x 11 = .bool true := hdep ⟨11, .guard⟩ (by simp) rfl rfl
            simp only [frm, List.foldl_cons, List.foldl_nil, Act.put, List.setIfInBounds_toArray, List.set_cons_zero, List.set_cons_succ] at hK ⊢
            clear hdep ho
            rw [d13, d11] at hK ⊢
            clear d13 d11
            rw [if_pos (by rfl)]
            go_simp
            refine (HRef.out _).mono ?_
            rintro e w' ⟨rfl, hb⟩
            exact hK _ _ rfl hb (by simp)
          · cases Option.some.inj ho
            have d11 : x 11 = .bool true := hdep ⟨11, .guard⟩ (by simp) rfl rfl
            simp only [frm, List.foldl_cons, List.foldl_nil, Act.put, List.setIfInBounds_toArray, List.set_cons_zero, List.set_cons_succ] at hK ⊢
            clear hdep ho
            rw [d11] at hK ⊢
            clear d11
            rw [if_pos (by rfl)]
            go_simp
            exact hK _ _ rfl (Below.refl _ _) (by simp)
          · cases Option.some.inj ho
            have d15 : x 15 = .pointer (some ⟨z + 1, 0, none⟩) := hdep ⟨15, .data⟩ (by simp) rfl rfl
            have d11 : x 11 = .bool true := hdep ⟨11, .guard⟩ (by simp) rfl rfl
            simp only [frm, List.foldl_cons, List.foldl_nil, Act.put, List.setIfInBounds_toArray, List.set_cons_zero, List.set_cons_succ] at hK ⊢
            clear hdep ho
            rw [d15, d11] at hK ⊢
            clear d15 d11
            rw [if_pos (by rfl)]
            go_simp
            exact hK _ _ rfl (Below.refl _ _) (by simp)
          · cases Option.some.inj ho
            have d11 : x 11 = .bool true := hdep ⟨11, .guard⟩ (by simp) rfl rfl
            simp only [frm, List.foldl_cons, List.foldl_nil, Act.put, List.setIfInBounds_toArray, List.set_cons_zero, List.set_cons_succ] at hK ⊢
            clear hdep ho
            rw [d11] at hK ⊢
            clear d11
            rw [if_pos (by rfl)]
            go_simp
            exact hK _ _ rfl (Below.refl _ _) (by simp)
          · cases Option.some.inj ho
            have d14 : x 14 = .agg #[.int .i64 R, .int .i64 C, .int .i64 T, .int .i64 B, .bool o] := hdep ⟨14, .data⟩ (by simp) rfl rfl
            have d16 : x 16 = .int .i64 r := hdep ⟨16, .data⟩ (by simp) rfl rfl
            have d17 : x 17 = .int .i64 n := hdep ⟨17, .data⟩ (by simp) rfl rfl
            have d11 : x 11 = .bool true := hdep ⟨11, .guard⟩ (by simp) rfl rfl
            simp only [frm, List.foldl_cons, List.foldl_nil, Act.put, List.setIfInBounds_toArray, List.set_cons_zero, List.set_cons_succ] at hK ⊢
            clear hdep ho
            rw [d14, d16, d17, d11] at hK ⊢
            clear d14 d16 d17 d11
            rw [if_pos (by rfl)]
            go_simp
            refine (HSd.out _).mono ?_
            rintro e w' ⟨rfl, hb⟩
            exact hK _ _ rfl hb (by simp)
          · cases Option.some.inj ho
            have d11 : x 11 = .bool true := hdep ⟨11, .guard⟩ (by simp) rfl rfl
            simp only [frm, List.foldl_cons, List.foldl_nil, Act.put, List.setIfInBounds_toArray, List.set_cons_zero, List.set_cons_succ] at hK ⊢
            clear hdep ho
            rw [d11] at hK ⊢
            clear d11
            rw [if_pos (by rfl)]
            go_simp
            exact hK _ _ rfl (Below.refl _ _) (by simp)
          · cases Option.some.inj ho
            have d19 : x 19 = .pointer (some ⟨z + 1, 1, none⟩) := hdep ⟨19, .data⟩ (by simp) rfl rfl
            have d11 : x 11 = .bool true := hdep ⟨11, .guard⟩ (by simp) rfl rfl
            simp only [frm, List.foldl_cons, List.foldl_nil, Act.put, List.setIfInBounds_toArray, List.set_cons_zero, List.set_cons_succ] at hK ⊢
            clear hdep ho
            rw [d19, d11] at hK ⊢
            clear d19 d11
            rw [if_pos (by rfl)]
            go_simp
            exact hK _ _ rfl (Below.refl _ _) (by simp)
          · cases Option.some.inj ho
            have d18 : x 18 = .int .i64 d := hdep ⟨18, .data⟩ (by simp) rfl rfl
            have d20 : x 20 = .int .i64 c := hdep ⟨20, .data⟩ (by simp) rfl rfl
            have d11 : x 11 = .bool true := hdep ⟨11, .guard⟩ (by simp) rfl rfl
            simp only [frm, List.foldl_cons, List.foldl_nil, Act.put, List.setIfInBounds_toArray, List.set_cons_zero, List.set_cons_succ] at hK ⊢
            clear hdep ho
            rw [d18, d20, d11] at hK ⊢
            clear d18 d20 d11
            rw [if_pos (by rfl)]
            go_simp
            exact hK _ _ rfl (Below.refl _ _) (by simp)
          · cases Option.some.inj ho
            have d12 : x 12 = .agg #[.int .i64 d, .int .i64 c, .bool false] := hdep ⟨12, .data⟩ (by simp) rfl rfl
            have d21 : x 21 = .agg #[.int .i64 d, .int .i64 c, .bool false] := hdep ⟨21, .data⟩ (by simp) rfl rfl
            have d11 : x 11 = .bool true := hdep ⟨11, .guard⟩ (by simp) rfl rfl
            simp only [frm, List.foldl_cons, List.foldl_nil, Act.put, List.setIfInBounds_toArray, List.set_cons_zero, List.set_cons_succ] at hK ⊢
            clear hdep ho
            rw [d12, d21, d11] at hK ⊢
            clear d12 d21 d11
            rw [if_pos (by rfl)]
            go_simp
            exact hK _ _ rfl (Below.refl _ _) (by simp)
          · cases Option.some.inj ho
            have d11 : x 11 = .bool true := hdep ⟨11, .data⟩ (by simp) rfl rfl
            have d22 : x 22 = .bool true := hdep ⟨22, .data⟩ (by simp) rfl rfl
            simp only [frm, List.foldl_cons, List.foldl_nil, Act.put, List.setIfInBounds_toArray, List.set_cons_zero, List.set_cons_succ] at hK ⊢
            clear hdep ho
            rw [d11, d22] at hK ⊢
            clear d11 d22
            rw [if_pos (by rfl)]
            go_simp
            exact hK _ _ rfl (Below.refl _ _) (by simp)
          · cases Option.some.inj ho
            have d23 : x 23 = .bool true := hdep ⟨23, .data⟩ (by simp) rfl rfl
            simp only [frm, List.foldl_cons, List.foldl_nil, Act.put, List.setIfInBounds_toArray, List.set_cons_zero, List.set_cons_succ] at hK ⊢
            clear hdep ho
            rw [d23] at hK ⊢
            clear d23
            rw [if_pos (by rfl)]
            go_simp
            exact hK _ _ rfl (Below.refl _ _) (by simp)
          · cases Option.some.inj ho
            have d24 : x 24 = .bool true := hdep ⟨24, .guard⟩ (by simp) rfl rfl
            simp only [frm, List.foldl_cons, List.foldl_nil, Act.put, List.setIfInBounds_toArray, List.set_cons_zero, List.set_cons_succ] at hK ⊢
            clear hdep ho
            rw [d24] at hK ⊢
            clear d24
            rw [if_pos (by rfl)]
            go_simp
            exact hK _ _ rfl (Below.refl _ _) (by simp)
          · cases Option.some.inj ho
            have d24 : x 24 = .bool true := hdep ⟨24, .guard⟩ (by simp) rfl rfl
            simp only [frm, List.foldl_cons, List.foldl_nil, Act.put, List.setIfInBounds_toArray, List.set_cons_zero, List.set_cons_succ] at hK ⊢
            clear hdep ho
            rw [d24] at hK ⊢
            clear d24
            rw [if_pos (by rfl)]
            go_simp
            exact hK _ _ rfl (Below.refl _ _) (by simp)
          · cases Option.some.inj ho
            have d26 : x 26 = .pointer (some ⟨z + 1, 0, none⟩) := hdep ⟨26, .data⟩ (by simp) rfl rfl
            have d24 : x 24 = .bool true := hdep ⟨24, .guard⟩ (by simp) rfl rfl
            simp only [frm, List.foldl_cons, List.foldl_nil, Act.put, List.setIfInBounds_toArray, List.set_cons_zero, List.set_cons_succ] at hK ⊢
            clear hdep ho
            rw [d26, d24] at hK ⊢
            clear d26 d24
            rw [if_pos (by rfl)]
            go_simp
            exact hK _ _ rfl (Below.refl _ _) (by simp)
          · cases Option.some.inj ho
            have d24 : x 24 = .bool true := hdep ⟨24, .guard⟩ (by simp) rfl rfl
            simp only [frm, List.foldl_cons, List.foldl_nil, Act.put, List.setIfInBounds_toArray, List.set_cons_zero, List.set_cons_succ] at hK ⊢
            clear hdep ho
            rw [d24] at hK ⊢
            clear d24
            rw [if_pos (by rfl)]
            go_simp
            exact hK _ _ rfl (Below.refl _ _) (by simp)
          · cases Option.some.inj ho
            have d28 : x 28 = .pointer (some ⟨z + 1, 1, none⟩) := hdep ⟨28, .data⟩ (by simp) rfl rfl
            have d24 : x 24 = .bool true := hdep ⟨24, .guard⟩ (by simp) rfl rfl
            simp only [frm, List.foldl_cons, List.foldl_nil, Act.put, List.setIfInBounds_toArray, List.set_cons_zero, List.set_cons_succ] at hK ⊢
            clear hdep ho
            rw [d28, d24] at hK ⊢
            clear d28 d24
            rw [if_pos (by rfl)]
            go_simp
            exact hK _ _ rfl (Below.refl _ _) (by simp)
          · cases Option.some.inj ho
            have d24 : x 24 = .bool true := hdep ⟨24, .guard⟩ (by simp) rfl rfl
            simp only [frm, List.foldl_cons, List.foldl_nil, Act.put, List.setIfInBounds_toArray, List.set_cons_zero, List.set_cons_succ] at hK ⊢
            clear hdep ho
            rw [d24] at hK ⊢
            clear d24
            rw [if_pos (by rfl)]
            go_simp
            exact hK _ _ rfl (Below.refl _ _) (by simp)
          · cases Option.some.inj ho
            have d29 : x 29 = .int .i64 c := hdep ⟨29, .data⟩ (by simp) rfl rfl
            have d30 : x 30 = .int .i64 k := hdep ⟨30, .data⟩ (by simp) rfl rfl
            have d24 : x 24 = .bool true := hdep ⟨24, .guard⟩ (by simp) rfl rfl
            simp only [frm, List.foldl_cons, List.foldl_nil, Act.put, List.setIfInBounds_toArray, List.set_cons_zero, List.set_cons_succ] at hK ⊢
            clear hdep ho
            rw [d29, d30, d24] at hK ⊢
            clear d29 d30 d24
            rw [if_pos (by rfl)]
            go_simp
            exact hK _ _ rfl (Below.refl _ _) (by simp)
          · cases Option.some.inj ho
            have d24 : x 24 = .bool true := hdep ⟨24, .guard⟩ (by simp) rfl rfl
            simp only [frm, List.foldl_cons, List.foldl_nil, Act.put, List.setIfInBounds_toArray, List.set_cons_zero, List.set_cons_succ] at hK ⊢
            clear hdep ho
            rw [d24] at hK ⊢
            clear d24
            rw [if_pos (by rfl)]
            go_simp
            exact hK _ _ rfl (Below.refl _ _) (by simp)
          · cases Option.some.inj ho
            have d32 : x 32 = .pointer (some ⟨z, 1, none⟩) := hdep ⟨32, .data⟩ (by simp) rfl rfl
            have d24 : x 24 = .bool true := hdep ⟨24, .guard⟩ (by simp) rfl rfl
            simp only [frm, List.foldl_cons, List.foldl_nil, Act.put, List.setIfInBounds_toArray, List.set_cons_zero, List.set_cons_succ] at hK ⊢
            clear hdep ho
            rw [d32, d24] at hK ⊢
            clear d32 d24
            rw [if_pos (by rfl)]
            go_simp
            exact hK _ _ rfl (Below.refl _ _) (by simp)
          · cases Option.some.inj ho
            have d33 : x 33 = .int .i64 C := hdep ⟨33, .data⟩ (by simp) rfl rfl
            have d24 : x 24 = .bool true := hdep ⟨24, .guard⟩ (by simp) rfl rfl
            simp only [frm, List.foldl_cons, List.foldl_nil, Act.put, List.setIfInBounds_toArray, List.set_cons_zero, List.set_cons_succ] at hK ⊢
            clear hdep ho
            rw [d33, d24] at hK ⊢
            clear d33 d24
            rw [if_pos (by rfl)]
            go_simp
            exact hK _ _ rfl (Below.refl _ _) (by simp)
          · cases Option.some.inj ho
            have d31 : x 31 = .int .i64 (c - k) := hdep ⟨31, .data⟩ (by simp) rfl rfl
            have d34 : x 34 = .int .i64 (C - 1) := hdep ⟨34, .data⟩ (by simp) rfl rfl
            have d24 : x 24 = .bool true := hdep ⟨24, .guard⟩ (by simp) rfl rfl
            simp only [frm, List.foldl_cons, List.foldl_nil, Act.put, List.setIfInBounds_toArray, List.set_cons_zero, List.set_cons_succ] at hK ⊢
            clear hdep ho
            rw [d31, d34, d24] at hK ⊢
            clear d31 d34 d24
            rw [if_pos (by rfl)]
            go_simp
            refine (HHl.out _).mono ?_
            rintro e w' ⟨rfl, rfl⟩
            exact hK _ _ rfl (Below.refl _ _) (by simp)
          · cases Option.some.inj ho
            have d27 : x 27 = .int .i64 r := hdep ⟨27, .data⟩ (by simp) rfl rfl
            have d35 : x 35 = .int .i64 l := hdep ⟨35, .data⟩ (by simp) rfl rfl
            have d24 : x 24 = .bool true := hdep ⟨24, .guard⟩ (by simp) rfl rfl
            simp only [frm, List.foldl_cons, List.foldl_nil, Act.put, List.setIfInBounds_toArray, List.set_cons_zero, List.set_cons_succ] at hK ⊢
            clear hdep ho
            rw [d27, d35, d24] at hK ⊢
            clear d27 d35 d24
            rw [if_pos (by rfl)]
            go_simp
            exact hK _ _ rfl (Below.refl _ _) (by simp)
          · cases Option.some.inj ho
            have d25 : x 25 = .agg #[.int .i64 r, .int .i64 l, .bool false] := hdep ⟨25, .data⟩ (by simp) rfl rfl
            have d36 : x 36 = .agg #[.int .i64 r, .int .i64 l, .bool false] := hdep ⟨36, .data⟩ (by simp) rfl rfl
            have d24 : x 24 = .bool true := hdep ⟨24, .guard⟩ (by simp) rfl rfl
            simp only [frm, List.foldl_cons, List.foldl_nil, Act.put, List.setIfInBounds_toArray, List.set_cons_zero, List.set_cons_succ] at hK ⊢
            clear hdep ho
            rw [d25, d36, d24] at hK ⊢
            clear d25 d36 d24
            rw [if_pos (by rfl)]
            go_simp
            exact hK _ _ rfl (Below.refl _ _) (by simp)
          · cases Option.some.inj ho
            have d24 : x 24 = .bool true := hdep ⟨24, .data⟩ (by simp) rfl rfl
            have d37 : x 37 = .bool true := hdep ⟨37, .data⟩ (by simp) rfl rfl
            simp only [frm, List.foldl_cons, List.foldl_nil, Act.put, List.setIfInBounds_toArray, List.set_cons_zero, List.set_cons_succ] at hK ⊢
            clear hdep ho
            rw [d24, d37] at hK ⊢
            clear d24 d37
            rw [if_pos (by rfl)]
            go_simp
            exact hK _ _ rfl (Below.refl _ _) (by simp)
          · cases Option.some.inj ho
            have d38 : x 38 = .bool true := hdep ⟨38, .data⟩ (by simp) rfl rfl
            simp only [frm, List.foldl_cons, List.foldl_nil, Act.put, List.setIfInBounds_toArray, List.set_cons_zero, List.set_cons_succ] at hK ⊢
            clear hdep ho
            rw [d38] at hK ⊢
            clear d38
            rw [if_pos (by rfl)]
            go_simp
            exact hK _ _ rfl (Below.refl _ _) (by simp)
          · cases Option.some.inj ho
            have d39 : x 39 = .bool true := hdep ⟨39, .guard⟩ (by simp) rfl rfl
            simp only [frm, List.foldl_cons, List.foldl_nil, Act.put, List.setIfInBounds_toArray, List.set_cons_zero, List.set_cons_succ] at hK ⊢
            clear hdep ho
            rw [d39] at hK ⊢
            clear d39
            rw [if_pos (by rfl)]
            go_simp
            exact hK _ _ rfl (Below.refl _ _) (by simp)
          · cases Option.some.inj ho
            have d39 : x 39 = .bool true := hdep ⟨39, .guard⟩ (by simp) rfl rfl
            simp only [frm, List.foldl_cons, List.foldl_nil, Act.put, List.setIfInBounds_toArray, List.set_cons_zero, List.set_cons_succ] at hK ⊢
            clear hdep ho
            rw [d39] at hK ⊢
            clear d39
            rw [if_pos (by rfl)]
            go_simp
            exact hK _ _ rfl (Below.refl _ _) (by simp)
          · cases Option.some.inj ho
            have d41 : x 41 = .pointer (some ⟨z + 1, 0, none⟩) := hdep ⟨41, .data⟩ (by simp) rfl rfl
            have d39 : x 39 = .bool true := hdep ⟨39, .guard⟩ (by simp) rfl rfl
            simp only [frm, List.foldl_cons, List.foldl_nil, Act.put, List.setIfInBounds_toArray, List.set_cons_zero, List.set_cons_succ] at hK ⊢
            clear hdep ho
            rw [d41, d39] at hK ⊢
            clear d41 d39
            rw [if_pos (by rfl)]
            go_simp
            exact hK _ _ rfl (Below.refl _ _) (by simp)
          · cases Option.some.inj ho
            have d39 : x 39 = .bool true := hdep ⟨39, .guard⟩ (by simp) rfl rfl
            simp only [frm, List.foldl_cons, List.foldl_nil, Act.put, List.setIfInBounds_toArray, List.set_cons_zero, List.set_cons_succ] at hK ⊢
            clear hdep ho
            rw [d39] at hK ⊢
            clear d39
            rw [if_pos (by rfl)]
            go_simp
            exact hK _ _ rfl (Below.refl _ _) (by simp)
          · cases Option.some.inj ho
            have d43 : x 43 = .pointer (some ⟨z + 1, 1, none⟩) := hdep ⟨43, .data⟩ (by simp) rfl rfl
            have d39 : x 39 = .bool true := hdep ⟨39, .guard⟩ (by simp) rfl rfl
            simp only [frm, List.foldl_cons, List.foldl_nil, Act.put, List.setIfInBounds_toArray, List.set_cons_zero, List.set_cons_succ] at hK ⊢
            clear hdep ho
            rw [d43, d39] at hK ⊢
            clear d43 d39
            rw [if_pos (by rfl)]
            go_simp
            exact hK _ _ rfl (Below.refl _ _) (by simp)
          · cases Option.some.inj ho
            have d39 : x 39 = .bool true := hdep ⟨39, .guard⟩ (by simp) rfl rfl
            simp only [frm, List.foldl_cons, List.foldl_nil, Act.put, List.setIfInBounds_toArray, List.set_cons_zero, List.set_cons_succ] at hK ⊢
            clear hdep ho
            rw [d39] at hK ⊢
            clear d39
            rw [if_pos (by rfl)]
            go_simp
            exact hK _ _ rfl (Below.refl _ _) (by simp)
          · cases Option.some.inj ho
            have d44 : x 44 = .int .i64 c := hdep ⟨44, .data⟩ (by simp) rfl rfl
            have d45 : x 45 = .int .i64 k := hdep ⟨45, .data⟩ (by simp) rfl rfl
            have d39 : x 39 = .bool true := hdep ⟨39, .guard⟩ (by simp) rfl rfl
            simp only [frm, List.foldl_cons, List.foldl_nil, Act.put, List.setIfInBounds_toArray, List.set_cons_zero, List.set_cons_succ] at hK ⊢
            clear hdep ho
            rw [d44, d45, d39] at hK ⊢
            clear d44 d45 d39
            rw [if_pos (by rfl)]
            go_simp
            exact hK _ _ rfl (Below.refl _ _) (by simp)
          · cases Option.some.inj ho
            have d39 : x 39 = .bool true := hdep ⟨39, .guard⟩ (by simp) rfl rfl
            simp only [frm, List.foldl_cons, List.foldl_nil, Act.put, List.setIfInBounds_toArray, List.set_cons_zero, List.set_cons_succ] at hK ⊢
            clear hdep ho
            rw [d39] at hK ⊢
            clear d39
            rw [if_pos (by rfl)]
            go_simp
            exact hK _ _ rfl (Below.refl _ _) (by simp)
          · cases Option.some.inj ho
            have d47 : x 47 = .pointer (some ⟨z, 1, none⟩) := hdep ⟨47, .data⟩ (by simp) rfl rfl
            have d39 : x 39 = .bool true := hdep ⟨39, .guard⟩ (by simp) rfl rfl
            simp only [frm, List.foldl_cons, List.foldl_nil, Act.put, List.setIfInBounds_toArray, List.set_cons_zero, List.set_cons_succ] at hK ⊢
            clear hdep ho
            rw [d47, d39] at hK ⊢
            clear d47 d39
            rw [if_pos (by rfl)]
            go_simp
            exact hK _ _ rfl (Below.refl _ _) (by simp)
          · cases Option.some.inj ho
            have d48 : x 48 = .int .i64 C := hdep ⟨48, .data⟩ (by simp) rfl rfl
            have d39 : x 39 = .bool true := hdep ⟨39, .guard⟩ (by simp) rfl rfl
            simp only [frm, List.foldl_cons, List.foldl_nil, Act.put, List.setIfInBounds_toArray, List.set_cons_zero, List.set_cons_succ] at hK ⊢
            clear hdep ho
            rw [d48, d39] at hK ⊢
            clear d48 d39
            rw [if_pos (by rfl)]
            go_simp
            exact hK _ _ rfl (Below.refl _ _) (by simp)
          · cases Option.some.inj ho
            have d46 : x 46 = .int .i64 (c + k) := hdep ⟨46, .data⟩ (by simp) rfl rfl
            have d49 : x 49 = .int .i64 (C - 1) := hdep ⟨49, .data⟩ (by simp) rfl rfl
            have d39 : x 39 = .bool true := hdep ⟨39, .guard⟩ (by simp) rfl rfl
            simp only [frm, List.foldl_cons, List.foldl_nil, Act.put, List.setIfInBounds_toArray, List.set_cons_zero, List.set_cons_succ] at hK ⊢
            clear hdep ho
            rw [d46, d49, d39] at hK ⊢
            clear d46 d49 d39
            rw [if_pos (by rfl)]
            go_simp
            refine (HHm.out _).mono ?_
            rintro e w' ⟨rfl, rfl⟩
            exact hK _ _ rfl (Below.refl _ _) (by simp)
          · cases Option.some.inj ho
            have d42 : x 42 = .int .i64 r := hdep ⟨42, .data⟩ (by simp) rfl rfl
            have d50 : x 50 = .int .i64 m := hdep ⟨50, .data⟩ (by simp) rfl rfl
            have d39 : x 39 = .bool true := hdep ⟨39, .guard⟩ (by simp) rfl rfl
            simp only [frm, List.foldl_cons, List.foldl_nil, Act.put, List.setIfInBounds_toArray, List.set_cons_zero, List.set_cons_succ] at hK ⊢
            clear hdep ho
            rw [d42, d50, d39] at hK ⊢
            clear d42 d50 d39
            rw [if_pos (by rfl)]
            go_simp
            exact hK _ _ rfl (Below.refl _ _) (by simp)
          · cases Option.some.inj ho
            have d40 : x 40 = .agg #[.int .i64 r, .int .i64 m, .bool false] := hdep ⟨40, .data⟩ (by simp) rfl rfl
            have d51 : x 51 = .agg #[.int .i64 r, .int .i64 m, .bool false] := hdep ⟨51, .data⟩ (by simp) rfl rfl
            have d39 : x 39 = .bool true := hdep ⟨39, .guard⟩ (by simp) rfl rfl
            simp only [frm, List.foldl_cons, List.foldl_nil, Act.put, List.setIfInBounds_toArray, List.set_cons_zero, List.set_cons_succ] at hK ⊢
            clear hdep ho
            rw [d40, d51, d39] at hK ⊢
            clear d40 d51 d39
            rw [if_pos (by rfl)]
            go_simp
            exact hK _ _ rfl (Below.refl _ _) (by simp)
          · cases Option.some.inj ho
            have d39 : x 39 = .bool true := hdep ⟨39, .data⟩ (by simp) rfl rfl
            have d52 : x 52 = .bool true := hdep ⟨52, .data⟩ (by simp) rfl rfl
            simp only [frm, List.foldl_cons, List.foldl_nil, Act.put, List.setIfInBounds_toArray, List.set_cons_zero, List.set_cons_succ] at hK ⊢
            clear hdep ho
            rw [d39, d52] at hK ⊢
            clear d39 d52
            rw [if_pos (by rfl)]
            go_simp
            exact hK _ _ rfl (Below.refl _ _) (by simp)
          · cases Option.some.inj ho
            have d53 : x 53 = .bool true := hdep ⟨53, .data⟩ (by simp) rfl rfl
            simp only [frm, List.foldl_cons, List.foldl_nil, Act.put, List.setIfInBounds_toArray, List.set_cons_zero, List.set_cons_succ] at hK ⊢
            clear hdep ho
            rw [d53] at hK ⊢
            clear d53
            rw [if_pos (by rfl)]
            go_simp
            exact hK _ _ rfl (Below.refl _ _) (by simp)
        --@@out
        case hend =>
          intro x W hbel hall _
          have d54 : x 54 = .bool true := hall (54, 6) (by simp)
          simp only [frm, List.foldl_cons, List.foldl_nil, Act.put, List.setIfInBounds_toArray, List.set_cons_zero, List.set_cons_succ]
          rw [d54]
          clear hall d54
          generalize x 0 = z0
          generalize x 1 = z1
          generalize x 2 = z2
          generalize x 3 = z3
          generalize x 4 = z4
          generalize x 5 = z5
          generalize x 6 = z6
          generalize x 7 = z7
          generalize x 8 = z8
          generalize x 9 = z9
          generalize x 10 = z10
          generalize x 11 = z11
          generalize x 12 = z12
          generalize x 13 = z13
          generalize x 14 = z14
          generalize x 15 = z15
          generalize x 16 = z16
          generalize x 17 = z17
          generalize x 18 = z18
          generalize x 19 = z19
          generalize x 20 = z20
          generalize x 21 = z21
          generalize x 22 = z22
          generalize x 23 = z23
          generalize x 24 = z24
          generalize x 25 = z25
          generalize x 26 = z26
          generalize x 27 = z27
          generalize x 28 = z28
          generalize x 29 = z29
          generalize x 30 = z30
          generalize x 31 = z31
          generalize x 32 = z32
          generalize x 33 = z33
          generalize x 34 = z34
          generalize x 35 = z35
          generalize x 36 = z36
          generalize x 37 = z37
          generalize x 38 = z38
          generalize x 39 = z39
          generalize x 40 = z40
          generalize x 41 = z41
          generalize x 42 = z42
          generalize x 43 = z43
          generalize x 44 = z44
          generalize x 45 = z45
          generalize x 46 = z46
          generalize x 47 = z47
          generalize x 48 = z48
          generalize x 49 = z49
          generalize x 50 = z50
          generalize x 51 = z51
          generalize x 52 = z52
          generalize x 53 = z53
          refine wpAny_done (by kernel_rfl) ?_ _
          have hbw := HBx.out.bel.trans (hbel.mono HBx.out.bel.size)
          clear heqU heqD heqL heqM
          go_wp2
          go_ret
          exact ⟨rfl, hbw⟩
end Go.Proofs.Ytdcbiknlihfhcaa.caretMoves
