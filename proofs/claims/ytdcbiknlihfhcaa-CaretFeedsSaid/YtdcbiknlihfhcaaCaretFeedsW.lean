/- The walk through CaretFeeds: for every area, caret and truth value it returns true and leaves old memory as it was. Conditions: none. -/
import Derived.Test.YtdcbiknlihfhcaaCaretA
namespace Go.Proofs.Ytdcbiknlihfhcaa.caretFeeds
open Go.ChangeShapes Go.WideShapes Go.RowKit
theorem stable_new {n : Nat} {t : TypeId} {zs : List Value} : Stable (fun v W => ∃ g, v = .pointer (some ⟨g, 0, none⟩) ∧ n ≤ g ∧ Blk W g t zs) := by
  rintro v w w' ⟨g, e, hn, h⟩ hb
  exact ⟨g, e, hn, h.below hb h.lt⟩
def C9 (R C T B : Int) (o : Bool) (r : Int) (z : Nat) (f : Int) (gD : Nat) : List (Value → World → Prop) := [fun v _ => v = .agg #[.int .i64 R, .int .i64 C, .int .i64 T, .int .i64 B, .bool o],
  fun v _ => v = .agg #[.int .i64 R, .int .i64 C, .int .i64 T, .int .i64 B, .bool o],
  fun v _ => v = .pointer (some ⟨z + 1, 0, none⟩),
  fun v _ => v = .int .i64 r,
  fun v _ => v = .int .i64 f,
  fun v _ => v = .pointer (some ⟨gD, 0, none⟩)]
theorem C9_stable (R C T B : Int) (o : Bool) (r : Int) (z : Nat) (f : Int) (gD : Nat) : ∀ p ∈ C9 R C T B o r z f gD, Stable p := (stable_cons (stable_eq _) (stable_cons (stable_eq _) (stable_cons (stable_eq _) (stable_cons (stable_eq _) (stable_cons (stable_eq _) (stable_cons (stable_eq _) stable_nil))))))
def C10 (R C T B : Int) (o : Bool) (r : Int) (z : Nat) (u : Int) (gU : Nat) : List (Value → World → Prop) := [fun v _ => v = .agg #[.int .i64 R, .int .i64 C, .int .i64 T, .int .i64 B, .bool o],
  fun v _ => v = .agg #[.int .i64 R, .int .i64 C, .int .i64 T, .int .i64 B, .bool o],
  fun v _ => v = .pointer (some ⟨z + 1, 0, none⟩),
  fun v _ => v = .int .i64 r,
  fun v _ => v = .int .i64 u,
  fun v _ => v = .pointer (some ⟨gU, 0, none⟩)]
theorem C10_stable (R C T B : Int) (o : Bool) (r : Int) (z : Nat) (u : Int) (gU : Nat) : ∀ p ∈ C10 R C T B o r z u gU, Stable p := (stable_cons (stable_eq _) (stable_cons (stable_eq _) (stable_cons (stable_eq _) (stable_cons (stable_eq _) (stable_cons (stable_eq _) (stable_cons (stable_eq _) stable_nil))))))
set_option maxRecDepth 100000 in
set_option maxHeartbeats 12800000 in
theorem walk (ar : AreaV) (ca : CaretV) (b : Bool) (w : World) (har : fit64 ar.1 ∧ fit64 ar.2.1 ∧ fit64 ar.2.2.1 ∧ fit64 ar.2.2.2.1) (hk : fit64 ca.1 ∧ fit64 ca.2.1) :
    Calls Try.prog 6 #[.agg #[.int .i64 ar.1, .int .i64 ar.2.1, .int .i64 ar.2.2.1, .int .i64 ar.2.2.2.1, .bool ar.2.2.2.2], .agg #[.int .i64 ca.1, .int .i64 ca.2.1, .bool ca.2.2], .bool b] w fun e w' => e = .returned (.bool true) ∧ Below w.heap.size w w' := by
  obtain ⟨R, C, T, B, o⟩ := ar
  obtain ⟨r, c, q⟩ := ca
  simp only at har hk ⊢
  obtain ⟨z, hz⟩ : ∃ z, Hid (w.heap.size = z) := ⟨_, rfl⟩
  have HRef : Hid (∀ W, Calls Try.prog 9 #[.agg #[.int .i64 R, .int .i64 C, .int .i64 T, .int .i64 B, .bool o]] W fun en w' => en = .returned (.agg #[.int .i64 R, .int .i64 C, .int .i64 T, .int .i64 B, .bool o]) ∧ Below W.heap.size W w') := fun W => ref_c R C T B o W
  have HRi : Hid (∀ W, Calls Try.prog 8 #[.agg #[.int .i64 R, .int .i64 C, .int .i64 T, .int .i64 B, .bool o]] W (BoolPost W (areaOk R C T B))) := fun W => refRight_c R C T B o W
  clear har hk
  cases hX : areaOk R C T B with
  | false =>
    rw [hX] at HRi
    clear hX
    go_enter Try.func6, Try.ntmps6
    go_upto_region 1 with (fail)
    rw [hz.out]
    refine name_wp (fun w1 => BothAt w w1 z R C T B o r c q) (BothAt.new w hz.out R C T B o r c q) ?_
    intro w1 hb1
    have HB1 := Lib.hid hb1
    clear hb1
    go_wp2_with fail
    refine (awake14_c w1).mono ?_
    rintro en w2 ⟨rfl, hb2⟩
    have HB2 := Lib.hid (HB1.out.keep hb2)
    clear hb2
    obtain ⟨x0, x1, x2, x3, x4⟩ := fiveA HB2.out.area
    obtain ⟨y0, y1, y2⟩ := threeA HB2.out.caret
    go_wp2_with fail
    refine (HRef.out _).mono ?_
    rintro en w3 ⟨rfl, hb3⟩
    have HB3 := Lib.hid (HB2.out.keep hb3)
    clear hb3 x0 x1 x2 x3 x4 y0 y1 y2
    obtain ⟨x0, x1, x2, x3, x4⟩ := fiveA HB3.out.area
    obtain ⟨y0, y1, y2⟩ := threeA HB3.out.caret
    go_wp2_with fail
    refine (HRi.out _).mono ?_
    rintro en w4 ⟨rfl, hb4⟩
    have HB4 := Lib.hid (HB3.out.keep hb4)
    clear hb4 x0 x1 x2 x3 x4 y0 y1 y2
    obtain ⟨x0, x1, x2, x3, x4⟩ := fiveA HB4.out.area
    obtain ⟨y0, y1, y2⟩ := threeA HB4.out.caret
    go_wp2
    go_ret
    exact ⟨rfl, HB4.out.bel⟩
  | true =>
    rw [hX] at HRi
    have HA := Lib.hid (areaOk_of hX)
    clear hX
    have HFi : Hid (∀ W, Calls Try.prog 13 #[.agg #[.int .i64 R, .int .i64 C, .int .i64 T, .int .i64 B, .bool o], .agg #[.int .i64 r, .int .i64 c, .bool q]] W (BoolPost W (fitsZ R C r c q))) := fun W => fits_c R C T B o r c q W ⟨HA.out.2.2.1, HA.out.2.2.2.1⟩
    cases hY : fitsZ R C r c q with
    | false =>
      rw [hY] at HFi
      clear hY
      go_enter Try.func6, Try.ntmps6
      go_upto_region 1 with (fail)
      rw [hz.out]
      refine name_wp (fun w1 => BothAt w w1 z R C T B o r c q) (BothAt.new w hz.out R C T B o r c q) ?_
      intro w1 hb1
      have HB1 := Lib.hid hb1
      clear hb1
      go_wp2_with fail
      refine (awake14_c w1).mono ?_
      rintro en w2 ⟨rfl, hb2⟩
      have HB2 := Lib.hid (HB1.out.keep hb2)
      clear hb2
      obtain ⟨x0, x1, x2, x3, x4⟩ := fiveA HB2.out.area
      obtain ⟨y0, y1, y2⟩ := threeA HB2.out.caret
      go_wp2_with fail
      refine (HRef.out _).mono ?_
      rintro en w3 ⟨rfl, hb3⟩
      have HB3 := Lib.hid (HB2.out.keep hb3)
      clear hb3 x0 x1 x2 x3 x4 y0 y1 y2
      obtain ⟨x0, x1, x2, x3, x4⟩ := fiveA HB3.out.area
      obtain ⟨y0, y1, y2⟩ := threeA HB3.out.caret
      go_wp2_with fail
      refine (HRi.out _).mono ?_
      rintro en w4 ⟨rfl, hb4⟩
      have HB4 := Lib.hid (HB3.out.keep hb4)
      clear hb4 x0 x1 x2 x3 x4 y0 y1 y2
      obtain ⟨x0, x1, x2, x3, x4⟩ := fiveA HB4.out.area
      obtain ⟨y0, y1, y2⟩ := threeA HB4.out.caret
      go_wp2_with fail
      refine (HFi.out _).mono ?_
      rintro en w5 ⟨rfl, hb5⟩
      have HB5 := Lib.hid (HB4.out.keep hb5)
      clear hb5 x0 x1 x2 x3 x4 y0 y1 y2
      obtain ⟨x0, x1, x2, x3, x4⟩ := fiveA HB5.out.area
      obtain ⟨y0, y1, y2⟩ := threeA HB5.out.caret
      go_wp2
      go_ret
      exact ⟨rfl, HB5.out.bel⟩
    | true =>
      rw [hY] at HFi
      have HF := Lib.hid (fitsZ_iff.1 hY)
      clear hY
      have HFe : Hid (∀ W, Calls Try.prog 22 #[.agg #[.int .i64 R, .int .i64 C, .int .i64 T, .int .i64 B, .bool o], .agg #[.int .i64 r, .int .i64 c, .bool q]] W (FeedPost W (downZ R B r 1) c q (if r = B then 1 else 0))) := fun W => feed_c R C T B o r c q W (by have := HA.out; have := HF.out; omega)
      have HBa : Hid (∀ W, Calls Try.prog 23 #[.agg #[.int .i64 R, .int .i64 C, .int .i64 T, .int .i64 B, .bool o], .agg #[.int .i64 r, .int .i64 c, .bool q]] W (FeedPost W (upZ T r 1) c q (if r = T then 1 else 0))) := fun W => back_c R C T B o r c q W (by have := HA.out; have := HF.out; omega)
      have HWr : Hid (∀ W, Calls Try.prog 24 #[.agg #[.int .i64 R, .int .i64 C, .int .i64 T, .int .i64 B, .bool o], .agg #[.int .i64 r, .int .i64 c, .bool q], .bool b] W (CaretPost W (wroteZ C r c b).1 (wroteZ C r c b).2.1 (wroteZ C r c b).2.2)) := fun W => wrote_c R C T B o r c q b W (by have := HA.out; have := HF.out; omega)
      have HStD : Hid (∀ W, Calls Try.prog 18 #[.agg #[.int .i64 R, .int .i64 C, .int .i64 T, .int .i64 B, .bool o], .int .i64 r, .int .i64 1, .int .i64 1] W fun en w' => en = .returned (.int .i64 (downZ R B r 1)) ∧ Below W.heap.size W w') := fun W => stepDown_c R C T B o r 1 W (by have := HA.out; omega) (by have := HA.out; omega) (by have := HF.out; omega)
      have HStU : Hid (∀ W, Calls Try.prog 18 #[.agg #[.int .i64 R, .int .i64 C, .int .i64 T, .int .i64 B, .bool o], .int .i64 r, .int .i64 (-1), .int .i64 1] W fun en w' => en = .returned (.int .i64 (upZ T r 1)) ∧ Below W.heap.size W w') := fun W => stepUp_c R C T B o r 1 W (by have := HA.out; omega) (by have := HA.out; have := HF.out; omega)
      have HW1 : Hid (wroteZ C r c b = wroteZ C r c b) := rfl
      generalize downZ R B r 1 = f at HFe HStD
      generalize upZ T r 1 = u at HBa HStU
      obtain ⟨⟨a1, a2, a3⟩, hW⟩ : ∃ x, wroteZ C r c b = x := ⟨_, rfl⟩
      rw [hW] at HWr
      simp only at HWr
      have HWz := Lib.hid hW
      obtain ⟨k1, hk1⟩ : ∃ k, (if r = B then (1 : Int) else 0) = k := ⟨_, rfl⟩
      obtain ⟨k2, hk2⟩ : ∃ k, (if r = T then (1 : Int) else 0) = k := ⟨_, rfl⟩
      rw [hk1] at HFe
      rw [hk2] at HBa
      have HK1 := Lib.hid hk1
      have HK2 := Lib.hid hk2
      unfold FeedPost caretA at HFe HBa
      unfold CaretPost caretA at HWr
      clear hW HW1 hk1 hk2
      go_enter Try.func6, Try.ntmps6
      go_upto_region 1 with (fail)
      rw [hz.out]
      refine name_wp (fun w1 => BothAt w w1 z R C T B o r c q) (BothAt.new w hz.out R C T B o r c q) ?_
      intro w1 hb1
      have HB1 := Lib.hid hb1
      clear hb1
      go_wp2_with fail
      refine (awake14_c w1).mono ?_
      rintro en w2 ⟨rfl, hb2⟩
      have HB2 := Lib.hid (HB1.out.keep hb2)
      clear hb2
      obtain ⟨x0, x1, x2, x3, x4⟩ := fiveA HB2.out.area
      obtain ⟨y0, y1, y2⟩ := threeA HB2.out.caret
      go_wp2_with fail
      refine (HRef.out _).mono ?_
      rintro en w3 ⟨rfl, hb3⟩
      have HB3 := Lib.hid (HB2.out.keep hb3)
      clear hb3 x0 x1 x2 x3 x4 y0 y1 y2
      obtain ⟨x0, x1, x2, x3, x4⟩ := fiveA HB3.out.area
      obtain ⟨y0, y1, y2⟩ := threeA HB3.out.caret
      go_wp2_with fail
      refine (HRi.out _).mono ?_
      rintro en w4 ⟨rfl, hb4⟩
      have HB4 := Lib.hid (HB3.out.keep hb4)
      clear hb4 x0 x1 x2 x3 x4 y0 y1 y2
      obtain ⟨x0, x1, x2, x3, x4⟩ := fiveA HB4.out.area
      obtain ⟨y0, y1, y2⟩ := threeA HB4.out.caret
      go_wp2_with fail
      refine (HFi.out _).mono ?_
      rintro en w5 ⟨rfl, hb5⟩
      have HB5 := Lib.hid (HB4.out.keep hb5)
      clear hb5 x0 x1 x2 x3 x4 y0 y1 y2
      obtain ⟨x0, x1, x2, x3, x4⟩ := fiveA HB5.out.area
      obtain ⟨y0, y1, y2⟩ := threeA HB5.out.caret
      go_wp2_with fail
      refine (HFe.out _).mono ?_
      rintro en w6 ⟨rfl, hb6⟩
      have HB6 := Lib.hid (HB5.out.keep hb6)
      clear hb6 x0 x1 x2 x3 x4 y0 y1 y2
      obtain ⟨x0, x1, x2, x3, x4⟩ := fiveA HB6.out.area
      obtain ⟨y0, y1, y2⟩ := threeA HB6.out.caret
      obtain ⟨gF, hgF⟩ : ∃ x, Hid (w6.heap.size = x) := ⟨_, rfl⟩
      have LgF : Hid (z + 1 < gF) := Lib.hid (by have := HB6.out.caret.lt; have := hgF.out; omega)
      clear x0 x1 x2 x3 x4 y0 y1 y2
      go_upto_region 6 with (fail)
      rw [hgF.out]
      refine name_wp (fun w7 => BothAt w w7 z R C T B o r c q ∧ Blk w7 gF 25 [.int .i64 f, .int .i64 c, .bool q]) ⟨HB6.out.keep (alloc_below' _ _), by rw [← hgF.out]; exact Blk.new w6 _ [.int .i64 f, .int .i64 c, .bool q]⟩ ?_
      rintro w7 ⟨hb7, tgF⟩
      have HB7 := Lib.hid hb7
      have HgF := Lib.hid tgF
      clear hb7 tgF
      obtain ⟨x0, x1, x2, x3, x4⟩ := fiveA HB7.out.area
      obtain ⟨y0, y1, y2⟩ := threeA HB7.out.caret
      go_wp2_with fail
      refine (HBa.out _).mono ?_
      rintro en w8 ⟨rfl, hb8⟩
      have HB8 := Lib.hid (HB7.out.keep hb8)
      replace HgF := Lib.hid (HgF.out.below hb8 HgF.out.lt)
      clear hb8 x0 x1 x2 x3 x4 y0 y1 y2
      obtain ⟨x0, x1, x2, x3, x4⟩ := fiveA HB8.out.area
      obtain ⟨y0, y1, y2⟩ := threeA HB8.out.caret
      obtain ⟨gB, hgB⟩ : ∃ x, Hid (w8.heap.size = x) := ⟨_, rfl⟩
      have LgB : Hid (z + 1 < gB ∧ gF < gB) := Lib.hid (by have := HB8.out.caret.lt; have := HgF.out.lt; have := hgB.out; omega)
      clear x0 x1 x2 x3 x4 y0 y1 y2
      go_upto_region 7 with (fail)
      rw [hgB.out]
      refine name_wp (fun w9 => BothAt w w9 z R C T B o r c q ∧ Blk w9 gF 25 [.int .i64 f, .int .i64 c, .bool q] ∧ Blk w9 gB 25 [.int .i64 u, .int .i64 c, .bool q]) ⟨HB8.out.keep (alloc_below' _ _), HgF.out.alloc _, by rw [← hgB.out]; exact Blk.new w8 _ [.int .i64 u, .int .i64 c, .bool q]⟩ ?_
      rintro w9 ⟨hb9, tgF, tgB⟩
      have HB9 := Lib.hid hb9
      replace HgF := Lib.hid tgF
      have HgB := Lib.hid tgB
      clear hb9 tgF tgB
      obtain ⟨x0, x1, x2, x3, x4⟩ := fiveA HB9.out.area
      obtain ⟨y0, y1, y2⟩ := threeA HB9.out.caret
      go_wp2_with fail
      refine (HWr.out _).mono ?_
      rintro en w10 ⟨rfl, hb10⟩
      have HB10 := Lib.hid (HB9.out.keep hb10)
      replace HgF := Lib.hid (HgF.out.below hb10 HgF.out.lt)
      replace HgB := Lib.hid (HgB.out.below hb10 HgB.out.lt)
      clear hb10 x0 x1 x2 x3 x4 y0 y1 y2
      obtain ⟨x0, x1, x2, x3, x4⟩ := fiveA HB10.out.area
      obtain ⟨y0, y1, y2⟩ := threeA HB10.out.caret
      obtain ⟨gW, hgW⟩ : ∃ x, Hid (w10.heap.size = x) := ⟨_, rfl⟩
      have LgW : Hid (z + 1 < gW ∧ gF < gW ∧ gB < gW) := Lib.hid (by have := HB10.out.caret.lt; have := HgF.out.lt; have := HgB.out.lt; have := hgW.out; omega)
      clear x0 x1 x2 x3 x4 y0 y1 y2
      go_upto_region 8 with (fail)
      rw [hgW.out]
      refine name_wp (fun w11 => BothAt w w11 z R C T B o r c q ∧ Blk w11 gF 25 [.int .i64 f, .int .i64 c, .bool q] ∧ Blk w11 gB 25 [.int .i64 u, .int .i64 c, .bool q] ∧ Blk w11 gW 25 [.int .i64 a1, .int .i64 a2, .bool a3]) ⟨HB10.out.keep (alloc_below' _ _), HgF.out.alloc _, HgB.out.alloc _, by rw [← hgW.out]; exact Blk.new w10 _ [.int .i64 a1, .int .i64 a2, .bool a3]⟩ ?_
      rintro w11 ⟨hb11, tgF, tgB, tgW⟩
      have HB11 := Lib.hid hb11
      replace HgF := Lib.hid tgF
      replace HgB := Lib.hid tgB
      have HgW := Lib.hid tgW
      clear hb11 tgF tgB tgW
      obtain ⟨x0, x1, x2, x3, x4⟩ := fiveA HB11.out.area
      obtain ⟨y0, y1, y2⟩ := threeA HB11.out.caret
      clear x0 x1 x2 x3 x4 y0 y1 y2
      obtain ⟨n0, hn0⟩ : ∃ n, Hid (w11.heap.size = n) := ⟨_, rfl⟩
      have HN0 : Hid (z + 1 < w11.heap.size ∧ gF < w11.heap.size ∧ gB < w11.heap.size ∧ gW < w11.heap.size) := Lib.hid (by have := HB11.out.caret.lt; have := HgF.out.lt; have := HgB.out.lt; have := HgW.out.lt; omega)
      refine wp_region_held_drew (S := fun W => Blk W (z + 1) 25 [.int .i64 r, .int .i64 c, .bool q]) (by kernel_rfl) HB11.out.caret.drew (fun hS => ?_)
      refine wpAnyH_take (i := 0) (oi := ⟨some 42, .load 25 (.tmp 4), _, _, _, _⟩) (v := .agg [.int .i64 r, .int .i64 c, .bool q].toArray) rfl (by kernel_rfl) (by kernel_rfl) (by kernel_rfl) (fun _ _ _ h => h) (yieldsIf_load_at rfl 25 (.tmp 4) rfl ⟨z + 1, 0, none⟩ rfl [.int .i64 r, .int .i64 c, .bool q] _ (fun W hW => hW.all) Try.underlying25 rfl sizeCaret) hS ?_
      simp only [Act.put, List.setIfInBounds_toArray, List.set_cons_zero, List.set_cons_succ]
      refine wpAnyH_take (i := 1) (oi := ⟨some 43, .load 25 (.tmp 4), _, _, _, _⟩) (v := .agg [.int .i64 r, .int .i64 c, .bool q].toArray) rfl (by kernel_rfl) (by kernel_rfl) (by kernel_rfl) (fun _ _ _ h => h) (yieldsIf_load_at rfl 25 (.tmp 4) rfl ⟨z + 1, 0, none⟩ rfl [.int .i64 r, .int .i64 c, .bool q] _ (fun W hW => hW.all) Try.underlying25 rfl sizeCaret) hS ?_
      simp only [Act.put, List.setIfInBounds_toArray, List.set_cons_zero, List.set_cons_succ]
      refine wpAnyH_two_allocs (i := 2) (j := 3) (di := 12) (dj := 13) (t := 25) (zs := [.int .i64 0, .int .i64 0, .bool false]) (by kernel_rfl) (by kernel_rfl) (by kernel_rfl) (by decide) (by decide) rfl rfl rfl rfl rfl rfl rfl rfl ?_ (fun W W' h hb => h.below hb h.lt) hS ?_
      · intro W
        go_simp
      intro gD gU W hne n2 n3 k2 k3 hbel hSW
      clear hS
      simp only [Act.put, List.setIfInBounds_toArray, List.set_cons_zero, List.set_cons_succ]
      have n2' : w11.heap.size ≤ gD := n2
      have n3' : w11.heap.size ≤ gU := n3
      refine wpAnyH_ready (rs := [4]) (by kernel_rfl) (by simp) (AllReadyH.cons (o := ⟨none, .store 25 (.tmp 12) (.tmp 42), _, _, _, _⟩) rfl (fun K hK => ?_) AllReadyH.nil)
      refine step_store_blk rfl rfl 25 (.tmp 12) (.tmp 42) rfl gD rfl [.int .i64 r, .int .i64 c, .bool q] rfl [.int .i64 0, .int .i64 0, .bool false] 25 (k2) rfl (one_caretV _ _ _) sizeCaret ?_
      intro w13 hb13 hg13
      refine hK.out _ _ (hSW.grown hg13 (fun e => by have := Option.some.inj e; have := HN0.out; omega)) (fun hS3 => ?_)
      clear hK K
      refine wpAnyH_ready (rs := [5]) (by kernel_rfl) (by simp) (AllReadyH.cons (o := ⟨none, .store 25 (.tmp 13) (.tmp 43), _, _, _, _⟩) rfl (fun K hK => ?_) AllReadyH.nil)
      refine step_store_blk rfl rfl 25 (.tmp 13) (.tmp 43) rfl gU rfl [.int .i64 r, .int .i64 c, .bool q] rfl [.int .i64 0, .int .i64 0, .bool false] 25 (k3.grown hg13 (fun e => hne (Option.some.inj e).symm)) rfl (one_caretV _ _ _) sizeCaret ?_
      intro w14 hb14 hg14
      refine hK.out _ _ (hS3.grown hg14 (fun e => by have := Option.some.inj e; have := HN0.out; omega)) (fun hS4 => ?_)
      clear hK K hS3 hS4 hSW
      refine wpAnyH_done (by kernel_rfl) ?_ _
      have hbe : Below w11.heap.size w11 W := ⟨hbel.os, hbel.tape, hbel.output, hbel.size, hbel.block⟩
      have hkeep : ∀ {g : Nat} {t : TypeId} {cs : List Value}, g < w11.heap.size → Blk w11 g t cs → Blk w14 g t cs := fun h hb => ((hb.below hbe hb.lt).grown hg13 (fun e => by have := Option.some.inj e; omega)).grown hg14 (fun e => by have := Option.some.inj e; omega)
      have HB14 : Hid (BothAt w w14 z R C T B o r c q) := by
        have hs := HB11.out.bel.trans (hbe.mono HB11.out.bel.size)
        refine ⟨hkeep (by have := HN0.out; omega) HB11.out.area, hkeep HN0.out.1 HB11.out.caret, ?_⟩
        have h13 := hs.grown hg13 hs.size (fun k e => by have := Option.some.inj e; have := HB11.out.bel.size; omega)
        exact h13.grown hg14 h13.size (fun k e => by have := Option.some.inj e; have := HB11.out.bel.size; omega)
      have HGF := Lib.hid (hkeep HN0.out.2.1 HgF.out)
      have HGB := Lib.hid (hkeep HN0.out.2.2.1 HgB.out)
      have HGW := Lib.hid (hkeep HN0.out.2.2.2 HgW.out)
      have HGD := Lib.hid (hb13.grown hg14 (fun e => hne (Option.some.inj e)))
      have HGU := Lib.hid hb14
      have HNE := Lib.hid hne
      have HND : Hid (z + 1 < gD ∧ gF < gD ∧ gB < gD ∧ gW < gD) := Lib.hid (by have := HN0.out; omega)
      have HNU : Hid (z + 1 < gU ∧ gF < gU ∧ gB < gU ∧ gW < gU) := Lib.hid (by have := HN0.out; omega)
      clear hkeep hbe HgF HgB HgW hb13 hb14 hg13 hg14 hbel k2 k3 hne n2 n3 n2' n3'
      have HBz : Hid (w.heap.size ≤ z) := Lib.hid (Nat.le_of_eq hz.out)
      go_upto_region 9 with (fail)
      refine wp_region_any (by kernel_rfl) ?_
      change wpAny _ _ _ _ _ _ _ (World.drew _)
      have HBx := Lib.hid (HB14.out.keep (Below.refl _ _).drew)
      replace HGF := Lib.hid HGF.out.drew
      replace HGB := Lib.hid HGB.out.drew
      replace HGW := Lib.hid HGW.out.drew
      replace HGD := Lib.hid HGD.out.drew
      replace HGU := Lib.hid HGU.out.drew
      generalize w14.drew = w15 at *
      refine wpAny_relyG (g := 1) [(0, 44), (1, 45), (2, 46), (3, 47), (4, 48), (5, 49)] (condAt (C9 R C T B o r z f gD)) [] (by kernel_rfl) rfl (condAt_keep (C9_stable R C T B o r z f gD)) ?hstep ?hend
      case hstep =>
        intro p hp o' ho x W hbel hdep K hK
        have hB := HBx.out.keep hbel
        obtain ⟨x0, x1, x2, x3, x4⟩ := fiveA hB.area
        obtain ⟨y0, y1, y2⟩ := threeA hB.caret
        simp only [List.mem_cons, List.not_mem_nil, or_false] at hp
        rcases hp with rfl | rfl | rfl | rfl | rfl | rfl
        · cases Option.some.inj ho
          simp only [frm, List.foldl_cons, List.foldl_nil, Act.put, List.setIfInBounds_toArray, List.set_cons_zero, List.set_cons_succ] at hK ⊢
          clear hdep ho
          rw [if_pos (by rfl)]
          go_simp
          exact hK _ _ rfl (Below.refl _ _) (by simp)
        · cases Option.some.inj ho
          have d0 : x 0 = .agg #[.int .i64 R, .int .i64 C, .int .i64 T, .int .i64 B, .bool o] := hdep ⟨0, .data⟩ (by simp) rfl rfl
          simp only [frm, List.foldl_cons, List.foldl_nil, Act.put, List.setIfInBounds_toArray, List.set_cons_zero, List.set_cons_succ] at hK ⊢
          clear hdep ho
          rw [d0] at hK ⊢
          clear d0
          rw [if_pos (by rfl)]
          go_simp
          refine (HRef.out _).mono ?_
          rintro e w' ⟨rfl, hb⟩
          exact hK _ _ rfl hb (by simp)
        · cases Option.some.inj ho
          simp only [frm, List.foldl_cons, List.foldl_nil, Act.put, List.setIfInBounds_toArray, List.set_cons_zero, List.set_cons_succ] at hK ⊢
          clear hdep ho
          rw [if_pos (by rfl)]
          go_simp
          exact hK _ _ rfl (Below.refl _ _) (by simp)
        · cases Option.some.inj ho
          have d2 : x 2 = .pointer (some ⟨z + 1, 0, none⟩) := hdep ⟨2, .data⟩ (by simp) rfl rfl
          simp only [frm, List.foldl_cons, List.foldl_nil, Act.put, List.setIfInBounds_toArray, List.set_cons_zero, List.set_cons_succ] at hK ⊢
          clear hdep ho
          rw [d2] at hK ⊢
          clear d2
          rw [if_pos (by rfl)]
          go_simp
          exact hK _ _ rfl (Below.refl _ _) (by simp)
        · cases Option.some.inj ho
          have d1 : x 1 = .agg #[.int .i64 R, .int .i64 C, .int .i64 T, .int .i64 B, .bool o] := hdep ⟨1, .data⟩ (by simp) rfl rfl
          have d3 : x 3 = .int .i64 r := hdep ⟨3, .data⟩ (by simp) rfl rfl
          simp only [frm, List.foldl_cons, List.foldl_nil, Act.put, List.setIfInBounds_toArray, List.set_cons_zero, List.set_cons_succ] at hK ⊢
          clear hdep ho
          rw [d1, d3] at hK ⊢
          clear d1 d3
          rw [if_pos (by rfl)]
          go_simp
          refine (HStD.out _).mono ?_
          rintro e w' ⟨rfl, hb⟩
          exact hK _ _ rfl hb (by simp)
        · cases Option.some.inj ho
          simp only [frm, List.foldl_cons, List.foldl_nil, Act.put, List.setIfInBounds_toArray, List.set_cons_zero, List.set_cons_succ] at hK ⊢
          clear hdep ho
          rw [if_pos (by rfl)]
          go_simp
          exact hK _ _ rfl (Below.refl _ _) (by simp)
      case hend =>
        intro x W hbel hall _
        have d4 : x 4 = .int .i64 f := hall (4, 48) (by simp)
        have d5 : x 5 = .pointer (some ⟨gD, 0, none⟩) := hall (5, 49) (by simp)
        simp only [frm, List.foldl_cons, List.foldl_nil, Act.put, List.setIfInBounds_toArray, List.set_cons_zero, List.set_cons_succ]
        rw [d4, d5]
        clear hall d4 d5
        generalize x 0 = z0
        generalize x 1 = z1
        generalize x 2 = z2
        generalize x 3 = z3
        generalize x 6 = z6
        have f0 : W.frozen? ⟨gD, 0, none⟩ = false := (HGD.out.below hbel HGD.out.lt).frozen 0
        have c0 : W.cell? ⟨gD, 0, none⟩ = some (.int .i64 r) := (HGD.out.below hbel HGD.out.lt).cell 0
        refine wpAny_ready (rs := [6]) (by kernel_rfl) (by simp) (AllReady.cons (o := ⟨none, .store 3 (.tmp 49) (.tmp 48), _, _, _, _⟩) rfl (fun K hK => ?_) AllReady.nil)
        rw [if_pos (by rfl)]
        go_simp
        refine hK _ _ ?_
        clear hK K c0 f0
        try simp only [Act.put, List.setIfInBounds_toArray, List.set_cons_zero, List.set_cons_succ]
        refine wpAny_done (by kernel_rfl) ?_ _
        go_upto_region 10 with (fail)
        refine name_wp (fun w16 => BothAt w w16 z R C T B o r c q ∧ Blk w16 gF 25 [.int .i64 f, .int .i64 c, .bool q] ∧ Blk w16 gB 25 [.int .i64 u, .int .i64 c, .bool q] ∧ Blk w16 gW 25 [.int .i64 a1, .int .i64 a2, .bool a3] ∧ Blk w16 gD 25 [.int .i64 f, .int .i64 c, .bool q] ∧ Blk w16 gU 25 [.int .i64 r, .int .i64 c, .bool q]) ⟨⟨(HBx.out.area.below hbel HBx.out.area.lt).far (show z ≠ gD by have := HND.out; omega) _, (HBx.out.caret.below hbel HBx.out.caret.lt).far (show z + 1 ≠ gD by have := HND.out; omega) _, ?_⟩, (HGF.out.below hbel HGF.out.lt).far (show gF ≠ gD by have := HND.out; have := HNE.out; omega) _, (HGB.out.below hbel HGB.out.lt).far (show gB ≠ gD by have := HND.out; have := HNE.out; omega) _, (HGW.out.below hbel HGW.out.lt).far (show gW ≠ gD by have := HND.out; have := HNE.out; omega) _, (HGD.out.below hbel HGD.out.lt).set_ 0 _, (HGU.out.below hbel HGU.out.lt).far (show gU ≠ gD by have := HND.out; have := HNE.out; omega) _⟩ ?_
        · have hs := HBx.out.bel.trans (hbel.mono HBx.out.bel.size)
          exact below_of_only hs (only_setCell (World.grownBy.refl _ _) rfl _) hs.size (show w.heap.size ≤ gD by have := HBz.out; have := HND.out; omega)
        rintro w16 ⟨hb16, tgF, tgB, tgW, tgD, tgU⟩
        have HB16 := Lib.hid hb16
        replace HGF := Lib.hid tgF
        replace HGB := Lib.hid tgB
        replace HGW := Lib.hid tgW
        replace HGD := Lib.hid tgD
        replace HGU := Lib.hid tgU
        clear hb16 HBx hbel tgF tgB tgW tgD tgU
        refine wp_region_any (by kernel_rfl) ?_
        change wpAny _ _ _ _ _ _ _ (World.drew _)
        have HBx := Lib.hid (HB16.out.keep (Below.refl _ _).drew)
        replace HGF := Lib.hid HGF.out.drew
        replace HGB := Lib.hid HGB.out.drew
        replace HGW := Lib.hid HGW.out.drew
        replace HGD := Lib.hid HGD.out.drew
        replace HGU := Lib.hid HGU.out.drew
        generalize w16.drew = w17 at *
        refine wpAny_relyG (g := 1) [(0, 50), (1, 51), (2, 52), (3, 53), (4, 54), (5, 55)] (condAt (C10 R C T B o r z u gU)) [] (by kernel_rfl) rfl (condAt_keep (C10_stable R C T B o r z u gU)) ?hstep ?hend
        case hstep =>
          intro p hp o' ho x W hbel hdep K hK
          have hB := HBx.out.keep hbel
          obtain ⟨x0, x1, x2, x3, x4⟩ := fiveA hB.area
          obtain ⟨y0, y1, y2⟩ := threeA hB.caret
          simp only [List.mem_cons, List.not_mem_nil, or_false] at hp
          rcases hp with rfl | rfl | rfl | rfl | rfl | rfl
          · cases Option.some.inj ho
            simp only [frm, List.foldl_cons, List.foldl_nil, Act.put, List.setIfInBounds_toArray, List.set_cons_zero, List.set_cons_succ] at hK ⊢
            clear hdep ho
            rw [if_pos (by rfl)]
            go_simp
            exact hK _ _ rfl (Below.refl _ _) (by simp)
          · cases Option.some.inj ho
            have d0 : x 0 = .agg #[.int .i64 R, .int .i64 C, .int .i64 T, .int .i64 B, .bool o] := hdep ⟨0, .data⟩ (by simp) rfl rfl
            simp only [frm, List.foldl_cons, List.foldl_nil, Act.put, List.setIfInBounds_toArray, List.set_cons_zero, List.set_cons_succ] at hK ⊢
            clear hdep ho
            rw [d0] at hK ⊢
            clear d0
            rw [if_pos (by rfl)]
            go_simp
            refine (HRef.out _).mono ?_
            rintro e w' ⟨rfl, hb⟩
            exact hK _ _ rfl hb (by simp)
          · cases Option.some.inj ho
            simp only [frm, List.foldl_cons, List.foldl_nil, Act.put, List.setIfInBounds_toArray, List.set_cons_zero, List.set_cons_succ] at hK ⊢
            clear hdep ho
            rw [if_pos (by rfl)]
            go_simp
            exact hK _ _ rfl (Below.refl _ _) (by simp)
          · cases Option.some.inj ho
            have d2 : x 2 = .pointer (some ⟨z + 1, 0, none⟩) := hdep ⟨2, .data⟩ (by simp) rfl rfl
            simp only [frm, List.foldl_cons, List.foldl_nil, Act.put, List.setIfInBounds_toArray, List.set_cons_zero, List.set_cons_succ] at hK ⊢
            clear hdep ho
            rw [d2] at hK ⊢
            clear d2
            rw [if_pos (by rfl)]
            go_simp
            exact hK _ _ rfl (Below.refl _ _) (by simp)
          · cases Option.some.inj ho
            have d1 : x 1 = .agg #[.int .i64 R, .int .i64 C, .int .i64 T, .int .i64 B, .bool o] := hdep ⟨1, .data⟩ (by simp) rfl rfl
            have d3 : x 3 = .int .i64 r := hdep ⟨3, .data⟩ (by simp) rfl rfl
            simp only [frm, List.foldl_cons, List.foldl_nil, Act.put, List.setIfInBounds_toArray, List.set_cons_zero, List.set_cons_succ] at hK ⊢
            clear hdep ho
            rw [d1, d3] at hK ⊢
            clear d1 d3
            rw [if_pos (by rfl)]
            go_simp
            refine (HStU.out _).mono ?_
            rintro e w' ⟨rfl, hb⟩
            exact hK _ _ rfl hb (by simp)
          · cases Option.some.inj ho
            simp only [frm, List.foldl_cons, List.foldl_nil, Act.put, List.setIfInBounds_toArray, List.set_cons_zero, List.set_cons_succ] at hK ⊢
            clear hdep ho
            rw [if_pos (by rfl)]
            go_simp
            exact hK _ _ rfl (Below.refl _ _) (by simp)
        case hend =>
          intro x W hbel hall _
          have d4 : x 4 = .int .i64 u := hall (4, 54) (by simp)
          have d5 : x 5 = .pointer (some ⟨gU, 0, none⟩) := hall (5, 55) (by simp)
          simp only [frm, List.foldl_cons, List.foldl_nil, Act.put, List.setIfInBounds_toArray, List.set_cons_zero, List.set_cons_succ]
          rw [d4, d5]
          clear hall d4 d5
          generalize x 0 = z0
          generalize x 1 = z1
          generalize x 2 = z2
          generalize x 3 = z3
          generalize x 6 = z6
          have f0 : W.frozen? ⟨gU, 0, none⟩ = false := (HGU.out.below hbel HGU.out.lt).frozen 0
          have c0 : W.cell? ⟨gU, 0, none⟩ = some (.int .i64 r) := (HGU.out.below hbel HGU.out.lt).cell 0
          refine wpAny_ready (rs := [6]) (by kernel_rfl) (by simp) (AllReady.cons (o := ⟨none, .store 3 (.tmp 55) (.tmp 54), _, _, _, _⟩) rfl (fun K hK => ?_) AllReady.nil)
          rw [if_pos (by rfl)]
          go_simp
          refine hK _ _ ?_
          clear hK K c0 f0
          try simp only [Act.put, List.setIfInBounds_toArray, List.set_cons_zero, List.set_cons_succ]
          refine wpAny_done (by kernel_rfl) ?_ _
          go_upto_region 11 with (fail)
          refine name_wp (fun w18 => BothAt w w18 z R C T B o r c q ∧ Blk w18 gF 25 [.int .i64 f, .int .i64 c, .bool q] ∧ Blk w18 gB 25 [.int .i64 u, .int .i64 c, .bool q] ∧ Blk w18 gW 25 [.int .i64 a1, .int .i64 a2, .bool a3] ∧ Blk w18 gD 25 [.int .i64 f, .int .i64 c, .bool q] ∧ Blk w18 gU 25 [.int .i64 u, .int .i64 c, .bool q]) ⟨⟨(HBx.out.area.below hbel HBx.out.area.lt).far (show z ≠ gU by have := HNU.out; omega) _, (HBx.out.caret.below hbel HBx.out.caret.lt).far (show z + 1 ≠ gU by have := HNU.out; omega) _, ?_⟩, (HGF.out.below hbel HGF.out.lt).far (show gF ≠ gU by have := HNU.out; have := HNE.out; omega) _, (HGB.out.below hbel HGB.out.lt).far (show gB ≠ gU by have := HNU.out; have := HNE.out; omega) _, (HGW.out.below hbel HGW.out.lt).far (show gW ≠ gU by have := HNU.out; have := HNE.out; omega) _, (HGD.out.below hbel HGD.out.lt).far (show gD ≠ gU by have := HNU.out; have := HNE.out; omega) _, (HGU.out.below hbel HGU.out.lt).set_ 0 _⟩ ?_
          · have hs := HBx.out.bel.trans (hbel.mono HBx.out.bel.size)
            exact below_of_only hs (only_setCell (World.grownBy.refl _ _) rfl _) hs.size (show w.heap.size ≤ gU by have := HBz.out; have := HNU.out; omega)
          rintro w18 ⟨hb18, tgF, tgB, tgW, tgD, tgU⟩
          have HB18 := Lib.hid hb18
          replace HGF := Lib.hid tgF
          replace HGB := Lib.hid tgB
          replace HGW := Lib.hid tgW
          replace HGD := Lib.hid tgD
          replace HGU := Lib.hid tgU
          clear hb18 HBx hbel tgF tgB tgW tgD tgU
          obtain ⟨x0, x1, x2, x3, x4⟩ := fiveA HB18.out.area
          obtain ⟨y0, y1, y2⟩ := threeA HB18.out.caret
          obtain ⟨f0, f1, f2⟩ := threeA HGF.out
          obtain ⟨b0, b1, b2⟩ := threeA HGB.out
          obtain ⟨w0, w1, w2⟩ := threeA HGW.out
          obtain ⟨d0, d1, d2⟩ := threeA HGD.out
          obtain ⟨u0, u1, u2⟩ := threeA HGU.out
          have heqF := fun W => run_eq_caret W f c q
          have heqB := fun W => run_eq_caret W u c q
          have q1 : (k1 = 1 ∧ (r == B) = true) ∨ (k1 = 0 ∧ (r == B) = false) := by
            rw [← HK1.out]
            by_cases h : r = B
            · exact .inl ⟨if_pos h, by simpa using h⟩
            · exact .inr ⟨if_neg h, by simpa using h⟩
          have q2 : (k2 = 1 ∧ (r == T) = true) ∨ (k2 = 0 ∧ (r == T) = false) := by
            rw [← HK2.out]
            by_cases h : r = T
            · exact .inl ⟨if_pos h, by simpa using h⟩
            · exact .inr ⟨if_neg h, by simpa using h⟩
          clear HK1 HK2
          go_cut [99] (fun s wx => s = .bool false ∧ w18 = wx)
          case first =>
            rcases q1 with ⟨rfl, q1⟩ | ⟨rfl, q1⟩ <;> rcases q2 with ⟨rfl, q2⟩ | ⟨rfl, q2⟩
            all_goals
              go_wp2_with fail
              go_meet
              exact ⟨rfl, rfl⟩
          case rest =>
            obtain ⟨rfl, rfl⟩ := hcut
            clear q1 q2
            have HC : Hid (0 ≤ c ∧ c < C ∧ C ≤ 132) := Lib.hid (by have := HA.out; have := HF.out; omega)
            by_cases h : c = C - 1
            · have hd : (c == C - 1) = true := by simpa using h
              have hw : IntKind.i64.wrap (C - 1) = C - 1 := IntWalk.i64_in _ (by have := HC.out; omega)
              have hv : Hid ((r, c, b) = (a1, a2, a3)) := by show _ = _; rw [← HWz.out]; unfold wroteZ; rw [if_pos h]
              clear h
              cases hv.out
              have heqW := fun W => run_eq_caret W r c b
              go_wp2
              go_ret
              exact ⟨rfl, HB18.out.bel⟩
            · have hd : (c == C - 1) = false := by simpa using h
              have hw : IntKind.i64.wrap (C - 1) = C - 1 := IntWalk.i64_in _ (by have := HC.out; omega)
              have hw2 : IntKind.i64.wrap (c + 1) = c + 1 := IntWalk.i64_in _ (by have := HC.out; omega)
              have hv : Hid ((r, c + 1, false) = (a1, a2, a3)) := by show _ = _; rw [← HWz.out]; unfold wroteZ; rw [if_neg h]
              clear h
              cases hv.out
              have heqW := fun W => run_eq_caret W r (c + 1) false
              go_wp2
              go_ret
              exact ⟨rfl, HB18.out.bel⟩
end Go.Proofs.Ytdcbiknlihfhcaa.caretFeeds
