/- The walk through CaretAreas: for every area, caret and two numbers it returns true and leaves old memory as it was. Conditions: none. -/
import Derived.Test.YtdcbiknlihfhcaaCaretA
namespace Go.Proofs.Ytdcbiknlihfhcaa.caretAreas
open Go.ChangeShapes Go.WideShapes Go.RowKit
theorem twoD {W : World} {z : Nat} {t : TypeId} {a b : Int} (h : Blk W z t [.int .i64 a, .int .i64 b]) : W.cell? ⟨z, 0, none⟩ = some (.int .i64 a) ∧ W.cell? ⟨z, 1, none⟩ = some (.int .i64 b) := ⟨h.cell 0, h.cell 1⟩
theorem blkNew {w : World} {g : Nat} (h : w.heap.size = g) (t : TypeId) (cs : List Value) : Blk (w.alloc (.cells cs.toArray t)) g t cs := by
  subst h
  exact Blk.new w t cs
set_option maxRecDepth 100000 in
set_option maxHeartbeats 12800000 in
theorem walk (ar : AreaV) (ca : CaretV) (a b : Int) (w : World) (har : fit64 ar.1 ∧ fit64 ar.2.1 ∧ fit64 ar.2.2.1 ∧ fit64 ar.2.2.2.1) (hk : fit64 ca.1 ∧ fit64 ca.2.1) (ha : (Lit.int .i64 a).wf = true) (hb : (Lit.int .i64 b).wf = true) :
    Calls Try.prog 3 #[.agg #[.int .i64 ar.1, .int .i64 ar.2.1, .int .i64 ar.2.2.1, .int .i64 ar.2.2.2.1, .bool ar.2.2.2.2], .agg #[.int .i64 ca.1, .int .i64 ca.2.1, .bool ca.2.2], .agg #[.int .i64 a, .int .i64 b]] w fun e w' => e = .returned (.bool true) ∧ Below w.heap.size w w' := by
  obtain ⟨R, C, T, B, o⟩ := ar
  obtain ⟨r, c, q⟩ := ca
  simp only at har hk ⊢
  obtain ⟨z, hz⟩ : ∃ z, Hid (w.heap.size = z) := ⟨_, rfl⟩
  have HRef : Hid (∀ W, Calls Try.prog 9 #[.agg #[.int .i64 R, .int .i64 C, .int .i64 T, .int .i64 B, .bool o]] W fun en w' => en = .returned (.agg #[.int .i64 R, .int .i64 C, .int .i64 T, .int .i64 B, .bool o]) ∧ Below W.heap.size W w') := fun W => ref_c R C T B o W
  have HRi : Hid (∀ W, Calls Try.prog 8 #[.agg #[.int .i64 R, .int .i64 C, .int .i64 T, .int .i64 B, .bool o]] W (BoolPost W (areaOk R C T B))) := fun W => refRight_c R C T B o W
  have hra := range_i64 a ha
  have hrb := range_i64 b hb
  clear har hk ha hb
  obtain ⟨X, hX⟩ : ∃ X, areaOk R C T B = X := ⟨_, rfl⟩
  rw [hX] at HRi
  obtain ⟨Sz, hSz⟩ : ∃ X, decide (1 ≤ R ∧ R ≤ 60 ∧ 1 ≤ C ∧ C ≤ 132) = X := ⟨_, rfl⟩
  have HAr : Hid (∀ W, Calls Try.prog 11 #[.agg #[.int .i64 R, .int .i64 C, .int .i64 T, .int .i64 B, .bool o]] W (BoolPost W X)) := fun W => by rw [← hX]; exact aright_c R C T B o W
  have HSX : Hid (Sz = false → X = false) := by
    intro h
    rw [← hX, ← Bool.not_eq_true, areaOk_iff]
    rw [← hSz, decide_eq_false_iff_not] at h
    exact fun h2 => h h2.1
  obtain ⟨p1, p2, p3, p4, po, er, HWh, hp⟩ : ∃ p1 p2 p3 p4 po er, Hid (∀ W, Calls Try.prog 10 #[.int .i64 R, .int .i64 C] W (AreaPost W p1 p2 p3 p4 po (.int .i64 er))) ∧
      ((Sz = true ∧ p1 = R ∧ p2 = C ∧ p3 = 0 ∧ p4 = R - 1 ∧ po = false ∧ er = 0) ∨ (Sz = false ∧ p1 = 0 ∧ p2 = 0 ∧ p3 = 0 ∧ p4 = 0 ∧ po = false ∧ er = 22)) := by
    cases Sz
    · exact ⟨0, 0, 0, 0, false, 22, fun W => whole_no R C W (by rwa [decide_eq_false_iff_not] at hSz), .inr ⟨rfl, rfl, rfl, rfl, rfl, rfl, rfl⟩⟩
    · exact ⟨R, C, 0, R - 1, false, 0, fun W => whole_c R C W (by rwa [decide_eq_true_eq] at hSz), .inl ⟨rfl, rfl, rfl, rfl, rfl, rfl, rfl⟩⟩
  have HP := Lib.hid hp
  have HX := Lib.hid hX
  have HSz := Lib.hid hSz
  unfold AreaPost areaA at HWh
  clear hp hX hSz
  go_enter Try.func3, Try.ntmps3
  go_upto_region 1 with (fail)
  rw [hz.out]
  refine name_wp (fun w1 => BothAt w w1 z R C T B o r c q ∧ Blk w1 (z + 2) 26 [.int .i64 a, .int .i64 b]) ⟨(BothAt.new w hz.out R C T B o r c q).keep (alloc_below' _ _), by rw [← hz.out]; exact blk3 w _ _ _ [.int .i64 a, .int .i64 b]⟩ ?_
  rintro w1 ⟨hb1, hd1⟩
  have HB1 := Lib.hid hb1
  have HD1 := Lib.hid hd1
  clear hb1 hd1
  go_wp2_with fail
  refine (awake14_c w1).mono ?_
  rintro en w2 ⟨rfl, hb2⟩
  have HB2 := Lib.hid (HB1.out.keep hb2)
  have HD2 := Lib.hid (HD1.out.below hb2 HD1.out.lt)
  clear hb2
  obtain ⟨x0, x1, x2, x3, x4⟩ := fiveA HB2.out.area
  obtain ⟨y0, y1, y2⟩ := threeA HB2.out.caret
  go_wp2_with fail
  refine (HRef.out _).mono ?_
  rintro en w3 ⟨rfl, hb3⟩
  have HB3 := Lib.hid (HB2.out.keep hb3)
  have HD3 := Lib.hid (HD2.out.below hb3 HD2.out.lt)
  clear hb3 x0 x1 x2 x3 x4 y0 y1 y2
  obtain ⟨x0, x1, x2, x3, x4⟩ := fiveA HB3.out.area
  obtain ⟨y0, y1, y2⟩ := threeA HB3.out.caret
  go_wp2_with fail
  refine (HRi.out _).mono ?_
  rintro en w4 ⟨rfl, hb4⟩
  have HB4 := Lib.hid (HB3.out.keep hb4)
  have HD4 := Lib.hid (HD3.out.below hb4 HD3.out.lt)
  clear hb4 x0 x1 x2 x3 x4 y0 y1 y2
  obtain ⟨x0, x1, x2, x3, x4⟩ := fiveA HB4.out.area
  obtain ⟨y0, y1, y2⟩ := threeA HB4.out.caret
  go_wp2_with fail
  refine (HWh.out _).mono ?_
  rintro en w5 ⟨rfl, hb5⟩
  have HB5 := Lib.hid (HB4.out.keep hb5)
  have HD5 := Lib.hid (HD4.out.below hb5 HD4.out.lt)
  clear hb5 x0 x1 x2 x3 x4 y0 y1 y2
  obtain ⟨gW, hgW⟩ : ∃ x, Hid (w5.heap.size = x) := ⟨_, rfl⟩
  go_upto_region 5 with (fail)
  rw [hgW.out]
  refine name_wp (fun w6 => BothAt w w6 z R C T B o r c q ∧ Blk w6 (z + 2) 26 [.int .i64 a, .int .i64 b] ∧ Blk w6 gW 23 [.int .i64 p1, .int .i64 p2, .int .i64 p3, .int .i64 p4, .bool po]) ⟨HB5.out.keep (alloc_below' _ _), HD5.out.alloc _, blkNew hgW.out _ [.int .i64 p1, .int .i64 p2, .int .i64 p3, .int .i64 p4, .bool po]⟩ ?_
  rintro w6 ⟨hb6, hd6, hg6⟩
  have HB6 := Lib.hid hb6
  have HD6 := Lib.hid hd6
  have HG6 := Lib.hid hg6
  clear hb6 hd6 hg6
  obtain ⟨x0, x1, x2, x3, x4⟩ := fiveA HB6.out.area
  obtain ⟨b1, h1⟩ : ∃ b, decide (1 ≤ R) = b := ⟨_, rfl⟩
  obtain ⟨b2, h2⟩ : ∃ b, decide (R ≤ 60) = b := ⟨_, rfl⟩
  obtain ⟨b3, h3⟩ : ∃ b, decide (1 ≤ C) = b := ⟨_, rfl⟩
  obtain ⟨b4, h4⟩ : ∃ b, decide (C ≤ 132) = b := ⟨_, rfl⟩
  have hS : Hid ((b1 && b2 && b3 && b4) = Sz) := by
    show _ = _
    rw [← HSz.out, ← h1, ← h2, ← h3, ← h4, Bool.eq_iff_iff]
    simp only [Bool.and_eq_true, decide_eq_true_eq, and_assoc]
  go_cut [10] (fun s wx => s = .bool Sz ∧ w6 = wx)
  case first =>
    as_aux_lemma =>
      cases b1
      · go_wp2_with fail
        go_meet
        exact ⟨congrArg Value.bool hS.out, rfl⟩
      · cases b2
        · go_wp2_with fail
          go_meet
          exact ⟨congrArg Value.bool hS.out, rfl⟩
        · cases b3 <;> cases b4
          all_goals
            go_wp2_with fail
            go_meet
            exact ⟨congrArg Value.bool hS.out, rfl⟩
  case rest =>
    as_aux_lemma =>
      obtain ⟨rfl, rfl⟩ := hcut
      clear h1 h2 h3 h4 hS
      go_upto_region 6 with (fail)
      obtain ⟨s0, s1, s2, s3, s4⟩ := fiveA HG6.out
      go_wp2_with fail
      refine (HAr.out _).mono ?_
      rintro en w7 ⟨rfl, hb7⟩
      have HB7 := Lib.hid (HB6.out.keep hb7)
      have HD7 := Lib.hid (HD6.out.below hb7 HD6.out.lt)
      have HG7 := Lib.hid (HG6.out.below hb7 HG6.out.lt)
      clear hb7 x0 x1 x2 x3 x4 s0 s1 s2 s3 s4
      obtain ⟨x0, x1, x2, x3, x4⟩ := fiveA HB7.out.area
      obtain ⟨s0, s1, s2, s3, s4⟩ := fiveA HG7.out
      have hp := HP.out
      rcases hp with ⟨rfl, rfl, rfl, rfl, rfl, rfl, rfl⟩ | ⟨rfl, rfl, rfl, rfl, rfl, rfl, rfl⟩
      · have HSd : Hid (1 ≤ p1 ∧ p1 ≤ 60 ∧ 1 ≤ p2 ∧ p2 ≤ 132) := Lib.hid (by have h := HSz.out; rwa [decide_eq_true_eq] at h)
        have hwR : IntKind.i64.wrap (p1 - 1) = p1 - 1 := IntWalk.i64_in _ (by have := HSd.out; omega)
        have heq := fun W => run_eq_area W p1 p2 0 (p1 - 1) false
        cases X
        · go_wp2
          go_ret
          exact ⟨rfl, HB7.out.bel⟩
        · have HA := Lib.hid (areaOk_of HX.out)
          obtain ⟨Y, hY⟩ : ∃ Y, Hid (fitsZ p1 p2 r c q = Y) := ⟨_, rfl⟩
          have HFi : Hid (∀ W, Calls Try.prog 13 #[.agg #[.int .i64 p1, .int .i64 p2, .int .i64 T, .int .i64 B, .bool o], .agg #[.int .i64 r, .int .i64 c, .bool q]] W (BoolPost W Y)) := fun W => by rw [← hY.out]; exact fits_c p1 p2 T B o r c q W ⟨HSd.out.2.2.1, HSd.out.2.2.2⟩
          go_upto_region 10 with (fail)
          clear heq s0 s1 s2 s3 s4
          obtain ⟨y0, y1, y2⟩ := threeA HB7.out.caret
          have hwC : IntKind.i64.wrap (p2 - 1) = p2 - 1 := IntWalk.i64_in _ (by have := HSd.out; omega)
          obtain ⟨b1, h1⟩ : ∃ b, decide (0 ≤ r) = b := ⟨_, rfl⟩
          obtain ⟨b2, h2⟩ : ∃ b, decide (r < p1) = b := ⟨_, rfl⟩
          obtain ⟨b3, h3⟩ : ∃ b, decide (0 ≤ c) = b := ⟨_, rfl⟩
          obtain ⟨b4, h4⟩ : ∃ b, decide (c < p2) = b := ⟨_, rfl⟩
          obtain ⟨b5, h5⟩ : ∃ b, (c == p2 - 1) = b := ⟨_, rfl⟩
          have hS : Hid ((b1 && b2 && b3 && b4 && (!q || b5)) = Y) := by
            show _ = _
            rw [← hY.out, ← h1, ← h2, ← h3, ← h4, ← h5, Bool.eq_iff_iff, fitsZ_iff]
            cases q <;> simp [and_assoc]
          go_cut [11] (fun s wx => s = .bool Y ∧ w7 = wx)
          case first =>
            as_aux_lemma =>
              cases b1
              · go_wp2_with fail
                go_meet
                exact ⟨congrArg Value.bool hS.out, rfl⟩
              · cases b2
                · go_wp2_with fail
                  go_meet
                  exact ⟨congrArg Value.bool hS.out, rfl⟩
                · cases b3
                  · go_wp2_with fail
                    go_meet
                    exact ⟨congrArg Value.bool hS.out, rfl⟩
                  · cases b4
                    · go_wp2_with fail
                      go_meet
                      exact ⟨congrArg Value.bool hS.out, rfl⟩
                    · cases q
                      all_goals
                        go_wp2_with fail
                        go_meet
                        exact ⟨congrArg Value.bool hS.out, rfl⟩
          case rest =>
            as_aux_lemma =>
              obtain ⟨rfl, rfl⟩ := hcut
              clear h1 h2 h3 h4 h5 hS hwC hwR
              obtain ⟨t, ht⟩ : ∃ t, max a 1 = t := ⟨_, rfl⟩
              obtain ⟨bt, hbt⟩ : ∃ t, Hid (botZ p1 b = t) := ⟨_, rfl⟩
              have HBt : Hid (1 ≤ t ∧ t ≤ 9223372036854775807 ∧ 1 ≤ bt ∧ bt ≤ p1) := Lib.hid (by have := HSd.out; have h := hbt.out; unfold botZ at h; split at h <;> omega)
              obtain ⟨m3, m4, ok, HMa, hm⟩ : ∃ m3 m4 ok, Hid (∀ W, Calls Try.prog 12 #[.agg #[.int .i64 p1, .int .i64 p2, .int .i64 T, .int .i64 B, .bool o], .int .i64 a, .int .i64 b] W (AreaPost W p1 p2 m3 m4 o (.bool ok))) ∧ decide (t < bt) = ok ∧
                  ((ok = true ∧ m3 = t - 1 ∧ m4 = bt - 1 ∧ areaOk p1 p2 (t - 1) (bt - 1) = true) ∨ (ok = false ∧ m3 = T ∧ m4 = B)) := by
                have hs := HSd.out
                have hB := HBt.out
                by_cases h : t < bt
                · refine ⟨t - 1, bt - 1, true, fun W => ?_, by simpa using h, .inl ⟨rfl, rfl, rfl, ?_⟩⟩
                  · have h2 := margins_c p1 p2 T B o a b W ⟨hs.1, hs.2.1⟩ (by rw [hbt.out, ht]; omega)
                    rwa [hbt.out, ht, show min t p1 = t by omega] at h2
                  · rw [areaOk_iff]; omega
                · refine ⟨T, B, false, fun W => margins_no p1 p2 T B o a b W (by rw [hbt.out, ht]; omega), by simpa using h, .inr ⟨rfl, rfl, rfl⟩⟩
              obtain ⟨hok, hm⟩ := hm
              have HOk := Lib.hid hok
              have HM := Lib.hid hm
              have HT := Lib.hid ht
              unfold AreaPost areaA at HMa
              clear hok hm ht
              obtain ⟨d0, d1⟩ := twoD HD7.out
              go_wp2_with fail
              refine (HMa.out _).mono ?_
              rintro en w8 ⟨rfl, hb8⟩
              have HB8 := Lib.hid (HB7.out.keep hb8)
              have HD8 := Lib.hid (HD7.out.below hb8 HD7.out.lt)
              clear hb8 x0 x1 x2 x3 x4 y0 y1 y2 d0 d1
              obtain ⟨gM, hgM⟩ : ∃ x, Hid (w8.heap.size = x) := ⟨_, rfl⟩
              go_upto_region 12 with (fail)
              rw [hgM.out]
              refine name_wp (fun w9 => BothAt w w9 z p1 p2 T B o r c q ∧ Blk w9 (z + 2) 26 [.int .i64 a, .int .i64 b] ∧ Blk w9 gM 23 [.int .i64 p1, .int .i64 p2, .int .i64 m3, .int .i64 m4, .bool o]) ⟨HB8.out.keep (alloc_below' _ _), HD8.out.alloc _, blkNew hgM.out _ [.int .i64 p1, .int .i64 p2, .int .i64 m3, .int .i64 m4, .bool o]⟩ ?_
              rintro w9 ⟨hb9, hd9, hg9⟩
              have HB9 := Lib.hid hb9
              have HG9 := Lib.hid hg9
              obtain ⟨d0, d1⟩ := twoD hd9
              clear hb9 hd9 hg9
              have ht := HT.out
              go_cut [14, 15] (fun s u wx => s = .int .i64 t ∧ u = .int .i64 b ∧ wx = w9.drew)
              case first =>
                as_aux_lemma =>
                  go_region
                  all_goals
                    go_wp2_with fail
                    go_meet
                    exact ⟨rfl, rfl, rfl⟩
              case rest =>
                as_aux_lemma =>
                  obtain ⟨rfl, rfl, rfl⟩ := hcut
                  clear d0 d1 ht
                  have HBx := Lib.hid (HB9.out.keep (Below.refl _ _).drew)
                  have HGx := Lib.hid HG9.out.drew
                  generalize w9.drew = w10 at *
                  obtain ⟨x0, x1, x2, x3, x4⟩ := fiveA HBx.out.area
                  obtain ⟨y0, y1, y2⟩ := threeA HBx.out.caret
                  obtain ⟨s0, s1, s2, s3, s4⟩ := fiveA HGx.out
                  obtain ⟨tb, htb⟩ : ∃ tb, (decide (b < 1) || decide (p1 < b)) = tb := ⟨_, rfl⟩
                  have hv : (b < 1 ∧ tb = true ∧ Hid (p1 = bt)) ∨ ((decide (b < 1) = false ∧ p1 < b) ∧ tb = true ∧ Hid (p1 = bt)) ∨ ((decide (b < 1) = false ∧ decide (p1 < b) = false) ∧ tb = false ∧ Hid (b = bt)) := by
                    have h := hbt.out
                    have hs := HSd.out
                    unfold botZ at h
                    by_cases hb1 : b < 1
                    · exact .inl ⟨hb1, by rw [← htb]; simp [hb1], Lib.hid (by split at h <;> omega)⟩
                    · by_cases hb2 : p1 < b
                      · exact .inr (.inl ⟨⟨by simpa using hb1, hb2⟩, by rw [← htb]; simp [hb2], Lib.hid (by split at h <;> omega)⟩)
                      · exact .inr (.inr ⟨⟨by simpa using hb1, by simpa using hb2⟩, by rw [← htb]; simp [hb1, hb2], Lib.hid (by split at h <;> omega)⟩)
                  clear htb
                  go_upto_region 13 with (fail)
                  go_cut [143] (fun s wx => s = .bool tb ∧ w10 = wx)
                  case first =>
                    as_aux_lemma =>
                      rcases hv with ⟨hv, rfl, _⟩ | ⟨⟨hv, hv2⟩, rfl, _⟩ | ⟨⟨hv, hv2⟩, rfl, _⟩
                      all_goals
                        go_wp2_with fail
                        go_meet
                        exact ⟨rfl, rfl⟩
                  case rest =>
                    as_aux_lemma =>
                      obtain ⟨rfl, rfl⟩ := hcut
                      go_upto_if 143 with (fail)
                      go_cut [15] (fun s wx => s = .int .i64 bt ∧ w10 = wx)
                      case first =>
                        as_aux_lemma =>
                          rcases hv with ⟨hv, rfl, hv3⟩ | ⟨⟨hv, hv2⟩, rfl, hv3⟩ | ⟨⟨hv, hv2⟩, rfl, hv3⟩
                          all_goals
                            go_wp2_with fail
                            go_meet
                            exact ⟨congrArg (Value.int .i64) hv3.out, rfl⟩
                      case rest =>
                        as_aux_lemma =>
                          obtain ⟨rfl, rfl⟩ := hcut
                          clear hv
                          go_wp2_with fail
                          refine (HFi.out _).mono ?_
                          rintro en w11 ⟨rfl, hb11⟩
                          have HB11 := Lib.hid (HBx.out.keep hb11)
                          have HG11 := Lib.hid (HGx.out.below hb11 HGx.out.lt)
                          clear hb11 x0 x1 x2 x3 x4 y0 y1 y2 s0 s1 s2 s3 s4
                          obtain ⟨x0, x1, x2, x3, x4⟩ := fiveA HB11.out.area
                          obtain ⟨s0, s1, s2, s3, s4⟩ := fiveA HG11.out
                          have hok := HOk.out
                          have hm := HM.out
                          rcases hm with ⟨rfl, rfl, rfl, hr⟩ | ⟨rfl, rfl, rfl⟩
                          · have HR2 : Hid (∀ W, Calls Try.prog 8 #[.agg #[.int .i64 p1, .int .i64 p2, .int .i64 (t - 1), .int .i64 (bt - 1), .bool o]] W (BoolPost W true)) := fun W => by rw [← hr]; exact refRight_c p1 p2 (t - 1) (bt - 1) o W
                            have HRf2 : Hid (∀ W, Calls Try.prog 9 #[.agg #[.int .i64 p1, .int .i64 p2, .int .i64 (t - 1), .int .i64 (bt - 1), .bool o]] W fun en w' => en = .returned (.agg #[.int .i64 p1, .int .i64 p2, .int .i64 (t - 1), .int .i64 (bt - 1), .bool o]) ∧ Below W.heap.size W w') := fun W => ref_c p1 p2 (t - 1) (bt - 1) o W
                            clear hr
                            have hwt : IntKind.i64.wrap (t - 1) = t - 1 := IntWalk.i64_in _ (by have := HBt.out; omega)
                            have hwb : IntKind.i64.wrap (bt - 1) = bt - 1 := IntWalk.i64_in _ (by have := HBt.out; have := HSd.out; omega)
                            go_wp2_with fail
                            refine (HRf2.out _).mono ?_
                            rintro en w12 ⟨rfl, hb12⟩
                            have HW12 := Lib.hid (HB11.out.bel.trans (hb12.mono HB11.out.bel.size))
                            clear hb12 x0 x1 x2 x3 x4 s0 s1 s2 s3 s4
                            go_wp2_with fail
                            refine (HR2.out _).mono ?_
                            rintro en w13 ⟨rfl, hb13⟩
                            have HW13 := Lib.hid (HW12.out.trans (hb13.mono HW12.out.size))
                            clear hb13
                            go_wp2
                            go_ret
                            exact ⟨rfl, HW13.out⟩
                          · have heq := fun W => run_eq_area W p1 p2 m3 m4 o
                            go_wp2
                            go_ret
                            exact ⟨rfl, HB11.out.bel⟩
      · obtain rfl : X = false := HSX.out rfl
        have heq := fun W => run_eq_area W 0 0 0 0 false
        go_wp2
        go_ret
        exact ⟨rfl, HB7.out.bel⟩
end Go.Proofs.Ytdcbiknlihfhcaa.caretAreas
