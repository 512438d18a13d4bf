/- The walk through BackPlays: for every size, rows of cells and number it returns true and leaves old memory as it was. Conditions: none. -/
import Derived.Test.YtdldffgdipedpaaDoorAwake15
import Derived.Test.YtdldffgdipedpaaDoorOpen11
import Derived.Test.YtdldffgdipedpaaDoorTabs
import Derived.Deep.DeepCutAuto
namespace Go.Proofs.YtdldffgdipedpaaDoor.backPlays
open Go.ChangeShapes Go.WideShapes Go.RowKit
def rowC (y : List CellV) (v : Value) (W : World) : Prop := ∃ V n d, v = .slice V n d ∧ ReadsS cellV 4 W V n d y
theorem stable_rowC (y : List CellV) : Stable (rowC y) := by
  rintro v w w' ⟨V, n, d, e, h⟩ hb
  exact ⟨V, n, d, e, h.keep hb⟩
def C23 (g k d : Nat) (ad : Addr) (q k1 p : Nat) (R : Option Addr) (m cr : Nat) (y : List CellV) (TT : ByteArray) : List (Value → World → Prop) := [fun v _ => v = .pointer (some ⟨g, 0, none⟩),
  fun v _ => v = .int .i64 (q : Int),
  rowC y,
  fun v _ => v = .slice (some ad) k d,
  fun v _ => v = .slice (some ad) k d,
  fun v _ => v = .int .i64 (k : Int),
  fun v _ => v = .int .i64 (k1 : Int),
  fun v _ => v = .int .i64 (q : Int),
  fun v _ => v = .int .i64 (p : Int),
  fun v _ => v = .pointer (some (ad.add p)),
  fun v _ => v = .slice R m cr,
  fun v _ => v = .bool true,
  fun v _ => v = .bool false,
  fun v _ => v = .bool false,
  fun v _ => v = .pointer (some ⟨g, 0, none⟩),
  fun v _ => v = .int .i64 (q : Int),
  fun v _ => v = .string TT,
  fun v _ => v = .slice (some ad) k d,
  fun v _ => v = .slice (some ad) k d,
  fun v _ => v = .int .i64 (k : Int),
  fun v _ => v = .int .i64 (k1 : Int),
  fun v _ => v = .int .i64 (q : Int),
  fun v _ => v = .int .i64 (p : Int),
  fun v _ => v = .pointer (some (ad.add p)),
  fun v _ => v = .slice R m cr,
  fun v _ => v = .string TT,
  fun v _ => v = .bool false,
  fun v _ => v = .bool false]
theorem C23_stable (g k d : Nat) (ad : Addr) (q k1 p : Nat) (R : Option Addr) (m cr : Nat) (y : List CellV) (TT : ByteArray) : ∀ z ∈ C23 g k d ad q k1 p R m cr y TT, Stable z := (stable_cons (stable_eq _) (stable_cons (stable_eq _) (stable_cons (stable_rowC y) (stable_cons (stable_eq _) (stable_cons (stable_eq _) (stable_cons (stable_eq _) (stable_cons (stable_eq _) (stable_cons (stable_eq _) (stable_cons (stable_eq _) (stable_cons (stable_eq _) (stable_cons (stable_eq _) (stable_cons (stable_eq _) (stable_cons (stable_eq _) (stable_cons (stable_eq _) (stable_cons (stable_eq _) (stable_cons (stable_eq _) (stable_cons (stable_eq _) (stable_cons (stable_eq _) (stable_cons (stable_eq _) (stable_cons (stable_eq _) (stable_cons (stable_eq _) (stable_cons (stable_eq _) (stable_cons (stable_eq _) (stable_cons (stable_eq _) (stable_cons (stable_eq _) (stable_cons (stable_eq _) (stable_cons (stable_eq _) (stable_cons (stable_eq _) stable_nil))))))))))))))))))))))))))))
theorem sameC_self (A B : Option Addr) (n c m d : Nat) (y : List CellV) (w : World) (ha : ReadsS cellV 4 w A n c y) (hb : ReadsS cellV 4 w B m d y) :
    Calls Tryd.prog 12 #[.slice A n c, .slice B m d] w fun e w' => e = .returned (.bool true) ∧ ∃ k, w' = w.drewN k := by
  have h := sameC_c A B n c m d y y w ha hb
  have e : decide (y = y) = true := by simp
  rw [e] at h
  exact h
theorem mem_cutC {l : List CellV} {x : CellV} (h : x ∈ cutC l) : x ∈ l := List.mem_of_mem_take h
/-- The loop's: the Lines holds the newest of all that were pushed, the document's list reads as they. -/
structure St (w wr : World) (g rg M : Nat) (all : List (List CellV)) (V : Option Addr) (k d : Nat) : Prop where
  lat : LAt wr g rg M all
  list : ReadsR (In g rg) wr V k d (lastL M all)
  bel : Below w.heap.size w wr
theorem byteL (X : List Nat) (h : ∀ x ∈ X, x < 256) : (X.map UInt8.ofNat).map UInt8.toNat = X := by
  rw [List.map_map]
  conv => rhs; rw [← List.map_id X]
  refine List.map_congr_left fun x hx => ?_
  simp only [Function.comp, id, UInt8.toNat_ofNat']
  exact Nat.mod_eq_of_lt (h x hx)
theorem text_ex (zs : List Int) : ∃ TT : ByteArray, strL TT = textZ zs := by
  have hXb : ∀ x ∈ textZ zs, x < 256 := by
    intro x hx
    obtain ⟨z, _, hz⟩ := List.mem_flatMap.1 hx
    exact uniZ_byte z x hz
  exact ⟨⟨((textZ zs).map UInt8.ofNat).toArray⟩, by simp only [strL]; exact byteL _ hXb⟩
set_option maxRecDepth 100000 in
set_option maxHeartbeats 12800000 in
theorem walk (most : Int) (A : Option Addr) (N c : Nat) (ls : List (List CellV)) (n : Int) (w : World) (_ : (Lit.int .i64 most).wf = true) (hr : ReadsR (fun _ => False) w A N c ls) (hf : ∀ l ∈ ls, ∀ x ∈ l, fitC x) (_ : (Lit.int .i64 n).wf = true) (_ : Tabs w) :
    Calls Tryd.prog 3 #[.int .i64 most, .slice A N c, .int .i64 n] w fun e w' => e = .returned (.bool true) ∧ Below w.heap.size w w' := by
  have HR := Lib.hid hr
  have HF := Lib.hid hf
  have HLN := Lib.hid hr.len
  have HFew := fun W hW => few15_c (fun _ => False) A N c ls W hW
  clear hr hf
  cases hfew : fewL ls with
  | false =>
    rw [hfew] at HFew
    clear hfew
    go_enter Tryd.func3, Tryd.ntmps3
    go_wp2_with fail
    refine (awake15_c w).mono ?_
    rintro en w1 ⟨rfl, hb1⟩
    have HB1 := Lib.hid hb1
    go_wp2_with fail
    refine (HFew w1 (HR.out.below hb1)).mono ?_
    clear hb1
    rintro en w2 ⟨rfl, rfl⟩
    go_wp2
    go_ret
    exact ⟨rfl, HB1.out⟩
  | true =>
  rw [hfew] at HFew
  obtain ⟨hN, hrow⟩ := (fewL_iff ls).1 hfew
  rw [HLN.out] at hN
  have HRow20 := Lib.hid hrow
  clear hfew hrow
  by_cases hM : most < 0 ∨ 100 < most
  · have HNew := fun W => newL_no most W hM
    by_cases h0 : most < 0
    · have g0 : decide (most < 0) = true := by rw [decide_eq_true_eq]; exact h0
      clear h0 hM
      go_enter Tryd.func3, Tryd.ntmps3
      go_wp2_with fail
      refine (awake15_c w).mono ?_
      rintro en w1 ⟨rfl, hb1⟩
      have HB1 := Lib.hid hb1
      go_wp2_with fail
      refine (HFew w1 (HR.out.below hb1)).mono ?_
      clear hb1
      rintro en w2 ⟨rfl, rfl⟩
      go_wp2_with fail
      refine (HNew w1).mono ?_
      rintro en w2 ⟨rfl, rfl⟩
      go_wp2
      go_ret
      exact ⟨rfl, HB1.out⟩
    · have g0 : decide (most < 0) = false := by rw [decide_eq_false_iff_not]; exact h0
      have g1 : decide (100 < most) = true := by rw [decide_eq_true_eq]; omega
      clear h0 hM
      go_enter Tryd.func3, Tryd.ntmps3
      go_wp2_with fail
      refine (awake15_c w).mono ?_
      rintro en w1 ⟨rfl, hb1⟩
      have HB1 := Lib.hid hb1
      go_wp2_with fail
      refine (HFew w1 (HR.out.below hb1)).mono ?_
      clear hb1
      rintro en w2 ⟨rfl, rfl⟩
      go_wp2_with fail
      refine (HNew w1).mono ?_
      rintro en w2 ⟨rfl, rfl⟩
      go_wp2
      go_ret
      exact ⟨rfl, HB1.out⟩
  obtain ⟨M, rfl⟩ := Int.eq_ofNat_of_zero_le (show 0 ≤ most by omega)
  have hM1 : M ≤ 100 := by omega
  have g0 : decide ((M : Int) < 0) = false := by rw [decide_eq_false_iff_not]; omega
  have g1 : decide ((100 : Int) < (M : Int)) = false := by rw [decide_eq_false_iff_not]; omega
  clear hM
  go_enter Tryd.func3, Tryd.ntmps3
  go_wp2_with fail
  refine (awake15_c w).mono ?_
  rintro en w1 ⟨rfl, hb1⟩
  have HB1 := Lib.hid hb1
  go_wp2_with fail
  refine (HFew w1 (HR.out.below hb1)).mono ?_
  clear hb1
  rintro en w2 ⟨rfl, rfl⟩
  go_wp2_with fail
  refine (newL_c M w1 hM1).mono ?_
  rintro en w2 ⟨g, rg, rfl, hL, hg, hrg, hb2⟩
  have HGE : Hid (∀ i, In g rg i → w.heap.size ≤ i) := by
    rintro i (rfl | rfl)
    · exact Nat.le_trans HB1.out.size hg
    · exact Nat.le_trans HB1.out.size hrg
  have HS0 : Hid (St w w2 g rg M ([].map cutC) none 0 0) := ⟨hL, by rw [show lastL M (([] : List (List CellV)).map cutC) = [] from by simp [lastL]]; exact ReadsR.nil (by simp [maxLen]), HB1.out.trans (hb2.mono HB1.out.size)⟩
  have HRI : Hid (ReadsR (In g rg) w A N c ls) := HR.out.other (fun i hi hf => by have := HGE.out i hf; omega)
  clear hL hg hrg hb2 HFew HB1
  go_wp2_with fail
  go_loopw [9, 10, 11] (fun v z i wr => ∃ j k D : Nat, ∃ V d, j ≤ N ∧ i = .int .i64 j ∧ v = .slice V k d ∧ z = .int .i64 (D : Int) ∧ Hid (D = j - M) ∧ Hid (St w wr g rg M ((ls.take j).map cutC) V k d)) (fun _ _ i _ => N - (intOf i).toNat)
  case atStart => exact ⟨0, 0, 0, none, 0, Nat.zero_le _, rfl, rfl, rfl, by show _ = _; omega, HS0⟩
  case round =>
    clear HS0
    obtain ⟨j, k, D, V, d, hj, rfl, rfl, rfl, hD, HS⟩ := hrel
    have hlist := HS.out.list.len
    rw [length_lastL, List.length_map, List.length_take, HLN.out, Nat.min_eq_left hj] at hlist
    have hkM : k ≤ 100 := by omega
    have hD1 : D ≤ 130 := by have := hD.out; omega
    by_cases hlt : j < N
    · have hjl : j < ls.length := by rw [HLN.out]; exact hlt
      obtain ⟨ad, v, rfl, hadlt, _, hcell, hrs⟩ := HRI.out.row j hjl
      obtain ⟨y, HY⟩ : ∃ y, Hid (ls[j] = y) := ⟨ls[j], rfl⟩
      have hy20 : y.length ≤ 20 := by rw [← HY.out]; exact HRow20.out _ (List.getElem_mem hjl)
      rw [HY.out] at hrs
      obtain ⟨R, m, cr, rfl, hrd, _⟩ := id hrs
      have hm20 : m ≤ 20 := by rw [← hrd.len]; exact hy20
      have HRS := Lib.hid hrs
      have HCell0 := Lib.hid hcell
      have hlt2 : (j : Int) < (N : Int) := by omega
      have hj0 : (0 : Int) ≤ (j : Int) := by omega
      obtain ⟨all, HAll⟩ : ∃ all, Hid ((ls.take j).map cutC = all) := ⟨_, rfl⟩
      have HAL : Hid (all.length = j) := by show _ = _; rw [← HAll.out, List.length_map, List.length_take, HLN.out, Nat.min_eq_left hj]
      rw [HAll.out] at HS
      have HNext : Hid ((ls.take (j + 1)).map cutC = all ++ [cutC y]) := by show _ = _; rw [List.take_succ_eq_append_getElem hjl, List.map_append, HAll.out, HY.out]; rfl
      obtain ⟨D1, HD1⟩ : ∃ D1 : Nat, Hid (D1 = j + 1 - M) := ⟨_, rfl⟩
      obtain ⟨e, He⟩ : ∃ e : Nat, Hid ((if M < (lastL M all).length + 1 then (1 : Int) else 0) = (e : Int) ∧ (e : Int) = D1 - D) := by
        by_cases h : M < (lastL M all).length + 1
        · exact ⟨1, by rw [if_pos h]; rfl, by have h1 := HD1.out; have h2 := hD.out; rw [length_lastL, HAL.out] at h; omega⟩
        · exact ⟨0, by rw [if_neg h]; rfl, by have h1 := HD1.out; have h2 := hD.out; rw [length_lastL, HAL.out] at h; omega⟩
      have hDe : (D : Int) + (e : Int) = (D1 : Int) := by have := He.out.2; omega
      have hD1b : D1 ≤ 131 := by have := HD1.out; omega
      have hwD : IntKind.i64.wrap (D1 : Int) = (D1 : Int) := IntWalk.i64_in _ (by omega)
      have hc1 : wr.cell? (ad.add j) = some (.slice R m cr) := (HS.out.bel.cell (by rw [block_add]; exact hadlt)).trans hcell
      have HRef : Hid (Calls Tryd.prog 8 #[.slice V k d, .int .i64 (M : Int), .slice R m cr] wr fun en w' => ∃ V2 k2 d2, en = .returned (.tuple #[.slice V2 k2 d2, .int .i64 (e : Int)]) ∧ ReadsR (In g rg) w' V2 k2 d2 (lastL M (all ++ [cutC y])) ∧ Below wr.heap.size wr w') := by
        refine (refPushB_c (In g rg) V k d _ R m cr y M wr HS.out.list (HRS.out.below HS.out.bel) HS.out.lat.lt (by omega)).mono ?_
        rintro en w' ⟨V2, k2, d2, rfl, h1, h2⟩
        rw [lastL_push] at h1
        exact ⟨V2, k2, d2, by rw [He.out.1], h1, h2⟩
      clear hcell hrs hrd
      go_wp2_with fail
      refine HRef.out.mono ?_
      rintro en w3 ⟨V2, k2, d2, rfl, hR2, hb3⟩
      have hc3 : w3.cell? (ad.add j) = some (.slice R m cr) := (hb3.cell (by rw [block_add]; exact Nat.lt_of_lt_of_le hadlt HS.out.bel.size)).trans hc1
      have HR2 := Lib.hid hR2
      have HB3 := Lib.hid (HS.out.bel.trans (hb3.mono HS.out.bel.size))
      have HL3 := Lib.hid (HS.out.lat.below hb3)
      clear hR2 hb3 hc1
      go_wp2_with fail
      refine (pushL_c g rg M all R m cr y w3 HL3.out (HRS.out.below HB3.out) hM1 (by rw [HAL.out]; omega) (by omega)).mono ?_
      rintro en w4 ⟨⟨_, rfl⟩, hL4, hc4⟩
      have HS4 : Hid (St w w4 g rg M ((ls.take (j + 1)).map cutC) V2 k2 d2) := by
        show St _ _ _ _ _ _ _ _ _
        rw [HNext.out]
        exact ⟨hL4, HR2.out.chg hc4, hc4.below HB3.out HB3.out.size HGE.out⟩
      have HLen : Hid (Calls Tryd.prog 10 #[.pointer (some ⟨g, 0, none⟩)] w4 fun en w' => en = .returned (.int .i64 (k2 : Int)) ∧ w4 = w') := by
        have h1 := lenL_c w4 g rg M _ hL4
        have h2 := HR2.out.len
        rw [length_lastL] at h2
        rw [h2] at h1
        exact h1
      have HLost : Hid (Calls Tryd.prog 11 #[.pointer (some ⟨g, 0, none⟩)] w4 fun en w' => en = .returned (.int .i64 (D1 : Int)) ∧ w4 = w') := by
        have h1 := lostL_c w4 g rg M _ hL4
        have h2 : (all ++ [cutC y]).length - M = D1 := by rw [List.length_append, HAL.out, HD1.out]; rfl
        rw [h2] at h1
        exact h1
      clear hL4 hc4 hc3
      go_wp2_with fail
      refine HLen.out.mono ?_
      rintro en w5 ⟨rfl, rfl⟩
      go_wp2_with fail
      refine HLost.out.mono ?_
      rintro en w5 ⟨rfl, rfl⟩
      go_wp2
      go_roundw
      case rel => exact ⟨j + 1, k2, D1, V2, d2, by omega, by go_num, rfl, rfl, HD1, HS4⟩
      case measure => simp [intOf]; omega
    · obtain rfl : j = N := by omega
      obtain ⟨all, HAll⟩ : ∃ all, Hid (ls.map cutC = all) := ⟨_, rfl⟩
      rw [List.take_of_length_le (by rw [HLN.out]; exact Nat.le_refl _), HAll.out] at HS
      have HAL : Hid (all.length = j) := by show _ = _; rw [← HAll.out, List.length_map, HLN.out]
      have HALL : Hid (∀ l ∈ all, l.length ≤ 20 ∧ ∀ x ∈ l, fitC x) := by
        intro l hl
        rw [← HAll.out] at hl
        obtain ⟨l0, h0, rfl⟩ := List.mem_map.1 hl
        refine ⟨?_, fun x hx => HF.out l0 h0 x (mem_cutC hx)⟩
        have := HRow20.out l0 h0
        have := length_cutC l0
        have := cutN_le l0 l0.length
        omega
      generalize wr = w4 at *
      go_wp2_with fail
      go_loopw [14] (fun i wo => ∃ q : Nat, q ≤ k ∧ i = .int .i64 q ∧ Hid (Below w4.heap.size w4 wo)) (fun i _ => k - (intOf i).toNat)
      case atStart => exact ⟨0, Nat.zero_le _, rfl, Lib.hid (Below.refl _ _)⟩
      case round =>
        obtain ⟨q, hq, rfl, HBo⟩ := hrel
        by_cases hqk : q < k
        · have hqm : q < min all.length M := by rw [HAL.out]; omega
          obtain ⟨h1, h2, e1⟩ := lastL_at (most := M) (all := all) q hqm
          obtain ⟨_, e2⟩ := lineL_at hqm
          obtain ⟨ad, v, rfl, hadlt, _, hcell, hrs⟩ := HS.out.list.row _ h1
          rw [e1] at hrs
          obtain ⟨y, HY⟩ : ∃ y, Hid (all[all.length - 1 - q] = y) := ⟨all[all.length - 1 - q], rfl⟩
          obtain ⟨hy20, hfy⟩ := HALL.out _ (List.getElem_mem h2)
          rw [HY.out] at hrs e2 hy20 hfy
          obtain ⟨p, hp⟩ : ∃ p, Hid (min all.length M - 1 - q = p) := ⟨_, rfl⟩
          rw [hp.out] at hcell
          have hpk : p + 1 + q = k := by have := hp.out; rw [HAL.out] at this; omega
          obtain ⟨R, m, cr, rfl, hrd, _⟩ := hrs
          have HMB : Hid (m ≤ 1073741824) := by have := hrd.len; show _ ≤ _; omega
          have HFY := Lib.hid hfy
          obtain ⟨TT, hTT⟩ := text_ex (cutZ (y.map (·.1)))
          have HTT := Lib.hid hTT
          obtain ⟨k1, hk1'⟩ : ∃ k1, Hid (k = k1 + 1) := ⟨k - 1, by show _ = _; omega⟩
          have hk1 : (k : Int) - 1 = (k1 : Int) := by have := hk1'.out; omega
          have hkp : (k1 : Int) - (q : Int) = (p : Int) := by have := hk1'.out; omega
          have hw1 : IntKind.i64.wrap (k1 : Int) = (k1 : Int) := IntWalk.i64_in _ (by omega)
          have hw2 : IntKind.i64.wrap (p : Int) = (p : Int) := IntWalk.i64_in _ (by omega)
          have hp0 : (0 : Int) ≤ (p : Int) := by omega
          have hpn : (p : Int) < (k : Int) := by omega
          have hqk2 : (q : Int) < (k : Int) := by omega
          have HCell : Hid (∀ W, Below wr.drew.heap.size wr.drew W → W.cell? (ad.add p) = some (.slice R m cr)) := by
            intro W hb
            have h3 : wr.drew.cell? (ad.add p) = some (.slice R m cr) := (HBo.out.drew.cell (by rw [block_add]; exact hadlt)).trans hcell
            exact (hb.cell (by rw [block_add]; exact Nat.lt_of_lt_of_le hadlt HBo.out.drew.size)).trans h3
          have HRow : Hid (ReadsS cellV 4 wr.drew R m cr y) := hrd.keep HBo.out.drew
          have HLD : Hid (∀ W, Below wr.drew.heap.size wr.drew W → LAt W g rg M all) := fun W hb => (HS.out.lat.below HBo.out.drew).below hb
          have HLine : Hid (∀ W, Below wr.drew.heap.size wr.drew W → Calls Tryd.prog 13 #[.pointer (some ⟨g, 0, none⟩), .int .i64 (q : Int)] W (NewS W y)) := by
            intro W hb
            have h3 := line15_c g rg M all (q : Int) W (HLD.out W hb) hM1 (fun l hl => by have := (HALL.out l hl).1; omega)
            rw [e2] at h3
            exact h3
          have HText : Hid (∀ W, Below wr.drew.heap.size wr.drew W → Calls Tryd.prog 14 #[.pointer (some ⟨g, 0, none⟩), .int .i64 (q : Int)] W fun en w' => ∃ t : ByteArray, en = .returned (.string t) ∧ strL t = textZ (cutZ (y.map (·.1))) ∧ Below W.heap.size W w') := by
            intro W hb
            have h3 := text_c15 g rg M all (q : Int) W (HLD.out W hb) hM1 (fun l hl => by have := (HALL.out l hl).1; omega) (fun l hl => (HALL.out l hl).2)
            rw [e2] at h3
            exact h3
          have hbw3 := HBo.out.drew
          have HBW3 := Lib.hid hbw3
          clear hbw3 hTT hrd hcell hfy hy20 e1 e2 h1 h2 hqm hpk
          go_wp2_with fail
          refine wp_region_any (by kernel_rfl) ?_
          change wpAny _ _ _ _ _ _ _ (World.drew _)
          refine wpAny_relyG (g := 0) [(0, 86), (1, 87), (2, 88), (3, 89), (4, 90), (5, 91), (6, 92), (7, 93), (8, 94), (9, 95), (10, 96), (11, 97), (12, 98), (13, 99), (14, 100), (15, 101), (16, 102), (17, 103), (18, 104), (19, 105), (20, 106), (21, 107), (22, 108), (23, 109), (24, 110), (25, 111), (26, 112), (27, 113)] (condAt (C23 g k d ad q k1 p R m cr y TT)) [] (by kernel_rfl) rfl (condAt_keep (C23_stable g k d ad q k1 p R m cr y TT)) ?hstep ?hend
          case hstep =>
            intro p hp o ho x W hbel hdep K hK
            simp only [List.mem_cons, List.not_mem_nil, or_false] at hp
            rcases hp with rfl | rfl | rfl | rfl | rfl | rfl | rfl | rfl | rfl | rfl | rfl | rfl | rfl | rfl | rfl | rfl | rfl | rfl | rfl | rfl | rfl | rfl | rfl | rfl | rfl | rfl | rfl | rfl
            · cases Option.some.inj ho
              simp only [frm, List.foldl_cons, List.foldl_nil, Act.put, List.setIfInBounds_toArray, List.set_cons_zero, List.set_cons_succ] at hK ⊢
              clear hdep ho
              rw [if_pos (by rfl)]
              go_simp
              exact hK _ _ rfl (Below.refl _ _) (by simp)
            · cases Option.some.inj ho
              simp only [frm, List.foldl_cons, List.foldl_nil, Act.put, List.setIfInBounds_toArray, List.set_cons_zero, List.set_cons_succ] at hK ⊢
              clear hdep ho
              rw [if_pos (by rfl)]
              go_simp
              exact hK _ _ rfl (Below.refl _ _) (by simp)
            · cases Option.some.inj ho
              have d0 : x 0 = .pointer (some ⟨g, 0, none⟩) := hdep ⟨0, .data⟩ (by simp) rfl rfl
              have d1 : x 1 = .int .i64 (q : Int) := hdep ⟨1, .data⟩ (by simp) rfl rfl
              simp only [frm, List.foldl_cons, List.foldl_nil, Act.put, List.setIfInBounds_toArray, List.set_cons_zero, List.set_cons_succ] at hK ⊢
              clear hdep ho
              rw [d0, d1] at hK ⊢
              clear d0 d1
              rw [if_pos (by rfl)]
              go_simp
              refine (HLine.out W hbel).mono ?_
              rintro e w' ⟨V2, n2, d2, rfl, hr2, _, hb⟩
              exact hK _ _ ⟨V2, n2, d2, rfl, hr2⟩ hb (by simp)
            · cases Option.some.inj ho
              simp only [frm, List.foldl_cons, List.foldl_nil, Act.put, List.setIfInBounds_toArray, List.set_cons_zero, List.set_cons_succ] at hK ⊢
              clear hdep ho
              rw [if_pos (by rfl)]
              go_simp
              exact hK _ _ rfl (Below.refl _ _) (by simp)
            · cases Option.some.inj ho
              simp only [frm, List.foldl_cons, List.foldl_nil, Act.put, List.setIfInBounds_toArray, List.set_cons_zero, List.set_cons_succ] at hK ⊢
              clear hdep ho
              rw [if_pos (by rfl)]
              go_simp
              exact hK _ _ rfl (Below.refl _ _) (by simp)
            · cases Option.some.inj ho
              have d4 : x 4 = .slice (some ad) k d := hdep ⟨4, .data⟩ (by simp) rfl rfl
              simp only [frm, List.foldl_cons, List.foldl_nil, Act.put, List.setIfInBounds_toArray, List.set_cons_zero, List.set_cons_succ] at hK ⊢
              clear hdep ho
              rw [d4] at hK ⊢
              clear d4
              rw [if_pos (by rfl)]
              go_simp
              exact hK _ _ rfl (Below.refl _ _) (by simp)
            · cases Option.some.inj ho
              have d5 : x 5 = .int .i64 (k : Int) := hdep ⟨5, .data⟩ (by simp) rfl rfl
              simp only [frm, List.foldl_cons, List.foldl_nil, Act.put, List.setIfInBounds_toArray, List.set_cons_zero, List.set_cons_succ] at hK ⊢
              clear hdep ho
              rw [d5] at hK ⊢
              clear d5
              rw [if_pos (by rfl)]
              go_simp
              exact hK _ _ rfl (Below.refl _ _) (by simp)
            · cases Option.some.inj ho
              simp only [frm, List.foldl_cons, List.foldl_nil, Act.put, List.setIfInBounds_toArray, List.set_cons_zero, List.set_cons_succ] at hK ⊢
              clear hdep ho
              rw [if_pos (by rfl)]
              go_simp
              exact hK _ _ rfl (Below.refl _ _) (by simp)
            · cases Option.some.inj ho
              have d6 : x 6 = .int .i64 (k1 : Int) := hdep ⟨6, .data⟩ (by simp) rfl rfl
              have d7 : x 7 = .int .i64 (q : Int) := hdep ⟨7, .data⟩ (by simp) rfl rfl
              simp only [frm, List.foldl_cons, List.foldl_nil, Act.put, List.setIfInBounds_toArray, List.set_cons_zero, List.set_cons_succ] at hK ⊢
              clear hdep ho
              rw [d6, d7] at hK ⊢
              clear d6 d7
              rw [if_pos (by rfl)]
              go_simp
              exact hK _ _ rfl (Below.refl _ _) (by simp)
            · cases Option.some.inj ho
              have d3 : x 3 = .slice (some ad) k d := hdep ⟨3, .data⟩ (by simp) rfl rfl
              have d8 : x 8 = .int .i64 (p : Int) := hdep ⟨8, .data⟩ (by simp) rfl rfl
              simp only [frm, List.foldl_cons, List.foldl_nil, Act.put, List.setIfInBounds_toArray, List.set_cons_zero, List.set_cons_succ] at hK ⊢
              clear hdep ho
              rw [d3, d8] at hK ⊢
              clear d3 d8
              rw [if_pos (by rfl)]
              go_simp
              exact hK _ _ rfl (Below.refl _ _) (by simp)
            · cases Option.some.inj ho
              have d9 : x 9 = .pointer (some (ad.add p)) := hdep ⟨9, .data⟩ (by simp) rfl rfl
              simp only [frm, List.foldl_cons, List.foldl_nil, Act.put, List.setIfInBounds_toArray, List.set_cons_zero, List.set_cons_succ] at hK ⊢
              clear hdep ho
              rw [d9] at hK ⊢
              clear d9
              rw [if_pos (by rfl)]
              have hc9 := HCell.out W hbel
              go_simp
              exact hK _ _ rfl (Below.refl _ _) (by simp)
            · cases Option.some.inj ho
              have h2 : rowC y (x 2) W := hdep ⟨2, .data⟩ (by simp) rfl rfl
              have d10 : x 10 = .slice R m cr := hdep ⟨10, .data⟩ (by simp) rfl rfl
              simp only [frm, List.foldl_cons, List.foldl_nil, Act.put, List.setIfInBounds_toArray, List.set_cons_zero, List.set_cons_succ] at hK ⊢
              clear hdep ho
              rw [d10] at hK ⊢
              clear d10
              rw [if_pos (by rfl)]
              obtain ⟨V2, n2, d2, d2, hr2⟩ := h2
              rw [d2] at hK ⊢
              clear d2
              go_simp
              refine (sameC_self V2 R n2 d2 m cr y W hr2 (HRow.out.keep hbel)).mono ?_
              rintro e w' ⟨rfl, z9, rfl⟩
              exact hK _ _ rfl (belowDrewN (Below.refl _ _) z9) (by simp)
            · cases Option.some.inj ho
              have d11 : x 11 = .bool true := hdep ⟨11, .data⟩ (by simp) rfl rfl
              simp only [frm, List.foldl_cons, List.foldl_nil, Act.put, List.setIfInBounds_toArray, List.set_cons_zero, List.set_cons_succ] at hK ⊢
              clear hdep ho
              rw [d11] at hK ⊢
              clear d11
              rw [if_pos (by rfl)]
              go_simp
              exact hK _ _ rfl (Below.refl _ _) (by simp)
            · cases Option.some.inj ho
              have d12 : x 12 = .bool false := hdep ⟨12, .data⟩ (by simp) rfl rfl
              simp only [frm, List.foldl_cons, List.foldl_nil, Act.put, List.setIfInBounds_toArray, List.set_cons_zero, List.set_cons_succ] at hK ⊢
              clear hdep ho
              rw [d12] at hK ⊢
              clear d12
              rw [if_pos (by rfl)]
              go_simp
              exact hK _ _ rfl (Below.refl _ _) (by simp)
            · cases Option.some.inj ho
              have d13 : x 13 = .bool false := hdep ⟨13, .guard⟩ (by simp) rfl rfl
              simp only [frm, List.foldl_cons, List.foldl_nil, Act.put, List.setIfInBounds_toArray, List.set_cons_zero, List.set_cons_succ] at hK ⊢
              clear hdep ho
              rw [d13] at hK ⊢
              clear d13
              rw [if_pos (by rfl)]
              go_simp
              exact hK _ _ rfl (Below.refl _ _) (by simp)
            · cases Option.some.inj ho
              have d13 : x 13 = .bool false := hdep ⟨13, .guard⟩ (by simp) rfl rfl
              simp only [frm, List.foldl_cons, List.foldl_nil, Act.put, List.setIfInBounds_toArray, List.set_cons_zero, List.set_cons_succ] at hK ⊢
              clear hdep ho
              rw [d13] at hK ⊢
              clear d13
              rw [if_pos (by rfl)]
              go_simp
              exact hK _ _ rfl (Below.refl _ _) (by simp)
            · cases Option.some.inj ho
              have d14 : x 14 = .pointer (some ⟨g, 0, none⟩) := hdep ⟨14, .data⟩ (by simp) rfl rfl
              have d15 : x 15 = .int .i64 (q : Int) := hdep ⟨15, .data⟩ (by simp) rfl rfl
              have d13 : x 13 = .bool false := hdep ⟨13, .guard⟩ (by simp) rfl rfl
              simp only [frm, List.foldl_cons, List.foldl_nil, Act.put, List.setIfInBounds_toArray, List.set_cons_zero, List.set_cons_succ] at hK ⊢
              clear hdep ho
              rw [d14, d15, d13] at hK ⊢
              clear d14 d15 d13
              rw [if_pos (by rfl)]
              go_simp
              refine (HText.out W hbel).mono ?_
              rintro e w' ⟨t, rfl, ht, hb⟩
              obtain rfl : t = TT := strL_inj (ht.trans HTT.out.symm)
              exact hK _ _ rfl hb (by simp)
            · cases Option.some.inj ho
              have d13 : x 13 = .bool false := hdep ⟨13, .guard⟩ (by simp) rfl rfl
              simp only [frm, List.foldl_cons, List.foldl_nil, Act.put, List.setIfInBounds_toArray, List.set_cons_zero, List.set_cons_succ] at hK ⊢
              clear hdep ho
              rw [d13] at hK ⊢
              clear d13
              rw [if_pos (by rfl)]
              go_simp
              exact hK _ _ rfl (Below.refl _ _) (by simp)
            · cases Option.some.inj ho
              have d13 : x 13 = .bool false := hdep ⟨13, .guard⟩ (by simp) rfl rfl
              simp only [frm, List.foldl_cons, List.foldl_nil, Act.put, List.setIfInBounds_toArray, List.set_cons_zero, List.set_cons_succ] at hK ⊢
              clear hdep ho
              rw [d13] at hK ⊢
              clear d13
              rw [if_pos (by rfl)]
              go_simp
              exact hK _ _ rfl (Below.refl _ _) (by simp)
            · cases Option.some.inj ho
              have d18 : x 18 = .slice (some ad) k d := hdep ⟨18, .data⟩ (by simp) rfl rfl
              have d13 : x 13 = .bool false := hdep ⟨13, .guard⟩ (by simp) rfl rfl
              simp only [frm, List.foldl_cons, List.foldl_nil, Act.put, List.setIfInBounds_toArray, List.set_cons_zero, List.set_cons_succ] at hK ⊢
              clear hdep ho
              rw [d18, d13] at hK ⊢
              clear d18 d13
              rw [if_pos (by rfl)]
              go_simp
              exact hK _ _ rfl (Below.refl _ _) (by simp)
            · cases Option.some.inj ho
              have d19 : x 19 = .int .i64 (k : Int) := hdep ⟨19, .data⟩ (by simp) rfl rfl
              have d13 : x 13 = .bool false := hdep ⟨13, .guard⟩ (by simp) rfl rfl
              simp only [frm, List.foldl_cons, List.foldl_nil, Act.put, List.setIfInBounds_toArray, List.set_cons_zero, List.set_cons_succ] at hK ⊢
              clear hdep ho
              rw [d19, d13] at hK ⊢
              clear d19 d13
              rw [if_pos (by rfl)]
              go_simp
              exact hK _ _ rfl (Below.refl _ _) (by simp)
            · cases Option.some.inj ho
              have d13 : x 13 = .bool false := hdep ⟨13, .guard⟩ (by simp) rfl rfl
              simp only [frm, List.foldl_cons, List.foldl_nil, Act.put, List.setIfInBounds_toArray, List.set_cons_zero, List.set_cons_succ] at hK ⊢
              clear hdep ho
              rw [d13] at hK ⊢
              clear d13
              rw [if_pos (by rfl)]
              go_simp
              exact hK _ _ rfl (Below.refl _ _) (by simp)
            · cases Option.some.inj ho
              have d20 : x 20 = .int .i64 (k1 : Int) := hdep ⟨20, .data⟩ (by simp) rfl rfl
              have d21 : x 21 = .int .i64 (q : Int) := hdep ⟨21, .data⟩ (by simp) rfl rfl
              have d13 : x 13 = .bool false := hdep ⟨13, .guard⟩ (by simp) rfl rfl
              simp only [frm, List.foldl_cons, List.foldl_nil, Act.put, List.setIfInBounds_toArray, List.set_cons_zero, List.set_cons_succ] at hK ⊢
              clear hdep ho
              rw [d20, d21, d13] at hK ⊢
              clear d20 d21 d13
              rw [if_pos (by rfl)]
              go_simp
              exact hK _ _ rfl (Below.refl _ _) (by simp)
            · cases Option.some.inj ho
              have d17 : x 17 = .slice (some ad) k d := hdep ⟨17, .data⟩ (by simp) rfl rfl
              have d22 : x 22 = .int .i64 (p : Int) := hdep ⟨22, .data⟩ (by simp) rfl rfl
              have d13 : x 13 = .bool false := hdep ⟨13, .guard⟩ (by simp) rfl rfl
              simp only [frm, List.foldl_cons, List.foldl_nil, Act.put, List.setIfInBounds_toArray, List.set_cons_zero, List.set_cons_succ] at hK ⊢
              clear hdep ho
              rw [d17, d22, d13] at hK ⊢
              clear d17 d22 d13
              rw [if_pos (by rfl)]
              go_simp
              exact hK _ _ rfl (Below.refl _ _) (by simp)
            · cases Option.some.inj ho
              have d23 : x 23 = .pointer (some (ad.add p)) := hdep ⟨23, .data⟩ (by simp) rfl rfl
              have d13 : x 13 = .bool false := hdep ⟨13, .guard⟩ (by simp) rfl rfl
              simp only [frm, List.foldl_cons, List.foldl_nil, Act.put, List.setIfInBounds_toArray, List.set_cons_zero, List.set_cons_succ] at hK ⊢
              clear hdep ho
              rw [d23, d13] at hK ⊢
              clear d23 d13
              rw [if_pos (by rfl)]
              have hc9 := HCell.out W hbel
              go_simp
              exact hK _ _ rfl (Below.refl _ _) (by simp)
            · cases Option.some.inj ho
              have d24 : x 24 = .slice R m cr := hdep ⟨24, .data⟩ (by simp) rfl rfl
              have d13 : x 13 = .bool false := hdep ⟨13, .guard⟩ (by simp) rfl rfl
              simp only [frm, List.foldl_cons, List.foldl_nil, Act.put, List.setIfInBounds_toArray, List.set_cons_zero, List.set_cons_succ] at hK ⊢
              clear hdep ho
              rw [d24, d13] at hK ⊢
              clear d24 d13
              rw [if_pos (by rfl)]
              go_simp
              refine (cellText_c R m cr y W (HRow.out.keep hbel) HFY.out HMB.out).mono ?_
              rintro e w' ⟨t, rfl, ht, hb⟩
              obtain rfl : t = TT := strL_inj (ht.trans HTT.out.symm)
              exact hK _ _ rfl hb (by simp)
            · cases Option.some.inj ho
              have d16 : x 16 = .string TT := hdep ⟨16, .data⟩ (by simp) rfl rfl
              have d25 : x 25 = .string TT := hdep ⟨25, .data⟩ (by simp) rfl rfl
              have d13 : x 13 = .bool false := hdep ⟨13, .guard⟩ (by simp) rfl rfl
              simp only [frm, List.foldl_cons, List.foldl_nil, Act.put, List.setIfInBounds_toArray, List.set_cons_zero, List.set_cons_succ] at hK ⊢
              clear hdep ho
              rw [d16, d25, d13] at hK ⊢
              clear d16 d25 d13
              rw [if_pos (by rfl)]
              go_simp
              exact hK _ _ rfl (Below.refl _ _) (by simp)
            · cases Option.some.inj ho
              have d13 : x 13 = .bool false := hdep ⟨13, .data⟩ (by simp) rfl rfl
              have d26 : x 26 = .bool false := hdep ⟨26, .data⟩ (by simp) rfl rfl
              simp only [frm, List.foldl_cons, List.foldl_nil, Act.put, List.setIfInBounds_toArray, List.set_cons_zero, List.set_cons_succ] at hK ⊢
              clear hdep ho
              rw [d13, d26] at hK ⊢
              clear d13 d26
              rw [if_pos (by rfl)]
              go_simp
              exact hK _ _ rfl (Below.refl _ _) (by simp)
          case hend =>
            intro x W hbel hall _
            have d27 : x 27 = .bool false := hall (27, 113) (by simp)
            simp only [frm, List.foldl_cons, List.foldl_nil, Act.put, List.setIfInBounds_toArray, List.set_cons_zero, List.set_cons_succ]
            rw [d27]
            clear hall d27
            generalize x 0 = z0
            generalize x 1 = z1
            generalize x 2 = z2
            generalize x 3 = z3
            generalize x 4 = z4
            generalize x 5 = z5
            generalize x 6 = z6
            generalize x 7 = z7
            generalize x 8 = z8
            generalize x 9 = z9
            generalize x 10 = z10
            generalize x 11 = z11
            generalize x 12 = z12
            generalize x 13 = z13
            generalize x 14 = z14
            generalize x 15 = z15
            generalize x 16 = z16
            generalize x 17 = z17
            generalize x 18 = z18
            generalize x 19 = z19
            generalize x 20 = z20
            generalize x 21 = z21
            generalize x 22 = z22
            generalize x 23 = z23
            generalize x 24 = z24
            generalize x 25 = z25
            generalize x 26 = z26
            refine wpAny_done (by kernel_rfl) ?_ _
            go_wp2
            go_roundw
            case rel => exact ⟨q + 1, by omega, by go_num, Lib.hid (HBW3.out.trans (hbel.mono HBW3.out.size))⟩
            case measure => simp [intOf]; omega
        · obtain rfl : q = k := by omega
          have HL5 : Hid (LAt wr g rg M all) := HS.out.lat.below HBo.out
          have HLen20 : Hid (∀ l ∈ all, l.length ≤ 1000) := fun l hl => by have := (HALL.out l hl).1; omega
          have HFit : Hid (∀ l ∈ all, ∀ x ∈ l, fitC x) := fun l hl => (HALL.out l hl).2
          go_upto_region 25 with (fail)
          go_cut [134] (fun s wx => s = .bool false ∧ Below wr.heap.size wr wx)
          case first =>
            by_cases hn0 : n < 0
            · have HNone : Hid (lineL M all n = []) := lineL_no (.inl hn0)
              have t1 : decide (n < 0) = true := by rw [decide_eq_true_eq]; exact hn0
              clear hn0
              go_wp2_with fail
              refine (line15_c g rg M all n wr HL5.out hM1 HLen20.out).mono ?_
              rw [HNone.out]
              rintro en w6 ⟨V6, n6, d6, rfl, hr6, _, hb6⟩
              obtain rfl : 0 = n6 := hr6.len
              have HB6 := Lib.hid hb6
              have HL6 := Lib.hid (HL5.out.below hb6)
              clear hr6 hb6
              go_wp2_with fail
              refine (text_c15 g rg M all n w6 HL6.out hM1 HLen20.out HFit.out).mono ?_
              rw [HNone.out]
              rintro en w7 ⟨t, rfl, ht, hb7⟩
              obtain rfl : t = ⟨#[]⟩ := strL_inj (ht.trans (by decide))
              have HB7 := Lib.hid (HB6.out.trans (hb7.mono HB6.out.size))
              clear ht hb7
              go_wp2_with fail
              go_meet
              exact ⟨rfl, HB7.out⟩
            · have t1 : decide (n < 0) = false := by rw [decide_eq_false_iff_not]; exact hn0
              by_cases hnk : (q : Int) ≤ n
              · have HNone : Hid (lineL M all n = []) := lineL_no (.inr (by rw [HAL.out]; omega))
                have t2 : decide ((q : Int) ≤ n) = true := by rw [decide_eq_true_eq]; exact hnk
                clear hn0 hnk
                go_wp2_with fail
                refine (line15_c g rg M all n wr HL5.out hM1 HLen20.out).mono ?_
                rw [HNone.out]
                rintro en w6 ⟨V6, n6, d6, rfl, hr6, _, hb6⟩
                obtain rfl : 0 = n6 := hr6.len
                have HB6 := Lib.hid hb6
                have HL6 := Lib.hid (HL5.out.below hb6)
                clear hr6 hb6
                go_wp2_with fail
                refine (text_c15 g rg M all n w6 HL6.out hM1 HLen20.out HFit.out).mono ?_
                rw [HNone.out]
                rintro en w7 ⟨t, rfl, ht, hb7⟩
                obtain rfl : t = ⟨#[]⟩ := strL_inj (ht.trans (by decide))
                have HB7 := Lib.hid (HB6.out.trans (hb7.mono HB6.out.size))
                clear ht hb7
                go_wp2_with fail
                go_meet
                exact ⟨rfl, HB7.out⟩
              · have t2 : decide ((q : Int) ≤ n) = false := by rw [decide_eq_false_iff_not]; exact hnk
                clear hn0 hnk
                go_wp2_with fail
                go_meet
                exact ⟨rfl, Below.refl _ _⟩
          case rest =>
            obtain ⟨rfl, hb6⟩ := hcut
            have HB6 : Hid (Below w.heap.size w wc) := (HS.out.bel.trans (HBo.out.mono HS.out.bel.size)).trans (hb6.mono (Nat.le_trans HS.out.bel.size HBo.out.size))
            have HL6 := Lib.hid (HL5.out.below hb6)
            clear hb6
            go_wp2_with fail
            refine (clear_c15 g rg M all wc HL6.out).mono ?_
            rintro en w7 ⟨⟨_, rfl⟩, hbx, hc7⟩
            have HB7 : Hid (Below w.heap.size w w7) := hc7.below HB6.out HB6.out.size HGE.out
            have c2 : w7.cell? ⟨g, 2, none⟩ = _ := hbx.cell 2
            have c3 : w7.cell? ⟨g, 3, none⟩ = _ := hbx.cell 3
            simp only [List.getElem?_cons_zero, List.getElem?_cons_succ] at c2 c3
            rw [HAL.out, ← hD.out] at c3
            have HLe := Lib.hid (len_at w7 g 0 c2)
            have HLo := Lib.hid (lost_at w7 g _ c3)
            have HLi := Lib.hid (line_none w7 g 0 0 c2 (.inr (Int.le_refl _)))
            clear hbx hc7 c2 c3
            go_wp2_with fail
            refine HLe.out.mono ?_
            rintro en w8 ⟨rfl, rfl⟩
            go_wp2_with fail
            refine HLo.out.mono ?_
            rintro en w8 ⟨rfl, rfl⟩
            go_wp2_with fail
            refine HLi.out.mono ?_
            rintro en w8 ⟨rfl, rfl⟩
            go_wp2
            go_ret
            exact ⟨rfl, HB7.out⟩
end Go.Proofs.YtdldffgdipedpaaDoor.backPlays
