/- What the reference's Roll of package grid returns, as a walk through the translated text. Conditions: slices read as lists of cells, grids of at most 60 rows and 132 columns. -/
import Derived.Test.YtgmfmhlboehdoaaGridR3
namespace Go.Proofs.Ytgmfmhlboehdoaa
open Go.ChangeShapes Go.WideShapes Go.RowKit
/-- What the reference lays at row r, column m of a grid whose rows from top to bottom go up by d. -/
def rollV (R C : Nat) (f : Nat → CellV) (top bot d : Int) (y : CellV) (r m : Nat) : CellV :=
  if (r : Int) < top ∨ bot < (r : Int) then atG R C f r m y else if bot < (r : Int) + d ∨ (r : Int) + d < top then y else atG R C f ((r : Int) + d) m y
def rollF (R C : Nat) (f : Nat → CellV) (top bot d : Int) (y : CellV) : Nat → CellV := fun i => rollV R C f top bot d y (i / C) (i % C)
theorem rollF_at (R C : Nat) (f : Nat → CellV) (top bot d : Int) (y : CellV) (r m : Nat) (hm : m < C) : rollF R C f top bot d y (r * C + m) = rollV R C f top bot d y r m := by
  have h1 : (r * C + m) / C = r := by rw [Nat.mul_comm, Nat.mul_add_div (by omega), Nat.div_eq_of_lt hm, Nat.add_zero]
  have h2 : (r * C + m) % C = m := by rw [Nat.mul_comm, Nat.mul_add_mod, Nat.mod_eq_of_lt hm]
  rw [rollF, h1, h2]
theorem place_lt0 {R C q p : Nat} (h1 : q < R) (h2 : p < C) : q * C + p < R * C := by
  have h3 : (q + 1) * C ≤ R * C := Nat.mul_le_mul_right _ (by omega)
  rw [Nat.add_mul, Nat.one_mul] at h3
  omega
set_option maxRecDepth 100000 in
set_option maxHeartbeats 6400000 in
theorem refRoll_c (R C : Nat) (A : Option Addr) (n k : Nat) (f : Nat → CellV) (top bot d : Int) (y : CellV) (w : World) (hr : ReadsS cellV 4 w A n k (tab n f)) (hn : n = R * C) (hR : R ≤ 60) (hC : C ≤ 132) (hd : -200 ≤ d ∧ d ≤ 200) :
    Calls Try.prog 57 #[.agg (gridV R C A n k).toArray, .int .i64 top, .int .i64 bot, .int .i64 d, .agg (cellV y).toArray] w (RefPost w R C n (rollF R C f top bot d y)) := by
  obtain ⟨i0, hi, hz0, hz1, hz2⟩ := info_parts infoC
  have hnb : n ≤ 60 * 132 := by rw [hn]; exact Nat.mul_le_mul hR hC
  have HR := Lib.hid hr
  have HN := Lib.hid hn
  clear hr hn
  have HNB := Lib.hid hnb
  simp only [gridV_list, cellV]
  go_enter Try.func57, Try.ntmps57
  go_upto_region 2 with (fail)
  refine name_wp (fun w1 => Blk w1 w.heap.size 31 (gridV R C A n k) ∧ Blk w1 (w.heap.size + 1) 38 (cellV y) ∧ Blk w1 (w.heap.size + 1 + 1) 31 (gridV 0 0 none 0 0) ∧ Out w1 w1 (w.heap.size + 1 + 1 + 1) R C (.slice none 0 0) [] ∧ Below w.heap.size w w1) ⟨(((Blk.new _ _ _).alloc _).alloc _).alloc _, ((newAt _ _ (by simp)).alloc _).alloc _, (newAt _ _ (by simp)).alloc _, ⟨Below.refl _ _, newAt _ [.int .i64 R, .int .i64 C, .slice none 0 0] (by simp), World.ownsRow_nil _ _ _ _⟩, (((alloc_below' _ _).alloc (by simp) _).alloc (by simp; omega) _).alloc (by simp; omega) _⟩ ?_
  rintro w1 ⟨hb0, hb1, hb2, hO1, hbel1⟩
  have HG := Lib.hid hb0
  have HY := Lib.hid hb1
  have HRs := Lib.hid hb2
  have HO1 := Lib.hid hO1
  have HBel := Lib.hid hbel1
  have hzlt := hO1.box.lt
  clear hb0 hb1 hb2 hO1 hbel1
  go_wp2
  obtain ⟨hd1, hd2⟩ := hd
  go_loopw [12, 13] (fun i _ wr => ∃ (r : Nat) (v : Value), r ≤ R ∧ i = .int .i64 r ∧ Hid (Out w1 wr (w.heap.size + 1 + 1 + 1) R C v (tab (r * C) (rollF R C f top bot d y)))) (fun i _ _ => R - (intOf i).toNat)
  case atStart => exact ⟨0, _, Nat.zero_le _, rfl, by rw [Nat.zero_mul]; exact HO1⟩
  case round =>
    obtain ⟨r, v0, hrR, rfl, hM⟩ := hrel
    have HGr := hM.out.old HG.out (by omega)
    obtain ⟨c0, c1, c2⟩ := boxG HGr
    clear HGr
    by_cases hlt : r < R
    · have hlt2 : (r : Int) < (R : Int) := by omega
      go_wp2
      clear c0 c1 c2
      generalize wr = wo at *
      go_loopw [13] (fun i wr => ∃ (m : Nat) (v : Value), m ≤ C ∧ i = .int .i64 m ∧ Hid (Out w1 wr (w.heap.size + 1 + 1 + 1) R C v (tab (r * C + m) (rollF R C f top bot d y)))) (fun i _ => C - (intOf i).toNat)
      case atStart => exact ⟨0, _, Nat.zero_le _, rfl, hM⟩
      case round =>
        obtain ⟨m, vv, hmC, rfl, hM⟩ := hrel
        have HGr := hM.out.old HG.out (by omega)
        obtain ⟨c0, c1, c2⟩ := boxG HGr
        clear HGr
        by_cases hmt : m < C
        · have hmt2 : (m : Int) < (C : Int) := by omega
          obtain ⟨l, hl⟩ : ∃ l, Hid (tab (r * C + m) (rollF R C f top bot d y) = l) := ⟨_, rfl⟩
          have hrb : r ≤ 60 := by omega
          have hpl := place_lt0 hlt hmt
          rw [← HN.out] at hpl
          have HLEN : Hid (l.length ≤ 1099511627776) := by show _ ≤ _; rw [← hl.out, length_tab]; omega
          have HAT := Lib.hid (rollF_at R C f top bot d y r m hmt)
          rw [hl.out] at hM
          clear hpl
          by_cases h1 : (r : Int) < top ∨ bot < (r : Int)
          · obtain ⟨X, HX⟩ : ∃ X, Hid (atG R C f r m y = X) := ⟨_, rfl⟩
            have HXF : Hid (rollF R C f top bot d y (r * C + m) = X) := by show _ = _; rw [HAT.out, rollV, if_pos h1, HX.out]
            have HO : Hid (Out w1 wr.drew (w.heap.size + 1 + 1 + 1) R C vv l) := hM.out.drew
            have HALL : Hid (∀ P : Prop, ((r : Int) < top → P) → (decide ((r : Int) < top) = false → bot < (r : Int) → P) → P) := by
              intro P a b
              by_cases h : (r : Int) < top
              · exact a h
              · exact b (by simpa using h) (by omega)
            clear hM h1
            refine HALL.out _ (fun h1 => ?_) (fun h0 h1 => ?_)
            all_goals
              go_upto_region 10 with (fail)
              clear c0 c1 c2
              refine wp_region_any (by kernel_rfl) ?_
              change wpAny _ _ _ _ _ _ _ (World.drew _)
              refine wpAny_take (i := 3) (oi := ⟨some 55, .move (.tmp 12), _, _, _, _⟩) (v := ?_) rfl (by kernel_rfl) (by kernel_rfl) (by kernel_rfl) (fun _ _ _ h => h) (Or.inl ⟨by rfl, ?_⟩) ?_
              rotate_left
              · intro W; go_simp; try with_reducible rfl
              simp only [Act.put, List.setIfInBounds_toArray, List.set_cons_zero, List.set_cons_succ]
              refine wpAny_take (i := 4) (oi := ⟨some 56, .move (.tmp 13), _, _, _, _⟩) (v := ?_) rfl (by kernel_rfl) (by kernel_rfl) (by kernel_rfl) (fun _ _ _ h => h) (Or.inl ⟨by rfl, ?_⟩) ?_
              rotate_left
              · intro W; go_simp; try with_reducible rfl
              simp only [Act.put, List.setIfInBounds_toArray, List.set_cons_zero, List.set_cons_succ]
              refine wpAny_relyG (g := 3) [(0, 52), (1, 53), (2, 54), (5, 57), (6, 58), (7, 59)] (condAt [fun v _ => v = .pointer (some ⟨w.heap.size + 1 + 1 + 1, 2, none⟩), fun v _ => v = vv, fun v _ => v = .agg (gridV R C A n k).toArray, fun v _ => v = .int .i64 r, fun v _ => v = .int .i64 m, fun v _ => v = .agg (cellV y).toArray, fun v _ => v = .agg #[.int .i32 X.1, .int .i64 X.2.1, .int .i64 X.2.2.1, .int .i64 X.2.2.2], fun v W => ∃ yy, v = .slice (some ⟨yy, 0, none⟩) 1 1 ∧ Blk W yy 38 (cellV X)]) [] (by kernel_rfl) rfl (condAt_keep (stable_cons (stable_eq _) (stable_cons (stable_eq _) (stable_cons (stable_eq _) (stable_cons (stable_eq _) (stable_cons (stable_eq _) (stable_cons (stable_eq _) (stable_cons (stable_eq _) (stable_cons stable_blk1 stable_nil))))))))) ?hstep ?hend
              case hstep =>
                intro p hp o ho x W hbel hdep K hK
                have d2 : W.cell? ⟨w.heap.size + 1 + 1 + 1, 2, none⟩ = some vv := (HO.out.below hbel).box.cell 2
                simp only [List.mem_cons, List.not_mem_nil, or_false] at hp
                rcases hp with rfl | rfl | rfl | rfl | rfl | rfl
                · cases Option.some.inj ho
                  simp only [frm, List.foldl_cons, List.foldl_nil, Act.put, List.setIfInBounds_toArray, List.set_cons_zero, List.set_cons_succ] at hK ⊢
                  clear hdep ho
                  rw [if_pos (by rfl)]
                  go_simp
                  exact hK _ _ rfl (Below.refl _ _) (by simp)
                · cases Option.some.inj ho
                  have d0 : x 0 = .pointer (some ⟨w.heap.size + 1 + 1 + 1, 2, none⟩) := hdep ⟨0, .data⟩ (by simp) rfl rfl
                  simp only [frm, List.foldl_cons, List.foldl_nil, Act.put, List.setIfInBounds_toArray, List.set_cons_zero, List.set_cons_succ] at hK ⊢
                  clear hdep ho
                  rw [d0] at hK ⊢
                  clear d0
                  rw [if_pos (by rfl)]
                  go_simp
                  exact hK _ _ rfl (Below.refl _ _) (by simp)
                · cases Option.some.inj ho
                  simp only [frm, List.foldl_cons, List.foldl_nil, Act.put, List.setIfInBounds_toArray, List.set_cons_zero, List.set_cons_succ] at hK ⊢
                  clear hdep ho
                  rw [if_pos (by rfl)]
                  exact wp_load_all 31 (.tmp 5) rfl _ rfl _ _ ((HO.out.below hbel).old HG.out (by omega)) _ Try.underlying31 rfl sizeG (hK _ _ rfl (Below.refl _ _) (by simp))
                · cases Option.some.inj ho
                  simp only [frm, List.foldl_cons, List.foldl_nil, Act.put, List.setIfInBounds_toArray, List.set_cons_zero, List.set_cons_succ] at hK ⊢
                  clear hdep ho
                  rw [if_pos (by rfl)]
                  exact wp_load_all 38 (.tmp 9) rfl _ rfl _ _ ((HO.out.below hbel).old HY.out (by omega)) _ Try.underlying38 rfl sizeC (hK _ _ rfl (Below.refl _ _) (by simp))
                · cases Option.some.inj ho
                  have d2 : x 2 = .agg (gridV R C A n k).toArray := hdep ⟨2, .data⟩ (by simp) rfl rfl
                  have d5 : x 5 = .agg (cellV y).toArray := hdep ⟨5, .data⟩ (by simp) rfl rfl
                  simp only [frm, List.foldl_cons, List.foldl_nil, Act.put, List.setIfInBounds_toArray, List.set_cons_zero, List.set_cons_succ] at hK ⊢
                  clear hdep ho
                  rw [d2, d5] at hK ⊢
                  clear d2 d5
                  rw [if_pos (by rfl)]
                  go_simp
                  refine (refAt_c R C A n k f (r) (m) y W ((HO.out.below hbel).reads HBel.out (by omega) HR.out) HN.out hR hC).mono ?_
                  rw [HX.out]
                  rintro e w' ⟨rfl, hb⟩
                  exact hK _ _ rfl hb (by simp)
                · cases Option.some.inj ho
                  have d6 : x 6 = .agg #[.int .i32 X.1, .int .i64 X.2.1, .int .i64 X.2.2.1, .int .i64 X.2.2.2] := hdep ⟨6, .data⟩ (by simp) rfl rfl
                  simp only [frm, List.foldl_cons, List.foldl_nil, Act.put, List.setIfInBounds_toArray, List.set_cons_zero, List.set_cons_succ] at hK ⊢
                  clear hdep ho
                  rw [d6] at hK ⊢
                  clear d6
                  rw [if_pos (by rfl)]
                  go_simp
                  exact hK _ _ ⟨_, rfl, Blk.new W _ (cellV X)⟩ (alloc_below' _ _) (by simp)
              case hend =>
                intro x W hbel hall _
                have d1 : x 1 = vv := hall (1, 53) (by simp)
                obtain ⟨yy, d7, hyy⟩ : ∃ yy, (x 7) = .slice (some ⟨yy, 0, none⟩) 1 1 ∧ Blk W yy 38 (cellV X) := hall (7, 59) (by simp)
                simp only [frm, List.foldl_cons, List.foldl_nil, Act.put, List.setIfInBounds_toArray, List.set_cons_zero, List.set_cons_succ]
                rw [d1, d7]
                clear hall d1 d7
                generalize x 0 = z0
                generalize x 2 = z2
                generalize x 5 = z5
                generalize x 6 = z6
                have hO := HO.out.below hbel
                have hown := hO.own
                obtain ⟨len, hlenE⟩ : ∃ len, Hid (l.length = len) := ⟨_, Lib.hid rfl⟩
                rw [hlenE.out] at hown
                have hlenB : len ≤ 1099511627776 := by rw [← hlenE.out]; exact HLEN.out
                refine wpAny_ready (rs := [8]) (by kernel_rfl) (by simp) (AllReady.cons (o := ⟨some 60, .call { callee := .builtin .append, args := #[.tmp 53, .tmp 59], argTypes := #[29, 29] }, _, _, _, _⟩) rfl (fun K hK => ?_) AllReady.nil)
                refine step_app1 length_cellV one_cellV (by decide) rfl (.tmp 53) (.tmp 59) 29 rfl (w.heap.size + 1 + 1 + 1 + 1) 38 i0 _ 32 Try.underlying29 hi hz0 hz1 hz2 rfl vv len l rfl hown X yy _ rfl hyy (by unfold maxLen; omega) (by omega) (by have := hO.box.lt; omega) ?_
                intro A1 c1 w4 ho4 hg4 _
                obtain ⟨s2, f2⟩ := hO.spot hg4
                rw [← hlenE.out] at ho4
                have HO4 := Lib.hid (hO.push ho4 hg4)
                rw [hlenE.out] at HO4
                refine hK _ _ ?_
                clear hK K hyy hown ho4 hg4 hO hbel
                simp only [Act.put, List.setIfInBounds_toArray, List.set_cons_zero, List.set_cons_succ]
                refine wpAny_take (i := 9) (oi := ⟨some 61, .fieldAddr 31 (.tmp 11) 2, _, _, _, _⟩) (v := ?_) rfl (by kernel_rfl) (by kernel_rfl) (by kernel_rfl) (fun _ _ _ h => h) (Or.inl ⟨by rfl, ?_⟩) ?_
                rotate_left
                · intro W; go_simp; try with_reducible rfl
                simp only [Act.put, List.setIfInBounds_toArray, List.set_cons_zero, List.set_cons_succ]
                refine wpAny_ready (rs := [10]) (by kernel_rfl) (by simp) (AllReady.cons (o := ⟨none, .store 29 (.tmp 61) (.tmp 60), _, _, _, _⟩) rfl (fun K hK => ?_) AllReady.nil)
                go_simp
                refine hK _ _ ?_
                clear hK K s2 f2
                refine wpAny_done (by kernel_rfl) ?_ _
                go_wp2
                go_roundw
                case rel =>
                  refine ⟨m + 1, .slice A1 (len + 1) c1, by omega, by go_num, ?_⟩
                  show Out _ _ _ _ _ _ _
                  rw [← Nat.add_assoc, tab_succ, HXF.out, hl.out]
                  exact HO4.out
                case measure => simp [intOf]; omega
          · have g1 : decide ((r : Int) < top) = false := by rw [decide_eq_false_iff_not]; omega
            have g2 : decide (bot < (r : Int)) = false := by rw [decide_eq_false_iff_not]; omega
            have e1 : IntKind.i64.wrap ((r : Int) + d) = (r : Int) + d := by rw [IntKind.wrap_i64]; omega
            by_cases h2 : bot < (r : Int) + d ∨ (r : Int) + d < top
            · have HXF : Hid (rollF R C f top bot d y (r * C + m) = y) := by show _ = _; rw [HAT.out, rollV, if_neg h1, if_pos h2]
              have HALL : Hid (∀ P : Prop, (bot < (r : Int) + d → P) → (decide (bot < (r : Int) + d) = false → (r : Int) + d < top → P) → P) := by
                intro P a b
                by_cases h : bot < (r : Int) + d
                · exact a h
                · exact b (by simpa using h) (by omega)
              have HOW := hM
              obtain ⟨W, hW⟩ : ∃ W, W = wr := ⟨_, rfl⟩
              subst hW
              obtain ⟨a0, a1, a2, a3⟩ := fourB' (HOW.out.old HY.out (by omega))
              have d2 : W.cell? ⟨w.heap.size + 1 + 1 + 1, 2, none⟩ = some vv := HOW.out.box.cell 2
              clear hM h1 h2
              refine HALL.out _ (fun h1 => ?_) (fun h0 h1 => ?_)
              all_goals
                obtain ⟨len, hlenE⟩ : ∃ len, Hid (l.length = len) := ⟨_, Lib.hid rfl⟩
                have hown := HOW.out.own
                rw [hlenE.out] at hown
                have HOWN := Lib.hid hown
                clear hown
                have hlenB : len ≤ 1099511627776 := by rw [← hlenE.out]; exact HLEN.out
                have hzW := HOW.out.box.lt
                go_wp2_with (at_builtin; refine wpList_app1 length_cellV one_cellV (by decide) rfl (.tmp 76) (.tmp 78) 29 rfl (w.heap.size + 1 + 1 + 1 + 1) 38 i0 _ 32 Try.underlying29 hi hz0 hz1 hz2 rfl vv len l rfl (ownK_below HOWN.out (alloc_below' _ _)) y _ 38 rfl (Blk.new _ _ _) (by unfold maxLen; omega) (by omega) (by simp; omega) ?_; intro A1 c1 w6 ho6 hg6 _; obtain ⟨s2, f2⟩ := (HOW.out.below (alloc_below' W _)).spot hg6; rw [← hlenE.out] at ho6; have HO6 := Lib.hid ((HOW.out.below (alloc_below' W _)).push ho6 hg6); rw [hlenE.out] at HO6; clear ho6 hg6)
                go_roundw
                case rel =>
                  refine ⟨m + 1, .slice A1 (len + 1) c1, by omega, by go_num, ?_⟩
                  show Out _ _ _ _ _ _ _
                  rw [← Nat.add_assoc, tab_succ, HXF.out, hl.out]
                  exact HO6.out
                case measure => simp [intOf]; omega
            · have g3 : decide (bot < (r : Int) + d) = false := by rw [decide_eq_false_iff_not]; omega
              have g4 : decide ((r : Int) + d < top) = false := by rw [decide_eq_false_iff_not]; omega
              obtain ⟨X, HX⟩ : ∃ X, Hid (atG R C f ((r : Int) + d) m y = X) := ⟨_, rfl⟩
              have HXF : Hid (rollF R C f top bot d y (r * C + m) = X) := by show _ = _; rw [HAT.out, rollV, if_neg h1, if_neg h2, HX.out]
              have HO : Hid (Out w1 wr.drew (w.heap.size + 1 + 1 + 1) R C vv l) := hM.out.drew
              clear hM h1 h2
              go_upto_region 8 with (fail)
              clear c0 c1 c2
              refine wp_region_any (by kernel_rfl) ?_
              change wpAny _ _ _ _ _ _ _ (World.drew _)
              refine wpAny_take (i := 3) (oi := ⟨some 34, .move (.tmp 12), _, _, _, _⟩) (v := ?_) rfl (by kernel_rfl) (by kernel_rfl) (by kernel_rfl) (fun _ _ _ h => h) (Or.inl ⟨by rfl, ?_⟩) ?_
              rotate_left
              · intro W; go_simp; try with_reducible rfl
              simp only [Act.put, List.setIfInBounds_toArray, List.set_cons_zero, List.set_cons_succ]
              refine wpAny_take (i := 4) (oi := ⟨some 35, .move (.tmp 3), _, _, _, _⟩) (v := ?_) rfl (by kernel_rfl) (by kernel_rfl) (by kernel_rfl) (fun _ _ _ h => h) (Or.inl ⟨by rfl, ?_⟩) ?_
              rotate_left
              · intro W; go_simp; try with_reducible rfl
              simp only [Act.put, List.setIfInBounds_toArray, List.set_cons_zero, List.set_cons_succ]
              refine wpAny_take (i := 5) (oi := ⟨some 36, .binOp .add 3 (.tmp 34) (.tmp 35) 3, _, _, _, _⟩) (v := ?_) rfl (by kernel_rfl) (by kernel_rfl) (by kernel_rfl) (fun _ _ _ h => h) (Or.inl ⟨by rfl, ?_⟩) ?_
              rotate_left
              · intro W; go_simp; try with_reducible rfl
              simp only [Act.put, List.setIfInBounds_toArray, List.set_cons_zero, List.set_cons_succ]
              refine wpAny_take (i := 6) (oi := ⟨some 37, .move (.tmp 13), _, _, _, _⟩) (v := ?_) rfl (by kernel_rfl) (by kernel_rfl) (by kernel_rfl) (fun _ _ _ h => h) (Or.inl ⟨by rfl, ?_⟩) ?_
              rotate_left
              · intro W; go_simp; try with_reducible rfl
              simp only [Act.put, List.setIfInBounds_toArray, List.set_cons_zero, List.set_cons_succ]
              refine wpAny_relyG (g := 3) [(0, 31), (1, 32), (2, 33), (7, 38), (8, 39), (9, 40)] (condAt [fun v _ => v = .pointer (some ⟨w.heap.size + 1 + 1 + 1, 2, none⟩), fun v _ => v = vv, fun v _ => v = .agg (gridV R C A n k).toArray, fun v _ => v = .int .i64 r, fun v _ => v = .int .i64 d, fun v _ => v = .int .i64 ((r : Int) + d), fun v _ => v = .int .i64 m, fun v _ => v = .agg (cellV y).toArray, fun v _ => v = .agg #[.int .i32 X.1, .int .i64 X.2.1, .int .i64 X.2.2.1, .int .i64 X.2.2.2], fun v W => ∃ yy, v = .slice (some ⟨yy, 0, none⟩) 1 1 ∧ Blk W yy 38 (cellV X)]) [] (by kernel_rfl) rfl (condAt_keep (stable_cons (stable_eq _) (stable_cons (stable_eq _) (stable_cons (stable_eq _) (stable_cons (stable_eq _) (stable_cons (stable_eq _) (stable_cons (stable_eq _) (stable_cons (stable_eq _) (stable_cons (stable_eq _) (stable_cons (stable_eq _) (stable_cons stable_blk1 stable_nil))))))))))) ?hstep ?hend
              case hstep =>
                intro p hp o ho x W hbel hdep K hK
                have d2 : W.cell? ⟨w.heap.size + 1 + 1 + 1, 2, none⟩ = some vv := (HO.out.below hbel).box.cell 2
                simp only [List.mem_cons, List.not_mem_nil, or_false] at hp
                rcases hp with rfl | rfl | rfl | rfl | rfl | rfl
                · cases Option.some.inj ho
                  simp only [frm, List.foldl_cons, List.foldl_nil, Act.put, List.setIfInBounds_toArray, List.set_cons_zero, List.set_cons_succ] at hK ⊢
                  clear hdep ho
                  rw [if_pos (by rfl)]
                  go_simp
                  exact hK _ _ rfl (Below.refl _ _) (by simp)
                · cases Option.some.inj ho
                  have d0 : x 0 = .pointer (some ⟨w.heap.size + 1 + 1 + 1, 2, none⟩) := hdep ⟨0, .data⟩ (by simp) rfl rfl
                  simp only [frm, List.foldl_cons, List.foldl_nil, Act.put, List.setIfInBounds_toArray, List.set_cons_zero, List.set_cons_succ] at hK ⊢
                  clear hdep ho
                  rw [d0] at hK ⊢
                  clear d0
                  rw [if_pos (by rfl)]
                  go_simp
                  exact hK _ _ rfl (Below.refl _ _) (by simp)
                · cases Option.some.inj ho
                  simp only [frm, List.foldl_cons, List.foldl_nil, Act.put, List.setIfInBounds_toArray, List.set_cons_zero, List.set_cons_succ] at hK ⊢
                  clear hdep ho
                  rw [if_pos (by rfl)]
                  exact wp_load_all 31 (.tmp 5) rfl _ rfl _ _ ((HO.out.below hbel).old HG.out (by omega)) _ Try.underlying31 rfl sizeG (hK _ _ rfl (Below.refl _ _) (by simp))
                · cases Option.some.inj ho
                  simp only [frm, List.foldl_cons, List.foldl_nil, Act.put, List.setIfInBounds_toArray, List.set_cons_zero, List.set_cons_succ] at hK ⊢
                  clear hdep ho
                  rw [if_pos (by rfl)]
                  exact wp_load_all 38 (.tmp 9) rfl _ rfl _ _ ((HO.out.below hbel).old HY.out (by omega)) _ Try.underlying38 rfl sizeC (hK _ _ rfl (Below.refl _ _) (by simp))
                · cases Option.some.inj ho
                  have d2 : x 2 = .agg (gridV R C A n k).toArray := hdep ⟨2, .data⟩ (by simp) rfl rfl
                  have d7 : x 7 = .agg (cellV y).toArray := hdep ⟨7, .data⟩ (by simp) rfl rfl
                  simp only [frm, List.foldl_cons, List.foldl_nil, Act.put, List.setIfInBounds_toArray, List.set_cons_zero, List.set_cons_succ] at hK ⊢
                  clear hdep ho
                  rw [d2, d7] at hK ⊢
                  clear d2 d7
                  rw [if_pos (by rfl)]
                  go_simp
                  refine (refAt_c R C A n k f ((r : Int) + d) (m) y W ((HO.out.below hbel).reads HBel.out (by omega) HR.out) HN.out hR hC).mono ?_
                  rw [HX.out]
                  rintro e w' ⟨rfl, hb⟩
                  exact hK _ _ rfl hb (by simp)
                · cases Option.some.inj ho
                  have d8 : x 8 = .agg #[.int .i32 X.1, .int .i64 X.2.1, .int .i64 X.2.2.1, .int .i64 X.2.2.2] := hdep ⟨8, .data⟩ (by simp) rfl rfl
                  simp only [frm, List.foldl_cons, List.foldl_nil, Act.put, List.setIfInBounds_toArray, List.set_cons_zero, List.set_cons_succ] at hK ⊢
                  clear hdep ho
                  rw [d8] at hK ⊢
                  clear d8
                  rw [if_pos (by rfl)]
                  go_simp
                  exact hK _ _ ⟨_, rfl, Blk.new W _ (cellV X)⟩ (alloc_below' _ _) (by simp)
              case hend =>
                intro x W hbel hall _
                have d1 : x 1 = vv := hall (1, 32) (by simp)
                obtain ⟨yy, d9, hyy⟩ : ∃ yy, (x 9) = .slice (some ⟨yy, 0, none⟩) 1 1 ∧ Blk W yy 38 (cellV X) := hall (9, 40) (by simp)
                simp only [frm, List.foldl_cons, List.foldl_nil, Act.put, List.setIfInBounds_toArray, List.set_cons_zero, List.set_cons_succ]
                rw [d1, d9]
                clear hall d1 d9
                generalize x 0 = z0
                generalize x 2 = z2
                generalize x 7 = z7
                generalize x 8 = z8
                have hO := HO.out.below hbel
                have hown := hO.own
                obtain ⟨len, hlenE⟩ : ∃ len, Hid (l.length = len) := ⟨_, Lib.hid rfl⟩
                rw [hlenE.out] at hown
                have hlenB : len ≤ 1099511627776 := by rw [← hlenE.out]; exact HLEN.out
                refine wpAny_ready (rs := [10]) (by kernel_rfl) (by simp) (AllReady.cons (o := ⟨some 41, .call { callee := .builtin .append, args := #[.tmp 32, .tmp 40], argTypes := #[29, 29] }, _, _, _, _⟩) rfl (fun K hK => ?_) AllReady.nil)
                refine step_app1 length_cellV one_cellV (by decide) rfl (.tmp 32) (.tmp 40) 29 rfl (w.heap.size + 1 + 1 + 1 + 1) 38 i0 _ 32 Try.underlying29 hi hz0 hz1 hz2 rfl vv len l rfl hown X yy _ rfl hyy (by unfold maxLen; omega) (by omega) (by have := hO.box.lt; omega) ?_
                intro A1 c1 w4 ho4 hg4 _
                obtain ⟨s2, f2⟩ := hO.spot hg4
                rw [← hlenE.out] at ho4
                have HO4 := Lib.hid (hO.push ho4 hg4)
                rw [hlenE.out] at HO4
                refine hK _ _ ?_
                clear hK K hyy hown ho4 hg4 hO hbel
                simp only [Act.put, List.setIfInBounds_toArray, List.set_cons_zero, List.set_cons_succ]
                refine wpAny_take (i := 11) (oi := ⟨some 42, .fieldAddr 31 (.tmp 11) 2, _, _, _, _⟩) (v := ?_) rfl (by kernel_rfl) (by kernel_rfl) (by kernel_rfl) (fun _ _ _ h => h) (Or.inl ⟨by rfl, ?_⟩) ?_
                rotate_left
                · intro W; go_simp; try with_reducible rfl
                simp only [Act.put, List.setIfInBounds_toArray, List.set_cons_zero, List.set_cons_succ]
                refine wpAny_ready (rs := [12]) (by kernel_rfl) (by simp) (AllReady.cons (o := ⟨none, .store 29 (.tmp 42) (.tmp 41), _, _, _, _⟩) rfl (fun K hK => ?_) AllReady.nil)
                go_simp
                refine hK _ _ ?_
                clear hK K s2 f2
                refine wpAny_done (by kernel_rfl) ?_ _
                go_wp2
                go_roundw
                case rel =>
                  refine ⟨m + 1, .slice A1 (len + 1) c1, by omega, by go_num, ?_⟩
                  show Out _ _ _ _ _ _ _
                  rw [← Nat.add_assoc, tab_succ, HXF.out, hl.out]
                  exact HO4.out
                case measure => simp [intOf]; omega
        · obtain rfl : m = C := by omega
          go_wp2
          go_roundw
          case rel => exact ⟨r + 1, vv, by omega, by go_num, by rw [Nat.add_mul, Nat.one_mul]; exact hM⟩
          case measure => simp [intOf]; omega
    · obtain rfl : r = R := by omega
      have HFin := hM
      rw [← HN.out] at HFin
      clear hM
      obtain ⟨A1, k1, rfl, hrd, hA1⟩ := HFin.out.form
      have HRD := Lib.hid hrd
      have HA1 := Lib.hid hA1
      clear hrd hA1
      have hbx : Blk wr (w.heap.size + 1 + 1 + 1) 31 (gridV r C A1 n k1) := HFin.out.box
      have hbr := HFin.out.old HRs.out (by omega)
      go_upto_region 13 with (fail)
      refine wp_region_lit ?_
      refine wpList_load_at rfl 31 (.tmp 11) rfl ⟨w.heap.size + 1 + 1 + 1, 0, none⟩ rfl _ _ hbx.all Try.underlying31 rfl sizeG ?_
      refine wpList_store_at rfl rfl 31 (.tmp 10) (.tmp 81) rfl (w.heap.size + 1 + 1) 0 rfl _ rfl _ _ hbr (Nat.le_refl 3) (one_gridV _ _ _ _ _) sizeG ?_
      intro w4 hb5 hg5
      rw [splice_all _ _ (by rfl)] at hb5
      have HB5 := Lib.hid hb5
      have HG5 := Lib.hid hg5
      clear hb5 hg5 hbx hbr
      go_wp2
      refine bodyPost_ret (v := .agg (gridV r C A1 n k1).toArray) ?_ rfl ?_
      · exact results_cell_row rfl _ _ (w.heap.size + 1 + 1) _ _ _ _ rfl HB5.out Try.underlying31 rfl (by kernel_rfl)
      · exact ⟨A1, k1, rfl, HFin.out.fin HRD.out HA1.out HBel.out (by omega) (by omega) HG5.out⟩
end Go.Proofs.Ytgmfmhlboehdoaa
