/- What the reference's Slide of package grid returns, as a walk through the translated text. Conditions: slices read as lists of cells, grids of at most 60 rows and 132 columns. -/
import Derived.Test.YtgmfmhlboehdoaaGridR3
namespace Go.Proofs.Ytgmfmhlboehdoaa
open Go.ChangeShapes Go.WideShapes Go.RowKit
/-- What the reference lays at row r, column m (place i) of a grid of which one row's cells come from d further on, from column col on. -/
def slideV (R C : Nat) (f : Nat → CellV) (row col d : Int) (y : CellV) (i r m : Nat) : CellV :=
  if (r : Int) ≠ row ∨ (m : Int) < col then f i else if (m : Int) + d < col then y else atG R C f r ((m : Int) + d) y
def slideF (R C : Nat) (f : Nat → CellV) (row col d : Int) (y : CellV) : Nat → CellV := fun i => slideV R C f row col d y i (i / C) (i % C)
set_option maxRecDepth 100000 in
set_option maxHeartbeats 6400000 in
theorem refSlide_c (R C : Nat) (A : Option Addr) (n k : Nat) (f : Nat → CellV) (row col d : Int) (y : CellV) (w : World) (hr : ReadsS cellV 4 w A n k (tab n f)) (hn : n = R * C) (hR : R ≤ 60) (hC : C ≤ 132) (hC1 : 1 ≤ C) (hd : -200 ≤ d ∧ d ≤ 200) :
    Calls Try.prog 58 #[.agg (gridV R C A n k).toArray, .int .i64 row, .int .i64 col, .int .i64 d, .agg (cellV y).toArray] w (RefPost w R C n (slideF R C f row col d y)) := by
  obtain ⟨i0, hi, hz0, hz1, hz2⟩ := info_parts infoC
  have hnb : n ≤ 60 * 132 := by rw [hn]; exact Nat.mul_le_mul hR hC
  have HR := Lib.hid hr
  have HN := Lib.hid hn
  clear hr hn
  simp only [gridV_list, cellV]
  go_enter Try.func58, Try.ntmps58
  go_upto_region 2 with (fail)
  refine name_wp (fun w1 => Blk w1 w.heap.size 31 (gridV R C A n k) ∧ Blk w1 (w.heap.size + 1) 38 (cellV y) ∧ Blk w1 (w.heap.size + 1 + 1) 31 (gridV 0 0 none 0 0) ∧ Out w1 w1 (w.heap.size + 1 + 1 + 1) R C (.slice none 0 0) [] ∧ Below w.heap.size w w1) ⟨(((Blk.new _ _ _).alloc _).alloc _).alloc _, ((newAt _ _ (by simp)).alloc _).alloc _, (newAt _ _ (by simp)).alloc _, ⟨Below.refl _ _, newAt _ [.int .i64 R, .int .i64 C, .slice none 0 0] (by simp), World.ownsRow_nil _ _ _ _⟩, (((alloc_below' _ _).alloc (by simp) _).alloc (by simp; omega) _).alloc (by simp; omega) _⟩ ?_
  rintro w1 ⟨hb0, hb1, hb2, hO1, hbel1⟩
  have HG := Lib.hid hb0
  have HY := Lib.hid hb1
  have HRs := Lib.hid hb2
  have HO1 := Lib.hid hO1
  have HBel := Lib.hid hbel1
  have hzlt := hO1.box.lt
  clear hb0 hb1 hb2 hO1 hbel1
  go_wp2
  obtain ⟨hd1, hd2⟩ := hd
  have hCn : ¬ C = 0 := by omega
  have hCp : (0 : Int) < (C : Int) := by omega
  go_loopw [12] (fun i wr => ∃ (j : Nat) (v : Value), j ≤ n ∧ i = .int .i64 j ∧ Hid (Out w1 wr (w.heap.size + 1 + 1 + 1) R C v (tab j (slideF R C f row col d y)))) (fun i _ => n - (intOf i).toNat)
  case atStart => exact ⟨0, _, Nat.zero_le _, rfl, HO1⟩
  case round =>
    obtain ⟨j, vv, hj, rfl, hM⟩ := hrel
    have HGr := hM.out.old HG.out (by omega)
    obtain ⟨c0, c1, c2⟩ := boxG HGr
    clear HGr
    by_cases hlt : j < n
    · have hlt2 : (j : Int) < (n : Int) := by omega
      have hj0 : (0 : Int) ≤ (j : Int) := by omega
      obtain ⟨l, hl⟩ : ∃ l, Hid (tab j (slideF R C f row col d y) = l) := ⟨_, rfl⟩
      have HLEN : Hid (l.length ≤ 1099511627776) := by show _ ≤ _; rw [← hl.out, length_tab]; omega
      rw [hl.out] at hM
      obtain ⟨r, hr⟩ : ∃ r, Hid (j / C = r) := ⟨_, Lib.hid rfl⟩
      obtain ⟨m, hm⟩ : ∃ m, Hid (j % C = m) := ⟨_, Lib.hid rfl⟩
      have hmC : m < C := by rw [← hm.out]; exact Nat.mod_lt _ (by omega)
      have hrb : r ≤ j := by rw [← hr.out]; exact Nat.div_le_self _ _
      have HV : Hid (slideF R C f row col d y j = slideV R C f row col d y j r m) := by show _ = _; rw [slideF, hr.out, hm.out]
      have q1 : (j : Int).tdiv (C : Int) = (r : Int) := by rw [Int.tdiv_eq_ediv_of_nonneg (by omega), ← hr.out]; rfl
      have q2 : (j : Int) / (C : Int) = (r : Int) := by rw [← hr.out]; rfl
      have m1 : (j : Int).tmod (C : Int) = (m : Int) := by rw [Int.tmod_eq_emod_of_nonneg (by omega), ← hm.out]; rfl
      have m2 : (j : Int) % (C : Int) = (m : Int) := by rw [← hm.out]; rfl
      have e3 : IntKind.i64.wrap (r : Int) = (r : Int) := by rw [IntKind.wrap_i64]; omega
      go_upto_region 5 with (fail)
      go_quiet (fail)
      go_upto_region 7 with (fail)
      clear q1 q2 m1 m2 e3
      refine name_wp (fun w' => Hid (Out w1 w' (w.heap.size + 1 + 1 + 1) R C vv l)) (hM.out.drewN _) ?_
      intro wo hMo
      replace hM := hMo
      clear hMo c0 c1 c2
      have HGr := hM.out.old HG.out (by omega)
      obtain ⟨c0, c1, c2⟩ := boxG HGr
      clear HGr
      by_cases h1 : (r : Int) ≠ row ∨ (m : Int) < col
      · obtain ⟨X, HX⟩ : ∃ X, Hid (f j = X) := ⟨_, rfl⟩
        have HXF : Hid (slideF R C f row col d y j = X) := by show _ = _; rw [HV.out, slideV, if_pos h1, HX.out]
        have HO : Hid (Out w1 wo.drew (w.heap.size + 1 + 1 + 1) R C vv l) := hM.out.drew
        have HALL : Hid (∀ P : Prop, (((r : Int) != row) = true → P) → (((r : Int) != row) = false → (m : Int) < col → P) → P) := by
          intro P a b
          by_cases h : (r : Int) = row
          · exact b (by simpa using h) (by omega)
          · exact a (by simpa using h)
        obtain ⟨ad, rfl, _, _⟩ := HR.out.cell j (by rw [length_tab]; exact hlt)
        have HCELL : Hid (∀ W, Below wo.drew.heap.size wo.drew W → ∀ i u, (cellV X)[i]? = some u → W.cell? ((ad.add (j * 4)).add i) = some u) := by
          intro W hb i u hu
          have h := ((HO.out.below hb).reads HBel.out (by omega) HR.out).at j (by rw [length_tab]; exact hlt) i u
          rw [tab_get, HX.out] at h
          exact h hu
        clear hM h1
        refine HALL.out _ (fun h1 => ?_) (fun h0 h1 => ?_)
        all_goals
          go_upto_region 8 with (fail)
          clear c0 c1 c2
          refine wp_region_any (by kernel_rfl) ?_
          change wpAny _ _ _ _ _ _ _ (World.drew _)
          refine wpAny_relyG (g := 3) [(0, 56), (1, 57), (2, 58), (3, 59), (4, 60), (5, 61), (6, 62), (7, 63)] (condAt [fun v _ => v = .pointer (some ⟨w.heap.size + 1 + 1 + 1, 2, none⟩), fun v _ => v = vv, fun v _ => v = .pointer (some ⟨w.heap.size, 2, none⟩), fun v _ => v = .slice (some ad) n k, fun v _ => v = .int .i64 j, fun v _ => v = .pointer (some (ad.add (j * 4))), fun v _ => v = .agg #[.int .i32 X.1, .int .i64 X.2.1, .int .i64 X.2.2.1, .int .i64 X.2.2.2], fun v W => ∃ yy, v = .slice (some ⟨yy, 0, none⟩) 1 1 ∧ Blk W yy 38 (cellV X)]) [] (by kernel_rfl) rfl (condAt_keep (stable_cons (stable_eq _) (stable_cons (stable_eq _) (stable_cons (stable_eq _) (stable_cons (stable_eq _) (stable_cons (stable_eq _) (stable_cons (stable_eq _) (stable_cons (stable_eq _) (stable_cons stable_blk1 stable_nil))))))))) ?hstep ?hend
          case hstep =>
            intro p hp o ho x W hbel hdep K hK
            have d2 : W.cell? ⟨w.heap.size + 1 + 1 + 1, 2, none⟩ = some vv := (HO.out.below hbel).box.cell 2
            obtain ⟨_, _, b2⟩ := boxG ((HO.out.below hbel).old HG.out (by omega))
            obtain ⟨a0, a1, a2, a3⟩ := four (HCELL.out W hbel)
            simp only [List.mem_cons, List.not_mem_nil, or_false] at hp
            rcases hp with rfl | rfl | rfl | rfl | rfl | rfl | rfl | rfl
            · cases Option.some.inj ho
              simp only [frm, List.foldl_cons, List.foldl_nil, Act.put, List.setIfInBounds_toArray, List.set_cons_zero, List.set_cons_succ] at hK ⊢
              clear hdep ho
              rw [if_pos (by rfl)]
              go_simp
              exact hK _ _ rfl (Below.refl _ _) (by simp)
            · cases Option.some.inj ho
              have d0 : x 0 = .pointer (some ⟨w.heap.size + 1 + 1 + 1, 2, none⟩) := hdep ⟨0, .data⟩ (by simp) rfl rfl
              simp only [frm, List.foldl_cons, List.foldl_nil, Act.put, List.setIfInBounds_toArray, List.set_cons_zero, List.set_cons_succ] at hK ⊢
              clear hdep ho
              rw [d0] at hK ⊢
              clear d0
              rw [if_pos (by rfl)]
              go_simp
              exact hK _ _ rfl (Below.refl _ _) (by simp)
            · cases Option.some.inj ho
              simp only [frm, List.foldl_cons, List.foldl_nil, Act.put, List.setIfInBounds_toArray, List.set_cons_zero, List.set_cons_succ] at hK ⊢
              clear hdep ho
              rw [if_pos (by rfl)]
              go_simp
              exact hK _ _ rfl (Below.refl _ _) (by simp)
            · cases Option.some.inj ho
              have d2 : x 2 = .pointer (some ⟨w.heap.size, 2, none⟩) := hdep ⟨2, .data⟩ (by simp) rfl rfl
              simp only [frm, List.foldl_cons, List.foldl_nil, Act.put, List.setIfInBounds_toArray, List.set_cons_zero, List.set_cons_succ] at hK ⊢
              clear hdep ho
              rw [d2] at hK ⊢
              clear d2
              rw [if_pos (by rfl)]
              go_simp
              exact hK _ _ rfl (Below.refl _ _) (by simp)
            · cases Option.some.inj ho
              simp only [frm, List.foldl_cons, List.foldl_nil, Act.put, List.setIfInBounds_toArray, List.set_cons_zero, List.set_cons_succ] at hK ⊢
              clear hdep ho
              rw [if_pos (by rfl)]
              go_simp
              exact hK _ _ rfl (Below.refl _ _) (by simp)
            · cases Option.some.inj ho
              have d3 : x 3 = .slice (some ad) n k := hdep ⟨3, .data⟩ (by simp) rfl rfl
              have d4 : x 4 = .int .i64 j := hdep ⟨4, .data⟩ (by simp) rfl rfl
              simp only [frm, List.foldl_cons, List.foldl_nil, Act.put, List.setIfInBounds_toArray, List.set_cons_zero, List.set_cons_succ] at hK ⊢
              clear hdep ho
              rw [d3, d4] at hK ⊢
              clear d3 d4
              rw [if_pos (by rfl)]
              go_simp
              exact hK _ _ rfl (Below.refl _ _) (by simp)
            · cases Option.some.inj ho
              have d5 : x 5 = .pointer (some (ad.add (j * 4))) := hdep ⟨5, .data⟩ (by simp) rfl rfl
              simp only [frm, List.foldl_cons, List.foldl_nil, Act.put, List.setIfInBounds_toArray, List.set_cons_zero, List.set_cons_succ] at hK ⊢
              clear hdep ho
              rw [d5] at hK ⊢
              clear d5
              rw [if_pos (by rfl)]
              go_simp
              exact hK _ _ rfl (Below.refl _ _) (by simp)
            · cases Option.some.inj ho
              have d6 : x 6 = .agg #[.int .i32 X.1, .int .i64 X.2.1, .int .i64 X.2.2.1, .int .i64 X.2.2.2] := hdep ⟨6, .data⟩ (by simp) rfl rfl
              simp only [frm, List.foldl_cons, List.foldl_nil, Act.put, List.setIfInBounds_toArray, List.set_cons_zero, List.set_cons_succ] at hK ⊢
              clear hdep ho
              rw [d6] at hK ⊢
              clear d6
              rw [if_pos (by rfl)]
              go_simp
              exact hK _ _ ⟨_, rfl, Blk.new W _ (cellV X)⟩ (alloc_below' _ _) (by simp)
          case hend =>
            intro x W hbel hall _
            have d1 : x 1 = vv := hall (1, 57) (by simp)
            obtain ⟨yy, d7, hyy⟩ : ∃ yy, (x 7) = .slice (some ⟨yy, 0, none⟩) 1 1 ∧ Blk W yy 38 (cellV X) := hall (7, 63) (by simp)
            simp only [frm, List.foldl_cons, List.foldl_nil, Act.put, List.setIfInBounds_toArray, List.set_cons_zero, List.set_cons_succ]
            rw [d1, d7]
            clear hall d1 d7
            generalize x 0 = z0
            generalize x 2 = z2
            generalize x 3 = z3
            generalize x 4 = z4
            generalize x 5 = z5
            generalize x 6 = z6
            have hO := HO.out.below hbel
            have hown := hO.own
            obtain ⟨len, hlenE⟩ : ∃ len, Hid (l.length = len) := ⟨_, Lib.hid rfl⟩
            rw [hlenE.out] at hown
            have hlenB : len ≤ 1099511627776 := by rw [← hlenE.out]; exact HLEN.out
            refine wpAny_ready (rs := [8]) (by kernel_rfl) (by simp) (AllReady.cons (o := ⟨some 64, .call { callee := .builtin .append, args := #[.tmp 57, .tmp 63], argTypes := #[29, 29] }, _, _, _, _⟩) rfl (fun K hK => ?_) AllReady.nil)
            refine step_app1 length_cellV one_cellV (by decide) rfl (.tmp 57) (.tmp 63) 29 rfl (w.heap.size + 1 + 1 + 1 + 1) 38 i0 _ 32 Try.underlying29 hi hz0 hz1 hz2 rfl vv len l rfl hown X yy _ rfl hyy (by unfold maxLen; omega) (by omega) (by have := hO.box.lt; omega) ?_
            intro A1 c1 w4 ho4 hg4 _
            obtain ⟨s2, f2⟩ := hO.spot hg4
            rw [← hlenE.out] at ho4
            have HO4 := Lib.hid (hO.push ho4 hg4)
            rw [hlenE.out] at HO4
            refine hK _ _ ?_
            clear hK K hyy hown ho4 hg4 hO hbel
            simp only [Act.put, List.setIfInBounds_toArray, List.set_cons_zero, List.set_cons_succ]
            refine wpAny_take (i := 9) (oi := ⟨some 65, .fieldAddr 31 (.tmp 11) 2, _, _, _, _⟩) (v := ?_) rfl (by kernel_rfl) (by kernel_rfl) (by kernel_rfl) (fun _ _ _ h => h) (Or.inl ⟨by rfl, ?_⟩) ?_
            rotate_left
            · intro W; go_simp; try with_reducible rfl
            simp only [Act.put, List.setIfInBounds_toArray, List.set_cons_zero, List.set_cons_succ]
            refine wpAny_ready (rs := [10]) (by kernel_rfl) (by simp) (AllReady.cons (o := ⟨none, .store 29 (.tmp 65) (.tmp 64), _, _, _, _⟩) rfl (fun K hK => ?_) AllReady.nil)
            go_simp
            refine hK _ _ ?_
            clear hK K s2 f2
            refine wpAny_done (by kernel_rfl) ?_ _
            go_wp2
            go_roundw
            case rel =>
              refine ⟨j + 1, .slice A1 (len + 1) c1, by omega, by go_num, ?_⟩
              show Out _ _ _ _ _ _ _
              rw [tab_succ, HXF.out, hl.out]
              exact HO4.out
            case measure => simp [intOf]; omega
      · have g1 : ((r : Int) != row) = false := by simpa using (show (r : Int) = row by omega)
        have g2 : decide ((m : Int) < col) = false := by rw [decide_eq_false_iff_not]; omega
        have e1 : IntKind.i64.wrap ((m : Int) + d) = (m : Int) + d := by rw [IntKind.wrap_i64]; omega
        by_cases h2 : (m : Int) + d < col
        · have HXF : Hid (slideF R C f row col d y j = y) := by show _ = _; rw [HV.out, slideV, if_neg h1, if_pos h2]
          have HOW := hM
          obtain ⟨W, hW⟩ : ∃ W, W = wo := ⟨_, rfl⟩
          subst hW
          obtain ⟨a0, a1, a2, a3⟩ := fourB' (HOW.out.old HY.out (by omega))
          have d2 : W.cell? ⟨w.heap.size + 1 + 1 + 1, 2, none⟩ = some vv := HOW.out.box.cell 2
          clear hM h1
          obtain ⟨len, hlenE⟩ : ∃ len, Hid (l.length = len) := ⟨_, Lib.hid rfl⟩
          have hown := HOW.out.own
          rw [hlenE.out] at hown
          have HOWN := Lib.hid hown
          clear hown
          have hlenB : len ≤ 1099511627776 := by rw [← hlenE.out]; exact HLEN.out
          have hzW := HOW.out.box.lt
          go_wp2_with (at_builtin; refine wpList_app1 length_cellV one_cellV (by decide) rfl (.tmp 73) (.tmp 75) 29 rfl (w.heap.size + 1 + 1 + 1 + 1) 38 i0 _ 32 Try.underlying29 hi hz0 hz1 hz2 rfl vv len l rfl (ownK_below HOWN.out (alloc_below' _ _)) y _ 38 rfl (Blk.new _ _ _) (by unfold maxLen; omega) (by omega) (by simp; omega) ?_; intro A1 c1 w6 ho6 hg6 _; obtain ⟨s2, f2⟩ := (HOW.out.below (alloc_below' W _)).spot hg6; rw [← hlenE.out] at ho6; have HO6 := Lib.hid ((HOW.out.below (alloc_below' W _)).push ho6 hg6); rw [hlenE.out] at HO6; clear ho6 hg6)
          go_roundw
          case rel =>
            refine ⟨j + 1, .slice A1 (len + 1) c1, by omega, by go_num, ?_⟩
            show Out _ _ _ _ _ _ _
            rw [tab_succ, HXF.out, hl.out]
            exact HO6.out
          case measure => simp [intOf]; omega
        · have g3 : decide ((m : Int) + d < col) = false := by rw [decide_eq_false_iff_not]; omega
          obtain ⟨X, HX⟩ : ∃ X, Hid (atG R C f r ((m : Int) + d) y = X) := ⟨_, rfl⟩
          have HXF : Hid (slideF R C f row col d y j = X) := by show _ = _; rw [HV.out, slideV, if_neg h1, if_neg h2, HX.out]
          have HO : Hid (Out w1 wo.drew (w.heap.size + 1 + 1 + 1) R C vv l) := hM.out.drew
          clear hM h1 h2
          go_upto_region 6 with (fail)
          clear c0 c1 c2
          refine wp_region_any (by kernel_rfl) ?_
          change wpAny _ _ _ _ _ _ _ (World.drew _)
          refine wpAny_take (i := 3) (oi := ⟨some 38, .move (.tmp 13), _, _, _, _⟩) (v := ?_) rfl (by kernel_rfl) (by kernel_rfl) (by kernel_rfl) (fun _ _ _ h => h) (Or.inl ⟨by rfl, ?_⟩) ?_
          rotate_left
          · intro W; go_simp; try with_reducible rfl
          simp only [Act.put, List.setIfInBounds_toArray, List.set_cons_zero, List.set_cons_succ]
          refine wpAny_take (i := 4) (oi := ⟨some 39, .move (.tmp 14), _, _, _, _⟩) (v := ?_) rfl (by kernel_rfl) (by kernel_rfl) (by kernel_rfl) (fun _ _ _ h => h) (Or.inl ⟨by rfl, ?_⟩) ?_
          rotate_left
          · intro W; go_simp; try with_reducible rfl
          simp only [Act.put, List.setIfInBounds_toArray, List.set_cons_zero, List.set_cons_succ]
          refine wpAny_take (i := 5) (oi := ⟨some 40, .move (.tmp 3), _, _, _, _⟩) (v := ?_) rfl (by kernel_rfl) (by kernel_rfl) (by kernel_rfl) (fun _ _ _ h => h) (Or.inl ⟨by rfl, ?_⟩) ?_
          rotate_left
          · intro W; go_simp; try with_reducible rfl
          simp only [Act.put, List.setIfInBounds_toArray, List.set_cons_zero, List.set_cons_succ]
          refine wpAny_take (i := 6) (oi := ⟨some 41, .binOp .add 3 (.tmp 39) (.tmp 40) 3, _, _, _, _⟩) (v := ?_) rfl (by kernel_rfl) (by kernel_rfl) (by kernel_rfl) (fun _ _ _ h => h) (Or.inl ⟨by rfl, ?_⟩) ?_
          rotate_left
          · intro W; go_simp; try with_reducible rfl
          simp only [Act.put, List.setIfInBounds_toArray, List.set_cons_zero, List.set_cons_succ]
          refine wpAny_relyG (g := 3) [(0, 35), (1, 36), (2, 37), (7, 42), (8, 43), (9, 44)] (condAt [fun v _ => v = .pointer (some ⟨w.heap.size + 1 + 1 + 1, 2, none⟩), fun v _ => v = vv, fun v _ => v = .agg (gridV R C A n k).toArray, fun v _ => v = .int .i64 r, fun v _ => v = .int .i64 m, fun v _ => v = .int .i64 d, fun v _ => v = .int .i64 ((m : Int) + d), fun v _ => v = .agg (cellV y).toArray, fun v _ => v = .agg #[.int .i32 X.1, .int .i64 X.2.1, .int .i64 X.2.2.1, .int .i64 X.2.2.2], fun v W => ∃ yy, v = .slice (some ⟨yy, 0, none⟩) 1 1 ∧ Blk W yy 38 (cellV X)]) [] (by kernel_rfl) rfl (condAt_keep (stable_cons (stable_eq _) (stable_cons (stable_eq _) (stable_cons (stable_eq _) (stable_cons (stable_eq _) (stable_cons (stable_eq _) (stable_cons (stable_eq _) (stable_cons (stable_eq _) (stable_cons (stable_eq _) (stable_cons (stable_eq _) (stable_cons stable_blk1 stable_nil))))))))))) ?hstep ?hend
          case hstep =>
            intro p hp o ho x W hbel hdep K hK
            have d2 : W.cell? ⟨w.heap.size + 1 + 1 + 1, 2, none⟩ = some vv := (HO.out.below hbel).box.cell 2
            simp only [List.mem_cons, List.not_mem_nil, or_false] at hp
            rcases hp with rfl | rfl | rfl | rfl | rfl | rfl
            · cases Option.some.inj ho
              simp only [frm, List.foldl_cons, List.foldl_nil, Act.put, List.setIfInBounds_toArray, List.set_cons_zero, List.set_cons_succ] at hK ⊢
              clear hdep ho
              rw [if_pos (by rfl)]
              go_simp
              exact hK _ _ rfl (Below.refl _ _) (by simp)
            · cases Option.some.inj ho
              have d0 : x 0 = .pointer (some ⟨w.heap.size + 1 + 1 + 1, 2, none⟩) := hdep ⟨0, .data⟩ (by simp) rfl rfl
              simp only [frm, List.foldl_cons, List.foldl_nil, Act.put, List.setIfInBounds_toArray, List.set_cons_zero, List.set_cons_succ] at hK ⊢
              clear hdep ho
              rw [d0] at hK ⊢
              clear d0
              rw [if_pos (by rfl)]
              go_simp
              exact hK _ _ rfl (Below.refl _ _) (by simp)
            · cases Option.some.inj ho
              simp only [frm, List.foldl_cons, List.foldl_nil, Act.put, List.setIfInBounds_toArray, List.set_cons_zero, List.set_cons_succ] at hK ⊢
              clear hdep ho
              rw [if_pos (by rfl)]
              exact wp_load_all 31 (.tmp 5) rfl _ rfl _ _ ((HO.out.below hbel).old HG.out (by omega)) _ Try.underlying31 rfl sizeG (hK _ _ rfl (Below.refl _ _) (by simp))
            · cases Option.some.inj ho
              simp only [frm, List.foldl_cons, List.foldl_nil, Act.put, List.setIfInBounds_toArray, List.set_cons_zero, List.set_cons_succ] at hK ⊢
              clear hdep ho
              rw [if_pos (by rfl)]
              exact wp_load_all 38 (.tmp 9) rfl _ rfl _ _ ((HO.out.below hbel).old HY.out (by omega)) _ Try.underlying38 rfl sizeC (hK _ _ rfl (Below.refl _ _) (by simp))
            · cases Option.some.inj ho
              have d2 : x 2 = .agg (gridV R C A n k).toArray := hdep ⟨2, .data⟩ (by simp) rfl rfl
              have d7 : x 7 = .agg (cellV y).toArray := hdep ⟨7, .data⟩ (by simp) rfl rfl
              simp only [frm, List.foldl_cons, List.foldl_nil, Act.put, List.setIfInBounds_toArray, List.set_cons_zero, List.set_cons_succ] at hK ⊢
              clear hdep ho
              rw [d2, d7] at hK ⊢
              clear d2 d7
              rw [if_pos (by rfl)]
              go_simp
              refine (refAt_c R C A n k f (r) ((m : Int) + d) y W ((HO.out.below hbel).reads HBel.out (by omega) HR.out) HN.out hR hC).mono ?_
              rw [HX.out]
              rintro e w' ⟨rfl, hb⟩
              exact hK _ _ rfl hb (by simp)
            · cases Option.some.inj ho
              have d8 : x 8 = .agg #[.int .i32 X.1, .int .i64 X.2.1, .int .i64 X.2.2.1, .int .i64 X.2.2.2] := hdep ⟨8, .data⟩ (by simp) rfl rfl
              simp only [frm, List.foldl_cons, List.foldl_nil, Act.put, List.setIfInBounds_toArray, List.set_cons_zero, List.set_cons_succ] at hK ⊢
              clear hdep ho
              rw [d8] at hK ⊢
              clear d8
              rw [if_pos (by rfl)]
              go_simp
              exact hK _ _ ⟨_, rfl, Blk.new W _ (cellV X)⟩ (alloc_below' _ _) (by simp)
          case hend =>
            intro x W hbel hall _
            have d1 : x 1 = vv := hall (1, 36) (by simp)
            obtain ⟨yy, d9, hyy⟩ : ∃ yy, (x 9) = .slice (some ⟨yy, 0, none⟩) 1 1 ∧ Blk W yy 38 (cellV X) := hall (9, 44) (by simp)
            simp only [frm, List.foldl_cons, List.foldl_nil, Act.put, List.setIfInBounds_toArray, List.set_cons_zero, List.set_cons_succ]
            rw [d1, d9]
            clear hall d1 d9
            generalize x 0 = z0
            generalize x 2 = z2
            generalize x 7 = z7
            generalize x 8 = z8
            have hO := HO.out.below hbel
            have hown := hO.own
            obtain ⟨len, hlenE⟩ : ∃ len, Hid (l.length = len) := ⟨_, Lib.hid rfl⟩
            rw [hlenE.out] at hown
            have hlenB : len ≤ 1099511627776 := by rw [← hlenE.out]; exact HLEN.out
            refine wpAny_ready (rs := [10]) (by kernel_rfl) (by simp) (AllReady.cons (o := ⟨some 45, .call { callee := .builtin .append, args := #[.tmp 36, .tmp 44], argTypes := #[29, 29] }, _, _, _, _⟩) rfl (fun K hK => ?_) AllReady.nil)
            refine step_app1 length_cellV one_cellV (by decide) rfl (.tmp 36) (.tmp 44) 29 rfl (w.heap.size + 1 + 1 + 1 + 1) 38 i0 _ 32 Try.underlying29 hi hz0 hz1 hz2 rfl vv len l rfl hown X yy _ rfl hyy (by unfold maxLen; omega) (by omega) (by have := hO.box.lt; omega) ?_
            intro A1 c1 w4 ho4 hg4 _
            obtain ⟨s2, f2⟩ := hO.spot hg4
            rw [← hlenE.out] at ho4
            have HO4 := Lib.hid (hO.push ho4 hg4)
            rw [hlenE.out] at HO4
            refine hK _ _ ?_
            clear hK K hyy hown ho4 hg4 hO hbel
            simp only [Act.put, List.setIfInBounds_toArray, List.set_cons_zero, List.set_cons_succ]
            refine wpAny_take (i := 11) (oi := ⟨some 46, .fieldAddr 31 (.tmp 11) 2, _, _, _, _⟩) (v := ?_) rfl (by kernel_rfl) (by kernel_rfl) (by kernel_rfl) (fun _ _ _ h => h) (Or.inl ⟨by rfl, ?_⟩) ?_
            rotate_left
            · intro W; go_simp; try with_reducible rfl
            simp only [Act.put, List.setIfInBounds_toArray, List.set_cons_zero, List.set_cons_succ]
            refine wpAny_ready (rs := [12]) (by kernel_rfl) (by simp) (AllReady.cons (o := ⟨none, .store 29 (.tmp 46) (.tmp 45), _, _, _, _⟩) rfl (fun K hK => ?_) AllReady.nil)
            go_simp
            refine hK _ _ ?_
            clear hK K s2 f2
            refine wpAny_done (by kernel_rfl) ?_ _
            go_wp2
            go_roundw
            case rel =>
              refine ⟨j + 1, .slice A1 (len + 1) c1, by omega, by go_num, ?_⟩
              show Out _ _ _ _ _ _ _
              rw [tab_succ, HXF.out, hl.out]
              exact HO4.out
            case measure => simp [intOf]; omega
    · obtain rfl : j = n := by omega
      have HFin := hM
      clear hM
      obtain ⟨A1, k1, rfl, hrd, hA1⟩ := HFin.out.form
      have HRD := Lib.hid hrd
      have HA1 := Lib.hid hA1
      clear hrd hA1
      have hbx : Blk wr (w.heap.size + 1 + 1 + 1) 31 (gridV R C A1 j k1) := HFin.out.box
      have hbr := HFin.out.old HRs.out (by omega)
      go_upto_region 11 with (fail)
      refine wp_region_lit ?_
      refine wpList_load_at rfl 31 (.tmp 11) rfl ⟨w.heap.size + 1 + 1 + 1, 0, none⟩ rfl _ _ hbx.all Try.underlying31 rfl sizeG ?_
      refine wpList_store_at rfl rfl 31 (.tmp 10) (.tmp 78) rfl (w.heap.size + 1 + 1) 0 rfl _ rfl _ _ hbr (Nat.le_refl 3) (one_gridV _ _ _ _ _) sizeG ?_
      intro w4 hb5 hg5
      rw [splice_all _ _ (by rfl)] at hb5
      have HB5 := Lib.hid hb5
      have HG5 := Lib.hid hg5
      clear hb5 hg5 hbx hbr
      go_wp2
      refine bodyPost_ret (v := .agg (gridV R C A1 j k1).toArray) ?_ rfl ?_
      · exact results_cell_row rfl _ _ (w.heap.size + 1 + 1) _ _ _ _ rfl HB5.out Try.underlying31 rfl (by kernel_rfl)
      · exact ⟨A1, k1, rfl, HFin.out.fin HRD.out HA1.out HBel.out (by omega) (by omega) HG5.out⟩
end Go.Proofs.Ytgmfmhlboehdoaa
