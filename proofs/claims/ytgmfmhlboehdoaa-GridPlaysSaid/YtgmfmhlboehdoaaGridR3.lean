/- What the reference's New and Resize of package grid return, as walks through the translated text. Conditions: slices read as lists of cells, grids of at most 60 rows and 132 columns. -/
import Derived.Test.YtgmfmhlboehdoaaGridR2
namespace Go.Proofs.Ytgmfmhlboehdoaa
open Go.ChangeShapes Go.WideShapes Go.RowKit
set_option maxRecDepth 100000 in
set_option maxHeartbeats 1600000 in
theorem refNew_c (R C N : Nat) (w : World) (hN : R * C = N) (hR : R ≤ 60) (hC : C ≤ 132) : Calls Try.prog 9 #[.int .i64 R, .int .i64 C] w (RefPost w R C N fun _ => blankV) := by
  obtain ⟨i0, hi, hz0, hz1, hz2⟩ := info_parts infoC
  have hnb : N ≤ 60 * 132 := by rw [← hN]; exact Nat.mul_le_mul hR hC
  have e1 : IntKind.i64.wrap ((R : Int) * (C : Int)) = (N : Int) := by rw [← Int.natCast_mul, hN, IntKind.wrap_i64]; omega
  clear hN
  go_enter Try.func9, Try.ntmps9
  go_upto_region 2 with (fail)
  refine name_wp (fun w1 => Blk w1 w.heap.size 31 (gridV 0 0 none 0 0) ∧ Out w1 w1 (w.heap.size + 1) R C (.slice none 0 0) [] ∧ Below w.heap.size w w1) ⟨(Blk.new _ _ _).alloc _, ⟨Below.refl _ _, newAt _ [.int .i64 R, .int .i64 C, .slice none 0 0] (by simp), World.ownsRow_nil _ _ _ _⟩, (alloc_below' _ _).alloc (by simp) _⟩ ?_
  rintro w1 ⟨hb1, hO1, hbel1⟩
  have HRs := Lib.hid hb1
  have HO1 := Lib.hid hO1
  have HBel := Lib.hid hbel1
  clear hb1 hO1 hbel1
  go_wp2
  go_loopw [6] (fun i wr => ∃ (j : Nat) (v : Value), j ≤ N ∧ i = .int .i64 j ∧ Hid (Out w1 wr (w.heap.size + 1) R C v (tab j fun _ => blankV))) (fun i _ => N - (intOf i).toNat)
  case atStart => exact ⟨0, _, Nat.zero_le _, rfl, HO1⟩
  case round =>
    obtain ⟨j, vv, hj, rfl, hM⟩ := hrel
    by_cases hlt : j < N
    · have hlt2 : (j : Int) < (N : Int) := by omega
      obtain ⟨l, hl⟩ : ∃ l, Hid (tab j (fun _ => blankV) = l) := ⟨_, rfl⟩
      have HLEN : Hid (l.length ≤ 1099511627776) := by show _ ≤ _; rw [← hl.out, length_tab]; omega
      rw [hl.out] at hM
      have HO : Hid (Out w1 wr.drew (w.heap.size + 1) R C vv l) := hM.out.drew
      clear hM
      go_upto_region 5 with (fail)
      refine wp_region_any (by kernel_rfl) ?_
      change wpAny _ _ _ _ _ _ _ (World.drew _)
      refine wpAny_relyG (g := 3) [(0, 17), (1, 18), (2, 19), (3, 20)] (condAt [fun v _ => v = .pointer (some ⟨w.heap.size + 1, 2, none⟩), fun v _ => v = vv, fun v _ => v = .agg #[.int .i32 32, .int .i64 0, .int .i64 0, .int .i64 0], fun v W => ∃ yy, v = .slice (some ⟨yy, 0, none⟩) 1 1 ∧ Blk W yy 38 (cellV blankV)]) [] (by kernel_rfl) rfl (condAt_keep (stable_cons (stable_eq _) (stable_cons (stable_eq _) (stable_cons (stable_eq _) (stable_cons stable_blk1 stable_nil))))) ?hstep ?hend
      case hstep =>
        intro p hp o ho x W hbel hdep K hK
        have d2 : W.cell? ⟨w.heap.size + 1, 2, none⟩ = some vv := (HO.out.below hbel).box.cell 2
        simp only [List.mem_cons, List.not_mem_nil, or_false] at hp
        rcases hp with rfl | rfl | rfl | rfl
        · cases Option.some.inj ho
          simp only [frm, List.foldl_cons, List.foldl_nil, Act.put, List.setIfInBounds_toArray, List.set_cons_zero, List.set_cons_succ] at hK ⊢
          clear hdep ho
          rw [if_pos (by rfl)]
          go_simp
          exact hK _ _ rfl (Below.refl _ _) (by simp)
        · cases Option.some.inj ho
          have d0 : x 0 = .pointer (some ⟨w.heap.size + 1, 2, none⟩) := hdep ⟨0, .data⟩ (by simp) rfl rfl
          simp only [frm, List.foldl_cons, List.foldl_nil, Act.put, List.setIfInBounds_toArray, List.set_cons_zero, List.set_cons_succ] at hK ⊢
          clear hdep ho
          rw [d0] at hK ⊢
          clear d0
          rw [if_pos (by rfl)]
          go_simp
          exact hK _ _ rfl (Below.refl _ _) (by simp)
        · cases Option.some.inj ho
          simp only [frm, List.foldl_cons, List.foldl_nil, Act.put, List.setIfInBounds_toArray, List.set_cons_zero, List.set_cons_succ] at hK ⊢
          clear hdep ho
          rw [if_pos (by rfl)]
          go_simp
          refine (refBlank_c W).mono ?_
          rintro e w' ⟨rfl, hb⟩
          exact hK _ _ rfl hb (by simp)
        · cases Option.some.inj ho
          have d2 : x 2 = .agg #[.int .i32 32, .int .i64 0, .int .i64 0, .int .i64 0] := hdep ⟨2, .data⟩ (by simp) rfl rfl
          simp only [frm, List.foldl_cons, List.foldl_nil, Act.put, List.setIfInBounds_toArray, List.set_cons_zero, List.set_cons_succ] at hK ⊢
          clear hdep ho
          rw [d2] at hK ⊢
          clear d2
          rw [if_pos (by rfl)]
          go_simp
          exact hK _ _ ⟨_, rfl, Blk.new W _ (cellV blankV)⟩ (alloc_below' _ _) (by simp)
      case hend =>
        intro x W hbel hall _
        have d1 : x 1 = vv := hall (1, 18) (by simp)
        obtain ⟨yy, d3, hyy⟩ : ∃ yy, (x 3) = .slice (some ⟨yy, 0, none⟩) 1 1 ∧ Blk W yy 38 (cellV blankV) := hall (3, 20) (by simp)
        simp only [frm, List.foldl_cons, List.foldl_nil, Act.put, List.setIfInBounds_toArray, List.set_cons_zero, List.set_cons_succ]
        rw [d1, d3]
        clear hall d1 d3
        generalize x 0 = z0
        generalize x 2 = z2
        have hO := HO.out.below hbel
        have hown := hO.own
        obtain ⟨len, hlenE⟩ : ∃ len, Hid (l.length = len) := ⟨_, Lib.hid rfl⟩
        rw [hlenE.out] at hown
        have hlenB : len ≤ 1099511627776 := by rw [← hlenE.out]; exact HLEN.out
        refine wpAny_ready (rs := [4]) (by kernel_rfl) (by simp) (AllReady.cons (o := ⟨some 21, .call { callee := .builtin .append, args := #[.tmp 18, .tmp 20], argTypes := #[29, 29] }, _, _, _, _⟩) rfl (fun K hK => ?_) AllReady.nil)
        refine step_app1 length_cellV one_cellV (by decide) rfl (.tmp 18) (.tmp 20) 29 rfl (w.heap.size + 1 + 1) 38 i0 _ 32 Try.underlying29 hi hz0 hz1 hz2 rfl vv len l rfl hown blankV yy _ rfl hyy (by unfold maxLen; omega) (by omega) (by have := hO.box.lt; omega) ?_
        intro A1 c1 w4 ho4 hg4 _
        obtain ⟨s2, f2⟩ := hO.spot hg4
        rw [← hlenE.out] at ho4
        have HO4 := Lib.hid (hO.push ho4 hg4)
        rw [hlenE.out] at HO4
        refine hK _ _ ?_
        clear hK K hyy hown ho4 hg4 hO hbel
        simp only [Act.put, List.setIfInBounds_toArray, List.set_cons_zero, List.set_cons_succ]
        refine wpAny_take (i := 5) (oi := ⟨some 22, .fieldAddr 31 (.tmp 5) 2, _, _, _, _⟩) (v := ?_) rfl (by kernel_rfl) (by kernel_rfl) (by kernel_rfl) (fun _ _ _ h => h) (Or.inl ⟨by rfl, ?_⟩) ?_
        rotate_left
        · intro W; go_simp; try with_reducible rfl
        simp only [Act.put, List.setIfInBounds_toArray, List.set_cons_zero, List.set_cons_succ]
        refine wpAny_ready (rs := [6]) (by kernel_rfl) (by simp) (AllReady.cons (o := ⟨none, .store 29 (.tmp 22) (.tmp 21), _, _, _, _⟩) rfl (fun K hK => ?_) AllReady.nil)
        go_simp
        refine hK _ _ ?_
        clear hK K s2 f2
        refine wpAny_done (by kernel_rfl) ?_ _
        go_wp2
        go_roundw
        case rel =>
          refine ⟨j + 1, .slice A1 (len + 1) c1, by omega, by go_num, ?_⟩
          show Out _ _ _ _ _ _ _
          rw [tab_succ, hl.out]
          exact HO4.out
        case measure => simp [intOf]; omega
    · obtain rfl : j = N := by omega
      have HFin := hM
      clear hM
      obtain ⟨A1, k1, rfl, hrd, hA1⟩ := HFin.out.form
      have HRD := Lib.hid hrd
      have HA1 := Lib.hid hA1
      clear hrd hA1
      have hbx : Blk wr (w.heap.size + 1) 31 (gridV R C A1 j k1) := HFin.out.box
      have hbr := HFin.out.old HRs.out (by omega)
      go_upto_region 6 with (fail)
      refine wp_region_lit ?_
      refine wpList_load_at rfl 31 (.tmp 5) rfl ⟨w.heap.size + 1, 0, none⟩ rfl _ _ hbx.all Try.underlying31 rfl sizeG ?_
      refine wpList_store_at rfl rfl 31 (.tmp 4) (.tmp 23) rfl (w.heap.size) 0 rfl _ rfl _ _ hbr (Nat.le_refl 3) (one_gridV _ _ _ _ _) sizeG ?_
      intro w4 hb5 hg5
      rw [splice_all _ _ (by rfl)] at hb5
      have HB5 := Lib.hid hb5
      have HG5 := Lib.hid hg5
      clear hb5 hg5 hbx hbr
      go_wp2
      refine bodyPost_ret (v := .agg (gridV R C A1 j k1).toArray) ?_ rfl ?_
      · exact results_cell_row rfl _ _ (w.heap.size) _ _ _ _ rfl HB5.out Try.underlying31 rfl (by kernel_rfl)
      · exact ⟨A1, k1, rfl, HFin.out.fin HRD.out HA1.out HBel.out (by omega) (by omega) HG5.out⟩
/-- What the reference lays at place i of a grid of C columns that was resized. -/
def sizedF (R0 C0 C : Nat) (f : Nat → CellV) : Nat → CellV := fun i => atG R0 C0 f ((i / C : Nat) : Int) ((i % C : Nat) : Int) blankV
set_option maxRecDepth 100000 in
set_option maxHeartbeats 3200000 in
theorem refResize_c (R0 C0 : Nat) (A : Option Addr) (n k : Nat) (f : Nat → CellV) (R C N : Nat) (w : World) (hr : ReadsS cellV 4 w A n k (tab n f)) (hn : n = R0 * C0) (hR0 : R0 ≤ 60) (hC0 : C0 ≤ 132) (hN : R * C = N) (hR : R ≤ 60) (hC : C ≤ 132) (hC1 : 1 ≤ C) :
    Calls Try.prog 37 #[.agg (gridV R0 C0 A n k).toArray, .int .i64 R, .int .i64 C] w (RefPost w R C N (sizedF R0 C0 C f)) := by
  obtain ⟨i0, hi, hz0, hz1, hz2⟩ := info_parts infoC
  have hnb : N ≤ 60 * 132 := by rw [← hN]; exact Nat.mul_le_mul hR hC
  have e1 : IntKind.i64.wrap ((R : Int) * (C : Int)) = (N : Int) := by rw [← Int.natCast_mul, hN, IntKind.wrap_i64]; omega
  have HR := Lib.hid hr
  have HN := Lib.hid hn
  have hCn : ¬ C = 0 := by omega
  have hCp : (0 : Int) < (C : Int) := by omega
  clear hN hr hn
  simp only [gridV_list]
  go_enter Try.func37, Try.ntmps37
  go_upto_region 2 with (fail)
  refine name_wp (fun w1 => Blk w1 w.heap.size 31 (gridV R0 C0 A n k) ∧ Blk w1 (w.heap.size + 1) 31 (gridV 0 0 none 0 0) ∧ Out w1 w1 (w.heap.size + 1 + 1) R C (.slice none 0 0) [] ∧ Below w.heap.size w w1) ⟨((Blk.new _ _ _).alloc _).alloc _, (newAt _ _ (by simp)).alloc _, ⟨Below.refl _ _, newAt _ [.int .i64 R, .int .i64 C, .slice none 0 0] (by simp), World.ownsRow_nil _ _ _ _⟩, ((alloc_below' _ _).alloc (by simp) _).alloc (by simp; omega) _⟩ ?_
  rintro w1 ⟨hb0, hb2, hO1, hbel1⟩
  have HG := Lib.hid hb0
  have HRs := Lib.hid hb2
  have HO1 := Lib.hid hO1
  have HBel := Lib.hid hbel1
  have hzlt := hO1.box.lt
  clear hb0 hb2 hO1 hbel1
  go_wp2
  go_loopw [8] (fun i wr => ∃ (j : Nat) (v : Value), j ≤ N ∧ i = .int .i64 j ∧ Hid (Out w1 wr (w.heap.size + 1 + 1) R C v (tab j (sizedF R0 C0 C f)))) (fun i _ => N - (intOf i).toNat)
  case atStart => exact ⟨0, _, Nat.zero_le _, rfl, HO1⟩
  case round =>
    obtain ⟨j, vv, hj, rfl, hM⟩ := hrel
    by_cases hlt : j < N
    · have hlt2 : (j : Int) < (N : Int) := by omega
      obtain ⟨l, hl⟩ : ∃ l, Hid (tab j (sizedF R0 C0 C f) = l) := ⟨_, rfl⟩
      have HLEN : Hid (l.length ≤ 1099511627776) := by show _ ≤ _; rw [← hl.out, length_tab]; omega
      rw [hl.out] at hM
      have HO : Hid (Out w1 wr.drew (w.heap.size + 1 + 1) R C vv l) := hM.out.drew
      clear hM
      obtain ⟨q, hq⟩ : ∃ q, Hid (j / C = q) := ⟨_, Lib.hid rfl⟩
      obtain ⟨m, hm⟩ : ∃ m, Hid (j % C = m) := ⟨_, Lib.hid rfl⟩
      have q1 : (j : Int).tdiv (C : Int) = (q : Int) := by rw [Int.tdiv_eq_ediv_of_nonneg (by omega), ← hq.out]; rfl
      have q2 : (j : Int) / (C : Int) = (q : Int) := by rw [← hq.out]; rfl
      have m1 : (j : Int).tmod (C : Int) = (m : Int) := by rw [Int.tmod_eq_emod_of_nonneg (by omega), ← hm.out]; rfl
      have m2 : (j : Int) % (C : Int) = (m : Int) := by rw [← hm.out]; rfl
      obtain ⟨X, HX⟩ : ∃ X, Hid (atG R0 C0 f q m blankV = X) := ⟨_, rfl⟩
      have HXF : Hid (sizedF R0 C0 C f j = X) := by show _ = _; rw [sizedF, hq.out, hm.out, HX.out]
      have e3 : IntKind.i64.wrap (q : Int) = (q : Int) := by rw [IntKind.wrap_i64]; have : q ≤ j := by rw [← hq.out]; exact Nat.div_le_self _ _
                                                             omega
      go_upto_region 5 with (fail)
      refine wp_region_any (by kernel_rfl) ?_
      change wpAny _ _ _ _ _ _ _ (World.drew _)
      refine wpAny_take (i := 3) (oi := ⟨some 22, .move (.tmp 8), _, _, _, _⟩) (v := ?_) rfl (by kernel_rfl) (by kernel_rfl) (by kernel_rfl) (fun _ _ _ h => h) (Or.inl ⟨by rfl, ?_⟩) ?_
      rotate_left
      · intro W; go_simp; try with_reducible rfl
      simp only [Act.put, List.setIfInBounds_toArray, List.set_cons_zero, List.set_cons_succ]
      refine wpAny_take (i := 4) (oi := ⟨some 23, .move (.tmp 2), _, _, _, _⟩) (v := ?_) rfl (by kernel_rfl) (by kernel_rfl) (by kernel_rfl) (fun _ _ _ h => h) (Or.inl ⟨by rfl, ?_⟩) ?_
      rotate_left
      · intro W; go_simp; try with_reducible rfl
      simp only [Act.put, List.setIfInBounds_toArray, List.set_cons_zero, List.set_cons_succ]
      refine wpAny_take (i := 5) (oi := ⟨some 24, .binOp .quo 3 (.tmp 22) (.tmp 23) 3, _, _, _, _⟩) (v := ?_) rfl (by kernel_rfl) (by kernel_rfl) (by kernel_rfl) (fun _ _ _ h => h) (Or.inl ⟨by rfl, ?_⟩) ?_
      rotate_left
      · intro W; go_simp; try with_reducible rfl
      simp only [Act.put, List.setIfInBounds_toArray, List.set_cons_zero, List.set_cons_succ]
      refine wpAny_take (i := 6) (oi := ⟨some 25, .move (.tmp 8), _, _, _, _⟩) (v := ?_) rfl (by kernel_rfl) (by kernel_rfl) (by kernel_rfl) (fun _ _ _ h => h) (Or.inl ⟨by rfl, ?_⟩) ?_
      rotate_left
      · intro W; go_simp; try with_reducible rfl
      simp only [Act.put, List.setIfInBounds_toArray, List.set_cons_zero, List.set_cons_succ]
      refine wpAny_take (i := 7) (oi := ⟨some 26, .move (.tmp 2), _, _, _, _⟩) (v := ?_) rfl (by kernel_rfl) (by kernel_rfl) (by kernel_rfl) (fun _ _ _ h => h) (Or.inl ⟨by rfl, ?_⟩) ?_
      rotate_left
      · intro W; go_simp; try with_reducible rfl
      simp only [Act.put, List.setIfInBounds_toArray, List.set_cons_zero, List.set_cons_succ]
      refine wpAny_take (i := 8) (oi := ⟨some 27, .binOp .rem 3 (.tmp 25) (.tmp 26) 3, _, _, _, _⟩) (v := ?_) rfl (by kernel_rfl) (by kernel_rfl) (by kernel_rfl) (fun _ _ _ h => h) (Or.inl ⟨by rfl, ?_⟩) ?_
      rotate_left
      · intro W; go_simp; try with_reducible rfl
      simp only [Act.put, List.setIfInBounds_toArray, List.set_cons_zero, List.set_cons_succ]
      refine wpAny_relyG (g := 3) [(0, 19), (1, 20), (2, 21), (9, 28), (10, 29), (11, 30)] (condAt [fun v _ => v = .pointer (some ⟨w.heap.size + 1 + 1, 2, none⟩), fun v _ => v = vv, fun v _ => v = .agg (gridV R0 C0 A n k).toArray, fun v _ => v = .int .i64 j, fun v _ => v = .int .i64 C, fun v _ => v = .int .i64 q, fun v _ => v = .int .i64 j, fun v _ => v = .int .i64 C, fun v _ => v = .int .i64 m, fun v _ => v = .agg (cellV blankV).toArray, fun v _ => v = .agg #[.int .i32 X.1, .int .i64 X.2.1, .int .i64 X.2.2.1, .int .i64 X.2.2.2], fun v W => ∃ yy, v = .slice (some ⟨yy, 0, none⟩) 1 1 ∧ Blk W yy 38 (cellV X)]) [] (by kernel_rfl) rfl (condAt_keep (stable_cons (stable_eq _) (stable_cons (stable_eq _) (stable_cons (stable_eq _) (stable_cons (stable_eq _) (stable_cons (stable_eq _) (stable_cons (stable_eq _) (stable_cons (stable_eq _) (stable_cons (stable_eq _) (stable_cons (stable_eq _) (stable_cons (stable_eq _) (stable_cons (stable_eq _) (stable_cons stable_blk1 stable_nil))))))))))))) ?hstep ?hend
      case hstep =>
        intro p hp o ho x W hbel hdep K hK
        have d2 : W.cell? ⟨w.heap.size + 1 + 1, 2, none⟩ = some vv := (HO.out.below hbel).box.cell 2
        simp only [List.mem_cons, List.not_mem_nil, or_false] at hp
        rcases hp with rfl | rfl | rfl | rfl | rfl | rfl
        · cases Option.some.inj ho
          simp only [frm, List.foldl_cons, List.foldl_nil, Act.put, List.setIfInBounds_toArray, List.set_cons_zero, List.set_cons_succ] at hK ⊢
          clear hdep ho
          rw [if_pos (by rfl)]
          go_simp
          exact hK _ _ rfl (Below.refl _ _) (by simp)
        · cases Option.some.inj ho
          have d0 : x 0 = .pointer (some ⟨w.heap.size + 1 + 1, 2, none⟩) := hdep ⟨0, .data⟩ (by simp) rfl rfl
          simp only [frm, List.foldl_cons, List.foldl_nil, Act.put, List.setIfInBounds_toArray, List.set_cons_zero, List.set_cons_succ] at hK ⊢
          clear hdep ho
          rw [d0] at hK ⊢
          clear d0
          rw [if_pos (by rfl)]
          go_simp
          exact hK _ _ rfl (Below.refl _ _) (by simp)
        · cases Option.some.inj ho
          simp only [frm, List.foldl_cons, List.foldl_nil, Act.put, List.setIfInBounds_toArray, List.set_cons_zero, List.set_cons_succ] at hK ⊢
          clear hdep ho
          rw [if_pos (by rfl)]
          exact wp_load_all 31 (.tmp 3) rfl _ rfl _ _ ((HO.out.below hbel).old HG.out (by omega)) _ Try.underlying31 rfl sizeG (hK _ _ rfl (Below.refl _ _) (by simp))
        · cases Option.some.inj ho
          simp only [frm, List.foldl_cons, List.foldl_nil, Act.put, List.setIfInBounds_toArray, List.set_cons_zero, List.set_cons_succ] at hK ⊢
          clear hdep ho
          rw [if_pos (by rfl)]
          go_simp
          refine (refBlank_c W).mono ?_
          rintro e w' ⟨rfl, hb⟩
          exact hK _ _ rfl hb (by simp)
        · cases Option.some.inj ho
          have d2 : x 2 = .agg (gridV R0 C0 A n k).toArray := hdep ⟨2, .data⟩ (by simp) rfl rfl
          have d9 : x 9 = .agg (cellV blankV).toArray := hdep ⟨9, .data⟩ (by simp) rfl rfl
          simp only [frm, List.foldl_cons, List.foldl_nil, Act.put, List.setIfInBounds_toArray, List.set_cons_zero, List.set_cons_succ] at hK ⊢
          clear hdep ho
          rw [d2, d9] at hK ⊢
          clear d2 d9
          rw [if_pos (by rfl)]
          go_simp
          refine (refAt_c R0 C0 A n k f (q) (m) blankV W ((HO.out.below hbel).reads HBel.out (by omega) HR.out) HN.out hR0 hC0).mono ?_
          rw [HX.out]
          rintro e w' ⟨rfl, hb⟩
          exact hK _ _ rfl hb (by simp)
        · cases Option.some.inj ho
          have d10 : x 10 = .agg #[.int .i32 X.1, .int .i64 X.2.1, .int .i64 X.2.2.1, .int .i64 X.2.2.2] := hdep ⟨10, .data⟩ (by simp) rfl rfl
          simp only [frm, List.foldl_cons, List.foldl_nil, Act.put, List.setIfInBounds_toArray, List.set_cons_zero, List.set_cons_succ] at hK ⊢
          clear hdep ho
          rw [d10] at hK ⊢
          clear d10
          rw [if_pos (by rfl)]
          go_simp
          exact hK _ _ ⟨_, rfl, Blk.new W _ (cellV X)⟩ (alloc_below' _ _) (by simp)
      case hend =>
        intro x W hbel hall _
        have d1 : x 1 = vv := hall (1, 20) (by simp)
        obtain ⟨yy, d11, hyy⟩ : ∃ yy, (x 11) = .slice (some ⟨yy, 0, none⟩) 1 1 ∧ Blk W yy 38 (cellV X) := hall (11, 30) (by simp)
        simp only [frm, List.foldl_cons, List.foldl_nil, Act.put, List.setIfInBounds_toArray, List.set_cons_zero, List.set_cons_succ]
        rw [d1, d11]
        clear hall d1 d11
        generalize x 0 = z0
        generalize x 2 = z2
        generalize x 9 = z9
        generalize x 10 = z10
        have hO := HO.out.below hbel
        have hown := hO.own
        obtain ⟨len, hlenE⟩ : ∃ len, Hid (l.length = len) := ⟨_, Lib.hid rfl⟩
        rw [hlenE.out] at hown
        have hlenB : len ≤ 1099511627776 := by rw [← hlenE.out]; exact HLEN.out
        refine wpAny_ready (rs := [12]) (by kernel_rfl) (by simp) (AllReady.cons (o := ⟨some 31, .call { callee := .builtin .append, args := #[.tmp 20, .tmp 30], argTypes := #[29, 29] }, _, _, _, _⟩) rfl (fun K hK => ?_) AllReady.nil)
        refine step_app1 length_cellV one_cellV (by decide) rfl (.tmp 20) (.tmp 30) 29 rfl (w.heap.size + 1 + 1 + 1) 38 i0 _ 32 Try.underlying29 hi hz0 hz1 hz2 rfl vv len l rfl hown X yy _ rfl hyy (by unfold maxLen; omega) (by omega) (by have := hO.box.lt; omega) ?_
        intro A1 c1 w4 ho4 hg4 _
        obtain ⟨s2, f2⟩ := hO.spot hg4
        rw [← hlenE.out] at ho4
        have HO4 := Lib.hid (hO.push ho4 hg4)
        rw [hlenE.out] at HO4
        refine hK _ _ ?_
        clear hK K hyy hown ho4 hg4 hO hbel
        simp only [Act.put, List.setIfInBounds_toArray, List.set_cons_zero, List.set_cons_succ]
        refine wpAny_take (i := 13) (oi := ⟨some 32, .fieldAddr 31 (.tmp 7) 2, _, _, _, _⟩) (v := ?_) rfl (by kernel_rfl) (by kernel_rfl) (by kernel_rfl) (fun _ _ _ h => h) (Or.inl ⟨by rfl, ?_⟩) ?_
        rotate_left
        · intro W; go_simp; try with_reducible rfl
        simp only [Act.put, List.setIfInBounds_toArray, List.set_cons_zero, List.set_cons_succ]
        refine wpAny_ready (rs := [14]) (by kernel_rfl) (by simp) (AllReady.cons (o := ⟨none, .store 29 (.tmp 32) (.tmp 31), _, _, _, _⟩) rfl (fun K hK => ?_) AllReady.nil)
        go_simp
        refine hK _ _ ?_
        clear hK K s2 f2
        refine wpAny_done (by kernel_rfl) ?_ _
        go_wp2
        go_roundw
        case rel =>
          refine ⟨j + 1, .slice A1 (len + 1) c1, by omega, by go_num, ?_⟩
          show Out _ _ _ _ _ _ _
          rw [tab_succ, HXF.out, hl.out]
          exact HO4.out
        case measure => simp [intOf]; omega
    · obtain rfl : j = N := by omega
      have HFin := hM
      clear hM
      obtain ⟨A1, k1, rfl, hrd, hA1⟩ := HFin.out.form
      have HRD := Lib.hid hrd
      have HA1 := Lib.hid hA1
      clear hrd hA1
      have hbx : Blk wr (w.heap.size + 1 + 1) 31 (gridV R C A1 j k1) := HFin.out.box
      have hbr := HFin.out.old HRs.out (by omega)
      go_upto_region 6 with (fail)
      refine wp_region_lit ?_
      refine wpList_load_at rfl 31 (.tmp 7) rfl ⟨w.heap.size + 1 + 1, 0, none⟩ rfl _ _ hbx.all Try.underlying31 rfl sizeG ?_
      refine wpList_store_at rfl rfl 31 (.tmp 6) (.tmp 33) rfl (w.heap.size + 1) 0 rfl _ rfl _ _ hbr (Nat.le_refl 3) (one_gridV _ _ _ _ _) sizeG ?_
      intro w4 hb5 hg5
      rw [splice_all _ _ (by rfl)] at hb5
      have HB5 := Lib.hid hb5
      have HG5 := Lib.hid hg5
      clear hb5 hg5 hbx hbr
      go_wp2
      refine bodyPost_ret (v := .agg (gridV R C A1 j k1).toArray) ?_ rfl ?_
      · exact results_cell_row rfl _ _ (w.heap.size + 1) _ _ _ _ rfl HB5.out Try.underlying31 rfl (by kernel_rfl)
      · exact ⟨A1, k1, rfl, HFin.out.fin HRD.out HA1.out HBel.out (by omega) (by omega) HG5.out⟩
end Go.Proofs.Ytgmfmhlboehdoaa
