/- What the reference's Put of package grid returns, as a walk through the translated text. Conditions: slices read as lists of cells, grids of at most 60 rows and 132 columns. -/
import Derived.Test.YtgmfmhlboehdoaaGridR7
namespace Go.Proofs.Ytgmfmhlboehdoaa
open Go.ChangeShapes Go.WideShapes Go.RowKit
theorem stable_empty : Stable (fun v W => ∃ y, v = .slice (some ⟨y, 0, none⟩) 0 0 ∧ Blk W y 38 []) := by
  rintro v w w' ⟨y, e, h⟩ hb
  exact ⟨y, e, h.below hb h.lt⟩
theorem NewRow.keep {w W W' : World} {g cap n : Nat} {f : Nat → CellV} (h : NewRow w W g cap n f) (hb : Below W.heap.size W W') : NewRow w W' g cap n f :=
  ⟨h.new, h.room, h.cap, h.row.below hb, h.bel.trans (hb.mono h.bel.size)⟩
theorem NewRow.from_ {w W W' : World} {g cap n : Nat} {f : Nat → CellV} (h : NewRow W W' g cap n f) (hb : Below w.heap.size w W) : NewRow w W' g cap n f :=
  ⟨Nat.le_trans hb.size h.new, h.room, h.cap, h.row, hb.trans (h.bel.mono hb.size)⟩
theorem stable_row7 {w : World} {n : Nat} {f : Nat → CellV} : Stable (fun v W => ∃ g cap, v = .slice (some ⟨g, 0, none⟩) n cap ∧ NewRow w W g cap n f) := by
  rintro v w1 w' ⟨g, cap, e, h⟩ hb
  exact ⟨g, cap, e, h.keep hb⟩
theorem stable_row8 {w : World} {R C n : Nat} {f : Nat → CellV} : Stable (fun v W => ∃ g cap, v = .agg (gridV R C (some ⟨g, 0, none⟩) n cap).toArray ∧ NewRow w W g cap n f) := by
  rintro v w1 w' ⟨g, cap, e, h⟩ hb
  exact ⟨g, cap, e, h.keep hb⟩
theorem stable_ptr9 {w : World} : Stable (fun v W => ∃ y, v = .pointer (some ⟨y, 0, none⟩) ∧ Blk W y 31 (gridV 0 0 none 0 0) ∧ w.heap.size ≤ y) := by
  rintro v w1 w' ⟨y, e, h, hn⟩ hb
  exact ⟨y, e, h.below hb h.lt, hn⟩
/-- append of some cells onto an empty slice without room: new memory, and nothing else. -/
theorem run_fresh (W : World) (ad : Addr) (n k : Nat) (f : Nat → CellV) (y : Nat) (hy : Blk W y 38 []) (hr : ReadsS cellV 4 W (some ad) n k (tab n f)) (h1 : 1 ≤ n) (hn : n ≤ 1099511627776) :
    ∃ cap w', (Builtin.append_ #[29, 29] 29 #[.slice (some ⟨y, 0, none⟩) 0 0, .slice (some ad) n k]).run Try.prog W = .ok (.slice (some ⟨W.heap.size, 0, none⟩) n cap) w' ∧ NewRow W w' W.heap.size cap n f := by
  obtain ⟨i0, hi, hz0, hz1, hz2⟩ := info_parts infoC
  have hl : ((tab n f).flatMap cellV).length = n * 4 := by rw [length_flatF length_cellV, length_tab]
  have hown : W.ownsRow 0 38 4 (.slice (some ⟨y, 0, none⟩) 0 0) 0 [] := ⟨rfl, .inr ⟨y, 0, #[], rfl, Nat.zero_le _, hy, Nat.le_refl _, by decide, rfl, rfl⟩⟩
  obtain ⟨v', w', hrun, h2, _⟩ := run_append_own_at (P := Try.prog) W 0 29 29 38 i0 _ 4 32 Try.underlying29 hi hz0 hz1 hz2 rfl (by decide) _ 0 [] hown ad n k _ hl hr.src (flatF_one one_cellV _) (by unfold maxLen; omega) (by omega) (Nat.zero_le _)
  have hg := run_append_grow (P := Try.prog) W 29 29 38 i0 _ Try.underlying29 hi hz0 ⟨y, 0, none⟩ 0 0 [] (by simp) (by simp) ad n k _ (by rw [hz1]; exact hl) hr.src (by omega) (by omega) (growslice_fits (by omega) (by rw [hz2]; omega))
  rw [Nat.zero_add] at hg h2
  rw [List.nil_append] at h2
  have e := hrun.symm.trans hg
  injection e with e1 e2
  subst e1 e2
  obtain ⟨g, cap, eg, _, h3, h4, h5⟩ := row_of_own h2 h1
  injection eg with eg1 eg2 eg3
  injection eg1 with eg1
  injection eg1 with eg1
  subst eg1 eg3
  refine ⟨_, _, hg, Nat.le_refl _, h3, h4, h5, ?_⟩
  exact (Below.refl _ _).drew.alloc (Nat.le_refl _) _
theorem step_fresh {o : Oper} {a : Act} {K : Act → World → Prop} {Q : Exit → Act → World → Prop} (_ : o.guard = none) (s x : Operand) (ho : o.op = .call { callee := .builtin .append, args := #[s, x], argTypes := #[29, 29] }) (hty : o.type = 29)
    (W : World) (ad : Addr) (n k : Nat) (f : Nat → CellV) (y : Nat) (hs : a.eval s = .slice (some ⟨y, 0, none⟩) 0 0) (hx : a.eval x = .slice (some ad) n k) (hy : Blk W y 38 []) (hr : ReadsS cellV 4 W (some ad) n k (tab n f)) (h1 : 1 ≤ n) (hn : n ≤ 1099511627776)
    (h : ∀ cap w', NewRow W w' W.heap.size cap n f → K (a.put o.dst (.slice (some ⟨W.heap.size, 0, none⟩) n cap)) w') : Oper.wp Try.prog o a W K Q := by
  obtain ⟨cap, w', hrun, hnr⟩ := run_fresh W ad n k f y hy hr h1 hn
  have := h cap w' hnr
  unfold Oper.wp execOp
  simp only [ho, hty, resolve, invoke, builtin, Sem.run_bind, Sem.run_pure, Result.andThen_ok, List.map_toArray, List.map_cons, List.map_nil, hs, hx, hrun]
  exact this
set_option maxRecDepth 100000 in
set_option maxHeartbeats 3200000 in
theorem refPut_c (R C : Nat) (A : Option Addr) (n k : Nat) (f : Nat → CellV) (q p : Nat) (y : CellV) (w : World) (hr : ReadsS cellV 4 w A n k (tab n f)) (hn : n = R * C) (hR : R ≤ 60) (hC : C ≤ 132) (hq : q < R) (hp : p < C) :
    Calls Try.prog 31 #[.agg (gridV R C A n k).toArray, .int .i64 q, .int .i64 p, .agg (cellV y).toArray] w (RefPost w R C n (putF C q p y f)) := by
  have hnb : n ≤ 60 * 132 := by rw [hn]; exact Nat.mul_le_mul hR hC
  have hqp : q * C + p < n := by rw [hn]; exact place_lt hq hp
  obtain ⟨Q, hQ⟩ : ∃ Q, Hid (q * C = Q) := ⟨_, Lib.hid rfl⟩
  rw [hQ.out] at hqp
  have hn1 : 1 ≤ n := by omega
  obtain ⟨ad, rfl, hadlt⟩ := hr.pos hn1
  have HR := Lib.hid hr
  have HN := Lib.hid hn
  clear hr hn
  simp only [gridV_list, cellV]
  go_enter Try.func31, Try.ntmps31
  go_upto_region 1 with (fail)
  refine name_wp (fun w1 => Blk w1 w.heap.size 31 (gridV R C (some ad) n k) ∧ Blk w1 (w.heap.size + 1) 38 (cellV y) ∧ Blk w1 (w.heap.size + 1 + 1) 31 (gridV 0 0 none 0 0) ∧ Below w.heap.size w w1) ⟨((Blk.new _ _ _).alloc _).alloc _, (newAt _ _ (by simp)).alloc _, newAt _ _ (by simp), ((alloc_below' _ _).alloc (by simp) _).alloc (by simp; omega) _⟩ ?_
  rintro w1 ⟨hb1, hb2, hb3, hbel1⟩
  have HG0 : Hid (Blk w1.drew w.heap.size 31 (gridV R C (some ad) n k)) := hb1.drew
  have HY0 : Hid (Blk w1.drew (w.heap.size + 1) 38 (cellV y)) := hb2.drew
  have HR0 : Hid (Blk w1.drew (w.heap.size + 1 + 1) 31 (gridV 0 0 none 0 0)) := hb3.drew
  have HBW : Hid (Below w.heap.size w w1.drew) := hbel1.drew
  have HRD : Hid (ReadsS cellV 4 w1.drew (some ad) n k (tab n f)) := HR.out.keep HBW.out
  have hz3 : w.heap.size + 1 + 1 < w1.drew.heap.size := hb3.drew.lt
  clear hb1 hb2 hb3 hbel1
  refine wp_region_any (by kernel_rfl) ?_
  change wpAny _ _ _ _ _ _ _ (World.drew _)
  refine wpAny_relyG (g := 1) [(0, 10), (1, 11), (2, 12), (3, 13), (4, 14), (5, 15), (6, 16), (7, 17), (8, 18), (9, 9)] (condAt [fun v _ => v = .pointer (some ⟨w.heap.size, 0, none⟩), fun v _ => v = .int .i64 R, fun v _ => v = .pointer (some ⟨w.heap.size, 1, none⟩), fun v _ => v = .int .i64 C, fun v W => ∃ y, v = .slice (some ⟨y, 0, none⟩) 0 0 ∧ Blk W y 38 [], fun v _ => v = .pointer (some ⟨w.heap.size, 2, none⟩), fun v _ => v = .slice (some ad) n k, fun v W => ∃ g cap, v = .slice (some ⟨g, 0, none⟩) n cap ∧ NewRow w1.drew W g cap n f, fun v W => ∃ g cap, v = .agg (gridV R C (some ⟨g, 0, none⟩) n cap).toArray ∧ NewRow w1.drew W g cap n f, fun v W => ∃ y, v = .pointer (some ⟨y, 0, none⟩) ∧ Blk W y 31 (gridV 0 0 none 0 0) ∧ w1.drew.heap.size ≤ y]) [] (by kernel_rfl) rfl (condAt_keep (stable_cons (stable_eq _) (stable_cons (stable_eq _) (stable_cons (stable_eq _) (stable_cons (stable_eq _) (stable_cons stable_empty (stable_cons (stable_eq _) (stable_cons (stable_eq _) (stable_cons stable_row7 (stable_cons stable_row8 (stable_cons stable_ptr9 stable_nil))))))))))) ?hstep ?hend
  case hstep =>
    intro p hp o ho x W hbel hdep K hK
    obtain ⟨c0, c1, c2⟩ := boxG (HG0.out.below hbel HG0.out.lt)
    simp only [List.mem_cons, List.not_mem_nil, or_false] at hp
    rcases hp with rfl | rfl | rfl | rfl | rfl | rfl | rfl | rfl | rfl | rfl
    · cases Option.some.inj ho
      simp only [frm, List.foldl_cons, List.foldl_nil, Act.put, List.setIfInBounds_toArray, List.set_cons_zero, List.set_cons_succ] at hK ⊢
      clear hdep ho
      rw [if_pos (by rfl)]
      go_simp
      exact hK _ _ rfl (Below.refl _ _) (by simp)
    · cases Option.some.inj ho
      have d0 : x 0 = .pointer (some ⟨w.heap.size, 0, none⟩) := hdep ⟨0, .data⟩ (by simp) rfl rfl
      simp only [frm, List.foldl_cons, List.foldl_nil, Act.put, List.setIfInBounds_toArray, List.set_cons_zero, List.set_cons_succ] at hK ⊢
      clear hdep ho
      rw [d0] at hK ⊢
      clear d0
      rw [if_pos (by rfl)]
      go_simp
      exact hK _ _ rfl (Below.refl _ _) (by simp)
    · cases Option.some.inj ho
      simp only [frm, List.foldl_cons, List.foldl_nil, Act.put, List.setIfInBounds_toArray, List.set_cons_zero, List.set_cons_succ] at hK ⊢
      clear hdep ho
      rw [if_pos (by rfl)]
      go_simp
      exact hK _ _ rfl (Below.refl _ _) (by simp)
    · cases Option.some.inj ho
      have d2 : x 2 = .pointer (some ⟨w.heap.size, 1, none⟩) := hdep ⟨2, .data⟩ (by simp) rfl rfl
      simp only [frm, List.foldl_cons, List.foldl_nil, Act.put, List.setIfInBounds_toArray, List.set_cons_zero, List.set_cons_succ] at hK ⊢
      clear hdep ho
      rw [d2] at hK ⊢
      clear d2
      rw [if_pos (by rfl)]
      go_simp
      exact hK _ _ rfl (Below.refl _ _) (by simp)
    · cases Option.some.inj ho
      simp only [frm, List.foldl_cons, List.foldl_nil, Act.put, List.setIfInBounds_toArray, List.set_cons_zero, List.set_cons_succ] at hK ⊢
      clear hdep ho
      rw [if_pos (by rfl)]
      go_simp
      exact hK _ _ ⟨_, rfl, Blk.new W _ []⟩ (alloc_below' _ _) (by simp)
    · cases Option.some.inj ho
      simp only [frm, List.foldl_cons, List.foldl_nil, Act.put, List.setIfInBounds_toArray, List.set_cons_zero, List.set_cons_succ] at hK ⊢
      clear hdep ho
      rw [if_pos (by rfl)]
      go_simp
      exact hK _ _ rfl (Below.refl _ _) (by simp)
    · cases Option.some.inj ho
      have d5 : x 5 = .pointer (some ⟨w.heap.size, 2, none⟩) := hdep ⟨5, .data⟩ (by simp) rfl rfl
      simp only [frm, List.foldl_cons, List.foldl_nil, Act.put, List.setIfInBounds_toArray, List.set_cons_zero, List.set_cons_succ] at hK ⊢
      clear hdep ho
      rw [d5] at hK ⊢
      clear d5
      rw [if_pos (by rfl)]
      go_simp
      exact hK _ _ rfl (Below.refl _ _) (by simp)
    · cases Option.some.inj ho
      have h4 : ∃ y, (x 4) = .slice (some ⟨y, 0, none⟩) 0 0 ∧ Blk W y 38 [] := hdep ⟨4, .data⟩ (by simp) rfl rfl
      have d6 : x 6 = .slice (some ad) n k := hdep ⟨6, .data⟩ (by simp) rfl rfl
      simp only [frm, List.foldl_cons, List.foldl_nil, Act.put, List.setIfInBounds_toArray, List.set_cons_zero, List.set_cons_succ] at hK ⊢
      clear hdep ho
      rw [d6] at hK ⊢
      clear d6
      rw [if_pos (by rfl)]
      obtain ⟨y0, d4, hy0⟩ := h4
      rw [d4] at hK ⊢
      clear d4
      refine step_fresh rfl (.tmp 14) (.tmp 16) rfl rfl W ad n k f y0 rfl rfl hy0 (HRD.out.keep hbel) hn1 (by omega) ?_
      intro cap w5 hnr
      exact hK _ _ ⟨_, cap, rfl, hnr.from_ hbel⟩ hnr.bel (by simp)
    · cases Option.some.inj ho
      have d1 : x 1 = .int .i64 R := hdep ⟨1, .data⟩ (by simp) rfl rfl
      have d3 : x 3 = .int .i64 C := hdep ⟨3, .data⟩ (by simp) rfl rfl
      have h7 : ∃ g cap, (x 7) = .slice (some ⟨g, 0, none⟩) n cap ∧ NewRow w1.drew W g cap n f := hdep ⟨7, .data⟩ (by simp) rfl rfl
      simp only [frm, List.foldl_cons, List.foldl_nil, Act.put, List.setIfInBounds_toArray, List.set_cons_zero, List.set_cons_succ] at hK ⊢
      clear hdep ho
      rw [d1, d3] at hK ⊢
      clear d1 d3
      rw [if_pos (by rfl)]
      obtain ⟨g, cap, d7, hnr⟩ := h7
      rw [d7] at hK ⊢
      clear d7
      go_simp
      exact hK _ _ ⟨g, cap, rfl, hnr⟩ (Below.refl _ _) (by simp)
    · cases Option.some.inj ho
      simp only [frm, List.foldl_cons, List.foldl_nil, Act.put, List.setIfInBounds_toArray, List.set_cons_zero, List.set_cons_succ] at hK ⊢
      clear hdep ho
      rw [if_pos (by rfl)]
      go_simp
      exact hK _ _ ⟨_, rfl, Blk.new W _ (gridV 0 0 none 0 0), hbel.size⟩ (alloc_below' _ _) (by simp)
  case hend =>
    intro x W hbel hall _
    obtain ⟨g, cap, d8, hnr⟩ : ∃ g cap, (x 8) = .agg (gridV R C (some ⟨g, 0, none⟩) n cap).toArray ∧ NewRow w1.drew W g cap n f := hall (8, 18) (by simp)
    obtain ⟨yy, d9, hyb, hyn⟩ : ∃ y, (x 9) = .pointer (some ⟨y, 0, none⟩) ∧ Blk W y 31 (gridV 0 0 none 0 0) ∧ w1.drew.heap.size ≤ y := hall (9, 9) (by simp)
    simp only [frm, List.foldl_cons, List.foldl_nil, Act.put, List.setIfInBounds_toArray, List.set_cons_zero, List.set_cons_succ]
    rw [d8, d9]
    clear hall d8 d9
    generalize x 0 = z0
    generalize x 1 = z1
    generalize x 2 = z2
    generalize x 3 = z3
    generalize x 4 = z4
    generalize x 5 = z5
    generalize x 6 = z6
    generalize x 7 = z7
    have hgy : g ≠ yy := fun e => by
      obtain ⟨cur, hcur, _⟩ := hnr.row
      rw [e] at hcur
      have h1 := hcur.symm.trans hyb
      cases h1
    refine wpAny_ready (rs := [10]) (by kernel_rfl) (by simp) (AllReady.cons (o := ⟨none, .store 31 (.tmp 9) (.tmp 18), _, _, _, _⟩) rfl (fun K hK => ?_) AllReady.nil)
    refine step_store_blk rfl rfl 31 (.tmp 9) (.tmp 18) rfl yy rfl (gridV R C (some ⟨g, 0, none⟩) n cap) rfl _ _ hyb rfl (one_gridV _ _ _ _ _) sizeG ?_
    intro w4 hb4 hg4
    refine hK _ _ ?_
    clear hK K hyb
    try simp only [Act.put, List.setIfInBounds_toArray, List.set_cons_zero, List.set_cons_succ]
    refine wpAny_done (by kernel_rfl) ?_ _
    have HG1 := Lib.hid (HG0.out.below hbel HG0.out.lt)
    have HY1 := Lib.hid (HY0.out.below hbel HY0.out.lt)
    have HR1 := Lib.hid (HR0.out.below hbel HR0.out.lt)
    have hzW : w.heap.size + 1 + 1 < W.heap.size := HR1.out.lt
    have hyn2 : yy ≠ w.heap.size ∧ yy ≠ w.heap.size + 1 ∧ yy ≠ w.heap.size + 1 + 1 := by omega
    have HNR := Lib.hid hnr
    clear hnr hbel
    have hHG := HG1.out.grown hg4 (fun e => by cases e; exact hyn2.1 rfl)
    have hHY := HY1.out.grown hg4 (fun e => by cases e; exact hyn2.2.1 rfl)
    have HR4 := Lib.hid (HR1.out.grown hg4 (fun e => by cases e; exact hyn2.2.2 rfl))
    obtain ⟨c0, c1, c2⟩ := boxG hHG
    obtain ⟨a0, a1, a2, a3⟩ := fourB' hHY
    obtain ⟨d0, d1, d2⟩ := boxG hb4
    have hk4 : Chg (fun i => i = yy) W w4 := Chg.of_only hg4 (fun i hi => (Option.some.inj hi).symm)
    have HROW := Lib.hid (HNR.out.row.chg hk4 hgy)
    have HB4 := Lib.hid hb4
    have HK4 := Lib.hid hk4
    have hgn := HNR.out.new
    have hyl := hb4.lt
    have e1 : IntKind.i64.wrap ((q : Int) * (C : Int)) = (Q : Int) := by rw [← Int.natCast_mul, hQ.out, IntKind.wrap_i64]; omega
    have e2 : IntKind.i64.wrap ((Q : Int) + (p : Int)) = (Q : Int) + (p : Int) := by rw [IntKind.wrap_i64]; omega
    have i0 : (0 : Int) ≤ (Q : Int) + (p : Int) := by omega
    have i1 : (Q : Int) + (p : Int) < (n : Int) := by omega
    have i2 : ((Q : Int) + (p : Int)).toNat = Q + p := by omega
    clear hHG hHY hb4 hg4 hk4 HG1 HY1 HR1
    go_wp2_with (first
      | ((with_reducible refine at_store 38 ?_); refine wpList_storeK rfl rfl 38 (.tmp 28) (.tmp 27) rfl g (Q + p) _ n 38 f y rfl rfl (by omega) HROW.out (by omega) sizeC ?_; intro w5 hb5 hg5; have HB5 := Lib.hid hb5; have HG5 := Lib.hid hg5; clear hb5 hg5; refine hold ?_))
    refine Lib.hid ?_
    clear c0 c1 c2 a0 a1 a2 a3 d0 d1 d2 e1 e2 i0 i1 i2
    have hb5 := HB4.out.grown HG5.out (fun e => by cases e; exact hgy rfl)
    have hr5 := HR4.out.grown HG5.out (fun e => by cases e; omega)
    go_upto_region 3 with (fail)
    refine wp_region_lit ?_
    refine wpList_load_at rfl 31 (.tmp 9) rfl ⟨yy, 0, none⟩ rfl _ _ hb5.all Try.underlying31 rfl sizeG ?_
    refine wpList_store_at rfl rfl 31 (.tmp 8) (.tmp 29) rfl (w.heap.size + 1 + 1) 0 rfl _ rfl _ _ hr5 (Nat.le_refl 3) (one_gridV _ _ _ _ _) sizeG ?_
    intro w6 hb6 hg6
    rw [splice_all _ _ (by rfl)] at hb6
    have HB6 := Lib.hid hb6
    have HG6 := Lib.hid hg6
    clear hb6 hg6 hb5 hr5
    go_wp2
    refine bodyPost_ret (v := .agg (gridV R C (some ⟨g, 0, none⟩) n cap).toArray) ?_ rfl ?_
    · exact results_cell_row rfl _ _ (w.heap.size + 1 + 1) _ _ _ _ rfl HB6.out Try.underlying31 rfl (by kernel_rfl)
    · have k5 : Chg (fun i => i = g) w4 w5 := Chg.of_only HG5.out (fun i hi => (Option.some.inj hi).symm)
      have k6 : Chg (fun i => i = w.heap.size + 1 + 1) w5 w6 := Chg.of_only HG6.out (fun i hi => (Option.some.inj hi).symm)
      have hbW : Below w.heap.size w W := HBW.out.trans (HNR.out.bel.mono HBW.out.size)
      have hb6 := k6.below (k5.below (HK4.out.below hbW (by omega) (fun i hi => by omega)) (by have := HK4.out.size; omega) (fun i hi => by omega)) (by have := HK4.out.size; have := k5.size; omega) (fun i hi => by omega)
      have hrow := (HB5.out.congr (f' := putF C q p y f) (fun i _ => by rw [putF, hQ.out])).chg k6 (by omega)
      have hrd := hrow.reads 0 n cap (by omega) HNR.out.room HNR.out.cap (A := some ⟨g, 0, none⟩) (fun _ => rfl)
      rw [show (tab n fun i => putF C q p y f (0 + i)) = tab n (putF C q p y f) from tab_congr (fun i _ => by rw [Nat.zero_add])] at hrd
      exact ⟨_, cap, rfl, hrd, fun ad e => by cases e; show _ ≤ g; omega, hb6⟩
end Go.Proofs.Ytgmfmhlboehdoaa
