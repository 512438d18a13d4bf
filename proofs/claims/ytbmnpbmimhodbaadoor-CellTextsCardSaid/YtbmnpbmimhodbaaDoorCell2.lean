/- Cells compared, lists of cells compared, the runs of cells and the cells of runs, as walks through the translated text. Conditions: slices read as lists of cells or runs. -/
import Derived.Test.YtbmnpbmimhodbaaDoorCell1
import Derived.Test.YtbmnpbmimhodbaaDoorCellL
namespace Go.Proofs.YtbmnpbmimhodbaaDoor
open Go.ChangeShapes Go.WideShapes Go.RowKit
theorem underC : Tryd.prog.underlying 27 = some (.struct (Tryd.prog.fieldsOf 27)) := by kernel_rfl
theorem underP : Tryd.prog.underlying 25 = some (.struct (Tryd.prog.fieldsOf 25)) := by kernel_rfl
theorem run_eq_cell (W : World) (a b : CellV) : (Op.equalIn 10000 27 (.agg (cellV a).toArray) (.agg (cellV b).toArray)).run Tryd.prog W = .ok (decide (a = b)) W := by
  obtain ⟨r, x, y, z⟩ := a
  obtain ⟨r', x', y', z'⟩ := b
  show (Op.equalIn 10000 27 (.agg #[.int .i32 r, .int .i64 x, .int .i64 y, .int .i64 z]) (.agg #[.int .i32 r', .int .i64 x', .int .i64 y', .int .i64 z'])).run Tryd.prog W = _
  by_cases h0 : r = r'
  · by_cases h1 : x = x'
    · by_cases h2 : y = y'
      · by_cases h3 : z = z'
        · go_simp
        · go_simp
      · go_simp
    · go_simp
  · go_simp
/-- The four cells of an item, as walks spell them. -/
theorem four {w : World} {p : Addr} {c : CellV} (h : ∀ j u, (cellV c)[j]? = some u → w.cell? (p.add j) = some u) :
    w.cell? p = some (.int .i32 c.1) ∧ w.cell? ⟨p.block, p.off + 1, none⟩ = some (.int .i64 c.2.1) ∧ w.cell? ⟨p.block, p.off + 2, none⟩ = some (.int .i64 c.2.2.1) ∧ w.cell? ⟨p.block, p.off + 3, none⟩ = some (.int .i64 c.2.2.2) :=
  ⟨h 0 _ rfl, h 1 _ rfl, h 2 _ rfl, h 3 _ rfl⟩
theorem takeC_succ {a b : List CellV} {j : Nat} (ha : j < a.length) (hb : j < b.length) (h : a.take j = b.take j) (e : a[j] = b[j]) : a.take (j + 1) = b.take (j + 1) := by
  rw [List.take_succ_eq_append_getElem ha, List.take_succ_eq_append_getElem hb, h, e]
theorem infoR : (Tryd.prog.info? 35).map (fun i => (i.zero, i.size, i.bytes)) = some (some (.agg #[.int .i64 0, .int .i32 0, .int .i64 0, .int .i64 0, .int .i64 0]), 5, 40) := by kernel_rfl
theorem infoC : (Tryd.prog.info? 27).map (fun i => (i.zero, i.size, i.bytes)) = some (some (.agg #[.int .i32 0, .int .i64 0, .int .i64 0, .int .i64 0]), 4, 32) := by kernel_rfl
theorem hold {p : Prop} (h : Hid p) : p := h.out
/-- What is below stays as it was where a row of the call's own is made longer. -/
theorem bel_app {w w5 w6 : World} {o : Obj} {row : Option Nat} (hb : Below w.heap.size w w5) (hg : (w5.alloc o).grownBy w6 row) (hr : ∀ g, row = some g → w.heap.size ≤ g) : Below w.heap.size w w6 :=
  (hb.alloc hb.size o).grown hg (by have := hb.size; simp; omega) hr
/-- A row of the call's own that holds items. -/
structure MineS {α : Type} (f : α → List Value) (K : Nat) (w wr : World) (e : TypeId) (v : Value) (l : List α) : Prop where
  own : wr.ownsRow w.heap.size e K v l.length (l.flatMap f)
  bel : Below w.heap.size w wr
set_option maxHeartbeats 1600000 in
theorem runs_c (A : Option Addr) (n c : Nat) (l : List CellV) (w : World) (hr : ReadsS cellV 4 w A n c l) (hn : n ≤ 1099511627776) :
    Calls Tryd.prog 7 #[.slice A n c] w fun en w' => ∃ v, en = .returned v ∧ MineS runV 5 w w' 35 v (runsL l) := by
  obtain ⟨i0, hi, hz0, hz1, hz2⟩ := info_parts infoR
  have HL := Lib.hid hr.len
  have H := Lib.hid hr
  clear hr
  go_enter Tryd.func7, Tryd.ntmps7
  go_wp2
  go_loopw [3, 8] (fun v i wr => ∃ j : Nat, j ≤ n ∧ i = .int .i64 j ∧ Hid (MineS runV 5 w wr 35 v (runsL (l.take j)))) (fun _ i _ => n - (intOf i).toNat)
  case atStart => exact ⟨0, Nat.zero_le _, rfl, ⟨World.ownsRow_nil _ _ _ _, Below.refl _ _⟩⟩
  case round =>
    obtain ⟨j, hj, rfl, hM⟩ := hrel
    by_cases hlt : j < n
    · have hjl : j < l.length := by rw [HL.out]; exact hlt
      have hR1 := H.out.keep (hM.out.bel)
      obtain ⟨ad, rfl, hadlt, hca⟩ := hR1.cell j hjl
      obtain ⟨x, HX⟩ : ∃ x, Hid (l[j] = x) := ⟨l[j], rfl⟩
      rw [HX.out] at hca
      obtain ⟨a0, a1, a2, a3⟩ := four hca
      have hlt2 : (j : Int) < (n : Int) := by omega
      have hj0 : (0 : Int) ≤ (j : Int) := by omega
      clear hca
      obtain ⟨R, HR⟩ : ∃ R, Hid (runsL (l.take j) = R) := ⟨_, rfl⟩
      rw [HR.out] at hM
      obtain ⟨L, hL⟩ : ∃ L, Hid (R.length = L) := ⟨_, Lib.hid rfl⟩
      have hLn : L ≤ n := by
        have h1 := runsL_len (l.take j)
        rw [HR.out, hL.out] at h1
        have h2 := List.length_take_le j l
        omega
      have hM0 := hM.out.own
      rw [hL.out] at hM0
      obtain ⟨B, d, eV⟩ := ownK_form hM0
      subst eV
      go_wp2_with fail
      refine name_wp (fun w5 => Blk w5 wr.heap.size 27 (cellV x) ∧ Below wr.heap.size wr w5 ∧ w5.heap.size = wr.heap.size + 1) ⟨Blk.new _ _ _, alloc_below' _ _, by simp⟩ ?_
      rintro w5 ⟨hB5, hb5, hs5⟩
      have hM5 := Lib.hid (ownK_below hM0 hb5)
      have hR5 := Lib.hid (hR1.keep hb5)
      have HB := Lib.hid (hM.out.bel.trans (hb5.mono hM.out.bel.size))
      have x0 : w5.cell? ⟨wr.heap.size, 0, none⟩ = _ := hB5.cell 0
      have x1 : w5.cell? ⟨wr.heap.size, 1, none⟩ = _ := hB5.cell 1
      have x2 : w5.cell? ⟨wr.heap.size, 2, none⟩ = _ := hB5.cell 2
      have x3 : w5.cell? ⟨wr.heap.size, 3, none⟩ = _ := hB5.cell 3
      simp only [cellV, List.getElem?_cons_zero, List.getElem?_cons_succ] at x0 x1 x2 x3
      have hs := hM.out.bel.size
      clear hM0 hM hR1 a0 a1 a2 a3 hB5 hb5
      have HS5 := Lib.hid hs5
      clear hs5
      generalize hwz : wr.heap.size = z at *
      clear hwz
      rcases Nat.eq_zero_or_pos j with h0 | h0
      · subst h0
        go_quiet (fail)
        go_wp2_with (at_builtin; refine wpList_app1 length_runV one_runV (by decide) rfl (.tmp 34) (.tmp 37) 32 rfl w.heap.size 35 i0 _ 40 Tryd.underlying32 hi hz0 hz1 hz2 rfl (.slice B L d) L R rfl (ownK_below (w := w5.drewN nq) (ownK_of_heap hM5.out rfl) (alloc_below' _ _)) (1, x) _ _ rfl (Blk.new _ _ _) (by unfold maxLen; omega) (by omega) (by have := HS5.out; simp; omega) ?_; intro A1 c1 w6 ho6 hg6 hat6)
        go_roundw
        case rel =>
          refine ⟨0 + 1, by omega, by go_num, ?_⟩
          have hbel := bel_app (belowDrewN HB.out nq) hg6 (ownK_base hM5.out)
          have hrs : runsL (l.take (0 + 1)) = R ++ [(1, x)] := by
            rw [List.take_succ_eq_append_getElem hjl, runsL_snoc, HR.out, HX.out]
            rw [← HR.out]; rfl
          show MineS _ _ _ _ _ _ (runsL (l.take (0 + 1)))
          rw [hrs]
          exact ⟨by rw [List.length_append, hL.out]; exact ho6, hbel⟩
        case measure => simp [intOf]; omega
      · obtain ⟨q, rfl⟩ : ∃ q, j = q + 1 := ⟨j - 1, by omega⟩
        have hql : q < l.length := by omega
        obtain ⟨y, HY⟩ : ∃ y, Hid (l[q] = y) := ⟨l[q], rfl⟩
        have hcb := hR5.out.at q hql
        rw [HY.out] at hcb
        obtain ⟨b0, b1, b2, b3⟩ := four hcb
        obtain ⟨rs, k, hk, hk1, hk2⟩ := runsL_end (l.take q) y
        rw [← HY.out, ← List.take_succ_eq_append_getElem hql, HR.out, HY.out] at hk
        have HK := Lib.hid hk
        have HK1 := Lib.hid hk1
        have hk3 : k ≤ n := by have := List.length_take_le q l; omega
        clear hcb hk hk1 hk2
        have hq1 : (q : Int) < (n : Int) := by omega
        have hq0 : (0 : Int) ≤ (q : Int) := by omega
        have hqp : (0 : Int) < ((q + 1 : Nat) : Int) := by omega
        by_cases hxy : x = y
        · subst hxy
          have HL2 : Hid (L = rs.length + 1) := by show _ = _; rw [← hL.out, HK.out]; simp
          obtain ⟨M, hMl⟩ : ∃ M, Hid (rs.length = M) := ⟨_, Lib.hid rfl⟩
          obtain rfl : L = M + 1 := by rw [← hMl.out]; exact HL2.out
          obtain ⟨g, eB, hg1, hg2, hgc, hgf, hgs⟩ := ownK_write hM5.out (M * 5) (by rw [HK.out, length_flatF length_runV]; simp; rw [hMl.out]; omega)
          subst eB
          have hgc2 : w5.cell? ⟨g, M * 5, none⟩ = some (.int .i64 (k : Int)) := by
            rw [hgc, HK.out, ← hMl.out]
            exact flatF_last length_runV rs ((k : Int), x) 0
          clear hgc
          have HGS := Lib.hid hgs
          clear hgs
          go_quiet (fail)
          go_wp2
          go_roundw
          case rel =>
            refine ⟨q + 1 + 1, by omega, by go_num, ?_⟩
            have hrs : runsL (l.take (q + 1 + 1)) = rs ++ [((k : Int) + 1, x)] := by
              rw [List.take_succ_eq_append_getElem hjl, runsL_snoc, HR.out, HX.out, HK.out, addRun_same]
            have h1 := HGS.out (.int .i64 ((k : Int) + 1))
            have h2 := flatF_set length_runV rs ((k : Int), x) ((k : Int) + 1, x) 0 (.int .i64 ((k : Int) + 1)) rfl
            rw [hMl.out, Nat.add_zero] at h2
            rw [HK.out, h2] at h1
            show MineS _ _ _ _ _ _ (runsL (l.take (q + 1 + 1)))
            rw [hrs]
            refine ⟨by rw [List.length_append, hMl.out]; exact ownK_of_heap h1 rfl, ?_⟩
            exact below_of_only (belowDrewN HB.out nq) (only_setCell (World.grownBy.refl _ _) rfl _) (by have := HB.out.size; simpa using this) hg1
          case measure => simp [intOf]; omega
        · have heq := fun W => run_eq_cell W x y
          rw [decide_eq_false hxy] at heq
          simp only [cellV] at heq
          have Hxy := Lib.hid hxy
          clear hxy
          go_quiet (fail)
          go_wp2_with (at_builtin; refine wpList_app1 length_runV one_runV (by decide) rfl (.tmp 34) (.tmp 37) 32 rfl w.heap.size 35 i0 _ 40 Tryd.underlying32 hi hz0 hz1 hz2 rfl (.slice B L d) L R rfl (ownK_below (w := w5.drewN nq) (ownK_of_heap hM5.out rfl) (alloc_below' _ _)) (1, x) _ _ rfl (Blk.new _ _ _) (by unfold maxLen; omega) (by omega) (by have := HS5.out; simp; omega) ?_; intro A1 c1 w6 ho6 hg6 hat6)
          go_roundw
          case rel =>
            refine ⟨q + 1 + 1, by omega, by go_num, ?_⟩
            have hbel := bel_app (belowDrewN HB.out nq) hg6 (ownK_base hM5.out)
            have hrs : runsL (l.take (q + 1 + 1)) = R ++ [(1, x)] := by
              rw [List.take_succ_eq_append_getElem hjl, runsL_snoc, HR.out, HX.out]
              rw [HK.out, addRun_other _ _ _ _ (fun e => Hxy.out e.symm)]
            show MineS _ _ _ _ _ _ (runsL (l.take (q + 1 + 1)))
            rw [hrs]
            exact ⟨by rw [List.length_append, hL.out]; exact ho6, hbel⟩
          case measure => simp [intOf]; omega
    · obtain rfl : j = n := by omega
      go_wp2
      go_ret
      have h1 : l.take j = l := List.take_of_length_le (by rw [HL.out]; omega)
      rw [h1] at hM
      exact ⟨_, rfl, hM.out⟩
end Go.Proofs.YtbmnpbmimhodbaaDoor
