/- The cells of runs, as a walk through the translated text. Conditions: slices read as lists of runs, at most 2^40 cells are made. -/
import Derived.Test.YtbmnpbmimhodbaaCell2
namespace Go.Proofs.Ytbmnpbmimhodbaa
open Go.ChangeShapes Go.WideShapes Go.RowKit
/-- The five cells of a run, as walks spell them. -/
theorem five {w : World} {p : Addr} {x : RunV} (h : ∀ j u, (runV x)[j]? = some u → w.cell? (p.add j) = some u) :
    w.cell? p = some (.int .i64 x.1) ∧ w.cell? ⟨p.block, p.off + 1, none⟩ = some (.int .i32 x.2.1) ∧ w.cell? ⟨p.block, p.off + 2, none⟩ = some (.int .i64 x.2.2.1) ∧ w.cell? ⟨p.block, p.off + 3, none⟩ = some (.int .i64 x.2.2.2.1) ∧ w.cell? ⟨p.block, p.off + 4, none⟩ = some (.int .i64 x.2.2.2.2) :=
  ⟨h 0 _ rfl, h 1 _ rfl, h 2 _ rfl, h 3 _ rfl, h 4 _ rfl⟩
theorem fiveB {w : World} {g : Nat} {t : TypeId} {x : RunV} (h : Blk w g t (runV x)) :
    w.cell? ⟨g, 0, none⟩ = some (.int .i64 x.1) ∧ w.cell? ⟨g, 1, none⟩ = some (.int .i32 x.2.1) ∧ w.cell? ⟨g, 2, none⟩ = some (.int .i64 x.2.2.1) ∧ w.cell? ⟨g, 3, none⟩ = some (.int .i64 x.2.2.2.1) ∧ w.cell? ⟨g, 4, none⟩ = some (.int .i64 x.2.2.2.2) :=
  ⟨h.cell 0, h.cell 1, h.cell 2, h.cell 3, h.cell 4⟩
theorem fourB {w : World} {g : Nat} {t : TypeId} {x : CellV} (h : Blk w g t (cellV x)) :
    w.cell? ⟨g, 0, none⟩ = some (.int .i32 x.1) ∧ w.cell? ⟨g, 1, none⟩ = some (.int .i64 x.2.1) ∧ w.cell? ⟨g, 2, none⟩ = some (.int .i64 x.2.2.1) ∧ w.cell? ⟨g, 3, none⟩ = some (.int .i64 x.2.2.2) :=
  ⟨h.cell 0, h.cell 1, h.cell 2, h.cell 3⟩
theorem cellsL_take (rs : List RunV) (j : Nat) (h : j < rs.length) : cellsL (rs.take (j + 1)) = cellsL (rs.take j) ++ List.replicate rs[j].1.toNat rs[j].2 := by
  rw [List.take_succ_eq_append_getElem h, cellsL_snoc]
theorem cellsL_take_le (rs : List RunV) (j : Nat) : (cellsL (rs.take j)).length ≤ (cellsL rs).length := by
  have h : cellsL rs = cellsL (rs.take j) ++ cellsL (rs.drop j) := by
    unfold cellsL
    rw [← List.flatMap_append, List.take_append_drop]
  rw [h, List.length_append]; omega
/-- The inner loop's: the row holds pre and k times the cell; the run lies in block z, outside the row. -/
structure Inner (w wr : World) (z : Nat) (x : RunV) (v : Value) (l : List CellV) : Prop where
  mine : MineS cellV 4 w wr 25 v l
  blk : Blk wr z 34 (runV x)
  off : ∀ g, v.ownBlock = some g → g ≠ z
set_option maxHeartbeats 1600000 in
theorem cells_c (A : Option Addr) (n c : Nat) (rs : List RunV) (w : World) (hr : ReadsS runV 5 w A n c rs) (hfit : ∀ x ∈ rs, x.1 ≤ 9223372036854775807) (hn : (cellsL rs).length ≤ 1099511627776) :
    Calls Try.prog 14 #[.slice A n c] w fun en w' => ∃ v, en = .returned v ∧ MineS cellV 4 w w' 25 v (cellsL rs) := by
  obtain ⟨i0, hi, hz0, hz1, hz2⟩ := info_parts infoC
  have hcap : n ≤ 9223372036854775807 := by have := hr.room; have := hr.cap; unfold maxLen at this; omega
  have HL := Lib.hid hr.len
  have H := Lib.hid hr
  have HF := Lib.hid hfit
  have HN := Lib.hid hn
  clear hr hfit hn
  go_enter Try.func14, Try.ntmps14
  go_wp2
  go_loopw [3, 8] (fun v i wr => ∃ j : Nat, j ≤ n ∧ i = .int .i64 j ∧ Hid (MineS cellV 4 w wr 25 v (cellsL (rs.take j)))) (fun _ i _ => n - (intOf i).toNat)
  case atStart => exact ⟨0, Nat.zero_le _, rfl, ⟨World.ownsRow_nil _ _ _ _, Below.refl _ _⟩⟩
  case round =>
    obtain ⟨j, hj, rfl, hM⟩ := hrel
    by_cases hlt : j < n
    · have hjl : j < rs.length := by rw [HL.out]; exact hlt
      have hR1 := H.out.keep (hM.out.bel)
      obtain ⟨ad, rfl, hadlt, hca⟩ := hR1.cell j hjl
      obtain ⟨x, HX⟩ : ∃ x, Hid (rs[j] = x) := ⟨rs[j], rfl⟩
      rw [HX.out] at hca
      obtain ⟨a0, a1, a2, a3, a4⟩ := five hca
      have hlt2 : (j : Int) < (n : Int) := by omega
      have hj0 : (0 : Int) ≤ (j : Int) := by omega
      clear hca
      obtain ⟨R, HR⟩ : ∃ R, Hid (cellsL (rs.take j) = R) := ⟨_, rfl⟩
      rw [HR.out] at hM
      have hRX : Hid (R.length + x.1.toNat ≤ 1099511627776) := by
        show _ ≤ _
        have h1 := cellsL_take rs j hjl
        have h2 := cellsL_take_le rs (j + 1)
        rw [h1, HR.out, HX.out, List.length_append, List.length_replicate] at h2
        have := HN.out
        omega
      have hxf : x.1 ≤ 9223372036854775807 := by rw [← HX.out]; exact HF.out _ (List.getElem_mem hjl)
      go_upto_region 5 with (fail)
      refine name_wp (fun w5 => Blk w5 wr.heap.size 34 (runV x) ∧ Below wr.heap.size wr w5 ∧ w5.heap.size = wr.heap.size + 1) ⟨Blk.new _ _ _, alloc_below' _ _, by simp⟩ ?_
      rintro w5 ⟨hB5, hb5, hs5⟩
      have hI : Inner w w5 wr.heap.size x u3 R := ⟨⟨ownK_below hM.out.own hb5, hM.out.bel.trans (hb5.mono hM.out.bel.size)⟩, hB5, fun g hg => Nat.ne_of_lt (ownK_lt hM.out.own g hg)⟩
      have hs := hM.out.bel.size
      obtain ⟨y0, y1, y2, y3, y4⟩ := fiveB hB5
      clear hM hR1 a0 a1 a2 a3 a4 hb5 hB5 hs5 hadlt
      generalize hwz : wr.heap.size = z at *
      clear hwz
      go_wp2
      have HI := Lib.hid hI
      clear hI y0 y1 y2 y3 y4 wr
      go_loopw [3, 14] (fun v i wr => ∃ k : Nat, k ≤ x.1.toNat ∧ i = .int .i64 k ∧ Hid (Inner w wr z x v (R ++ List.replicate k x.2))) (fun _ i _ => x.1.toNat - (intOf i).toNat)
      case atStart => exact ⟨0, Nat.zero_le _, rfl, Lib.hid (by simpa using HI.out)⟩
      case round =>
        obtain ⟨k, hk, rfl, hM⟩ := hrel
        obtain ⟨N, hN⟩ : ∃ N, Hid (x.1.toNat = N) := ⟨_, Lib.hid rfl⟩
        rw [hN.out] at hk hRX
        have hNb : N ≤ 1099511627776 := by have := hRX.out; omega
        by_cases hkl : k < N
        · have hkd : decide ((k : Int) < x.1) = true := by rw [decide_eq_true_eq]; have := hN.out; omega
          have hO := hM.out.mine.own
          have hb := hM.out.mine.bel
          have hoff := hM.out.off
          have hblk := hM.out.blk
          obtain ⟨L, hL⟩ : ∃ L, Hid ((R ++ List.replicate k x.2).length = L) := ⟨_, Lib.hid rfl⟩
          have hLb : L + 1 ≤ 1099511627776 := by have h1 := hL.out; have h2 := hRX.out; simp at h1; omega
          rw [hL.out] at hO
          obtain ⟨B, d, eV⟩ := ownK_form hO
          subst eV
          obtain ⟨y0, y1, y2, y3, y4⟩ := fiveB hblk
          have HO := Lib.hid hO
          have HOff := Lib.hid hoff
          have HBel := Lib.hid hb
          have HBlk := Lib.hid hblk
          clear hO hb hoff hblk hM
          go_wp2_with (at_builtin; refine wpList_app1 length_cellV one_cellV (by decide) rfl (.tmp 16) (.tmp 19) 30 rfl w.heap.size 25 i0 _ 32 Try.underlying30 hi hz0 hz1 hz2 rfl (.slice B L d) L (R ++ List.replicate k x.2) rfl (ownK_below HO.out (alloc_below' _ _)) x.2 _ _ rfl (Blk.new _ _ _) (by unfold maxLen; omega) (by omega) (by have := HBel.out.size; simp; omega) ?_; intro A1 c1 w6 ho6 hg6 hat6)
          go_roundw
          case rel =>
            refine ⟨k + 1, by rw [hN.out]; omega, by go_num, ?_⟩
            have hbel := bel_app HBel.out hg6 (ownK_base HO.out)
            have hlst : R ++ List.replicate (k + 1) x.2 = (R ++ List.replicate k x.2) ++ [x.2] := by rw [List.replicate_succ', List.append_assoc]
            show Inner _ _ _ _ _ _
            rw [hlst]
            refine ⟨⟨by rw [List.length_append, hL.out]; exact ho6, hbel⟩, ?_, fun g hg => ?_⟩
            · refine (HBlk.out.alloc _).grown hg6 ?_
              intro e
              exact HOff.out z e.symm rfl
            · rcases hat6 with e | e
              · rw [e] at hg; exact HOff.out g hg
              · rw [e] at hg
                have h1 := HBlk.out.lt
                rw [World.size_alloc] at hg
                injection hg with hg
                omega
          case measure => simp [intOf]; rw [hN.out]; omega
        · obtain rfl : k = N := by omega
          have hkd : decide ((k : Int) < x.1) = false := by rw [decide_eq_false_iff_not]; have := hN.out; omega
          go_wp2
          go_roundw
          case rel =>
            refine ⟨j + 1, by omega, by go_num, ?_⟩
            show MineS _ _ _ _ _ _ (cellsL (rs.take (j + 1)))
            rw [cellsL_take rs j hjl, HR.out, HX.out, hN.out]
            exact hM.out.mine
          case measure => simp [intOf]; omega
    · obtain rfl : j = n := by omega
      go_wp2
      go_ret
      have h1 : rs.take j = rs := List.take_of_length_le (by rw [HL.out]; omega)
      rw [h1] at hM
      exact ⟨_, rfl, hM.out⟩
end Go.Proofs.Ytbmnpbmimhodbaa
