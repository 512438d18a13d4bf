/- Cells compared, lists of cells compared, the runs of cells and the cells of runs, as walks through the translated text. Conditions: slices read as lists of cells or runs. -/
import Derived.Test.YtdldffgdipedpaaDoorCell1
import Derived.Test.YtdldffgdipedpaaDoorCellL
namespace Go.Proofs.YtdldffgdipedpaaDoor
open Go.ChangeShapes Go.WideShapes Go.RowKit
theorem underC : Tryd.prog.underlying 43 = some (.struct (Tryd.prog.fieldsOf 43)) := by kernel_rfl
theorem underP : Tryd.prog.underlying 41 = some (.struct (Tryd.prog.fieldsOf 41)) := by kernel_rfl
theorem run_eq_cell (W : World) (a b : CellV) : (Op.equalIn 10000 43 (.agg (cellV a).toArray) (.agg (cellV b).toArray)).run Tryd.prog W = .ok (decide (a = b)) W := by
  obtain ⟨r, x, y, z⟩ := a
  obtain ⟨r', x', y', z'⟩ := b
  show (Op.equalIn 10000 43 (.agg #[.int .i32 r, .int .i64 x, .int .i64 y, .int .i64 z]) (.agg #[.int .i32 r', .int .i64 x', .int .i64 y', .int .i64 z'])).run Tryd.prog W = _
  by_cases h0 : r = r'
  · by_cases h1 : x = x'
    · by_cases h2 : y = y'
      · by_cases h3 : z = z'
        · go_simp
        · go_simp
      · go_simp
    · go_simp
  · go_simp
/-- The four cells of an item, as walks spell them. -/
theorem four {w : World} {p : Addr} {c : CellV} (h : ∀ j u, (cellV c)[j]? = some u → w.cell? (p.add j) = some u) :
    w.cell? p = some (.int .i32 c.1) ∧ w.cell? ⟨p.block, p.off + 1, none⟩ = some (.int .i64 c.2.1) ∧ w.cell? ⟨p.block, p.off + 2, none⟩ = some (.int .i64 c.2.2.1) ∧ w.cell? ⟨p.block, p.off + 3, none⟩ = some (.int .i64 c.2.2.2) :=
  ⟨h 0 _ rfl, h 1 _ rfl, h 2 _ rfl, h 3 _ rfl⟩
theorem takeC_succ {a b : List CellV} {j : Nat} (ha : j < a.length) (hb : j < b.length) (h : a.take j = b.take j) (e : a[j] = b[j]) : a.take (j + 1) = b.take (j + 1) := by
  rw [List.take_succ_eq_append_getElem ha, List.take_succ_eq_append_getElem hb, h, e]
set_option maxHeartbeats 800000 in
theorem sameC_c (A B : Option Addr) (n c m d : Nat) (a b : List CellV) (w : World) (ha : ReadsS cellV 4 w A n c a) (hb : ReadsS cellV 4 w B m d b) :
    Calls Tryd.prog 12 #[.slice A n c, .slice B m d] w fun e w' => e = .returned (.bool (decide (a = b))) ∧ ∃ k, w' = w.drewN k := by
  have hn : n ≤ 9223372036854775807 := by have := ha.room; have := ha.cap; unfold maxLen at this; omega
  have hla := ha.len
  have hlb := hb.len
  by_cases hnm : n = m
  · subst hnm
    have Hla := Lib.hid hla
    have Hlb := Lib.hid hlb
    clear hla hlb
    go_enter Tryd.func12, Tryd.ntmps12
    go_wp2
    go_loopw [5] (fun i wr => ∃ j : Nat, j ≤ n ∧ i = .int .i64 j ∧ Hid (a.take j = b.take j) ∧ ∃ k, wr = w.drewN k) (fun i _ => n - (intOf i).toNat)
    case atStart => exact ⟨0, Nat.zero_le _, rfl, rfl, 0, rfl⟩
    case round =>
      obtain ⟨j, hj, rfl, hT, k, rfl⟩ := hrel
      by_cases hlt : j < n
      · have hja : j < a.length := by rw [Hla.out]; exact hlt
        have hjb : j < b.length := by rw [Hlb.out]; exact hlt
        obtain ⟨ad, rfl, _, hca⟩ := ha.cell j hja
        obtain ⟨bd, rfl, _, hcb⟩ := hb.cell j hjb
        have hlt2 : (j : Int) < (n : Int) := by omega
        have hj0 : (0 : Int) ≤ (j : Int) := by omega
        obtain ⟨a0, a1, a2, a3⟩ := four hca
        obtain ⟨b0, b1, b2, b3⟩ := four hcb
        clear hca hcb
        obtain ⟨x, HX⟩ : ∃ x, Hid (a[j] = x) := ⟨a[j], rfl⟩
        obtain ⟨y, HY⟩ : ∃ x, Hid (b[j] = x) := ⟨b[j], rfl⟩
        rw [HX.out] at a0 a1 a2 a3
        rw [HY.out] at b0 b1 b2 b3
        by_cases hxy : x = y
        · subst hxy
          go_wp2_with fail
          go_quiet (fail)
          go_wp2
          go_roundw
          case rel => exact ⟨j + 1, by omega, by go_num, takeC_succ hja hjb hT.out (HX.out.trans HY.out.symm), _, rfl⟩
          case measure => simp [intOf]; omega
        · have Hxy := Lib.hid hxy
          have heq := fun W => run_eq_cell W x y
          rw [decide_eq_false hxy] at heq
          simp only [cellV] at heq
          clear hxy
          go_wp2_with fail
          go_quiet (fail)
          go_wp2
          go_ret
          refine ⟨ret_bool ?_, _, World.drewN_drewN _ _ _⟩
          symm
          rw [decide_eq_false_iff_not]
          intro e
          subst e
          exact Hxy.out (HX.out.symm.trans HY.out)
      · go_wp2
        go_ret
        refine ⟨ret_bool ?_, _, rfl⟩
        symm
        rw [decide_eq_true_iff]
        have h1 : a.take j = a := List.take_of_length_le (by rw [Hla.out]; omega)
        have h2 : b.take j = b := List.take_of_length_le (by rw [Hlb.out]; omega)
        rw [← h1, ← h2]
        exact hT.out
  · have hne : ((n : Int) != (m : Int)) = true := by rw [bne_iff_ne]; omega
    have Hnm : Hid (a ≠ b) := by intro e; subst e; omega
    clear hla hlb hnm
    go_enter Tryd.func12, Tryd.ntmps12
    go_wp2
    go_ret
    exact ⟨ret_bool (by rw [eq_comm, decide_eq_false_iff_not]; exact Hnm.out), 0, rfl⟩
theorem infoC : (Tryd.prog.info? 43).map (fun i => (i.zero, i.size, i.bytes)) = some (some (.agg #[.int .i32 0, .int .i64 0, .int .i64 0, .int .i64 0]), 4, 32) := by kernel_rfl
theorem hold {p : Prop} (h : Hid p) : p := h.out
/-- What is below stays as it was where a row of the call's own is made longer. -/
theorem bel_app {w w5 w6 : World} {o : Obj} {row : Option Nat} (hb : Below w.heap.size w w5) (hg : (w5.alloc o).grownBy w6 row) (hr : ∀ g, row = some g → w.heap.size ≤ g) : Below w.heap.size w w6 :=
  (hb.alloc hb.size o).grown hg (by have := hb.size; simp; omega) hr
/-- A row of the call's own that holds items. -/
structure MineS {α : Type} (f : α → List Value) (K : Nat) (w wr : World) (e : TypeId) (v : Value) (l : List α) : Prop where
  own : wr.ownsRow w.heap.size e K v l.length (l.flatMap f)
  bel : Below w.heap.size w wr
end Go.Proofs.YtdldffgdipedpaaDoor
