/- Plain words for the proofs on package grid: cells told by a function of their place, a block of memory that holds such cells, parts of it as slices, copy and slice expressions on slices of structs. Conditions: none; it speaks of no program. -/
import Derived.Test.YtgmfmhlboehdoaaCell0
import Derived.Test.YtgmfmhlboehdoaaCut
import Derived.Lib.MinMax
namespace Go.Proofs.Ytgmfmhlboehdoaa
open Go.RowKit
/-! ### Cells told by their place -/
/-- N cells, cell i being f i. -/
def tab (N : Nat) (f : Nat → CellV) : List CellV := (List.range N).map f
theorem length_tab (N : Nat) (f : Nat → CellV) : (tab N f).length = N := by simp [tab]
theorem tab_get {N : Nat} {f : Nat → CellV} (i : Nat) (h : i < (tab N f).length) : (tab N f)[i] = f i := by simp [tab]
theorem tab_congr {N : Nat} {f g : Nat → CellV} (h : ∀ i, i < N → f i = g i) : tab N f = tab N g := List.map_congr_left fun i hi => h i (List.mem_range.1 hi)
theorem tab_inj {N : Nat} {f g : Nat → CellV} (h : tab N f = tab N g) : ∀ i, i < N → f i = g i := by
  intro i hi
  have h1 : (tab N f)[i]'(by rw [length_tab]; exact hi) = (tab N g)[i]'(by rw [length_tab]; exact hi) := by simp only [h]
  rwa [tab_get, tab_get] at h1
theorem tab_succ (N : Nat) (f : Nat → CellV) : tab (N + 1) f = tab N f ++ [f N] := by simp [tab, List.range_succ]
theorem tab_zero (f : Nat → CellV) : tab 0 f = [] := rfl
theorem tab_of (l : List CellV) : l = tab l.length (fun i => l.getD i (0, 0, 0, 0)) := by
  apply List.ext_getElem (by rw [length_tab])
  intro i h1 h2
  rw [tab_get, List.getD_eq_getElem?_getD, List.getElem?_eq_getElem h1]; rfl
theorem tab_mem {N : Nat} {f : Nat → CellV} {x : CellV} (h : x ∈ tab N f) : ∃ i, i < N ∧ f i = x := by
  obtain ⟨i, hi, e⟩ := List.mem_map.1 h
  exact ⟨i, List.mem_range.1 hi, e⟩
theorem mem_tab {N : Nat} (f : Nat → CellV) {i : Nat} (h : i < N) : f i ∈ tab N f := List.mem_map.2 ⟨i, List.mem_range.2 h, rfl⟩
/-! ### A block that holds cells -/
theorem splice_at {α : Type} (L cs : List α) (off p : Nat) (h : off + cs.length ≤ L.length) : (splice L off cs)[p]? = if off ≤ p ∧ p < off + cs.length then cs[p - off]? else L[p]? := by
  unfold splice
  rcases Nat.lt_or_ge p off with h1 | h1
  · rw [List.getElem?_append_left (by rw [List.length_take]; omega), List.getElem?_take_of_lt h1, if_neg (by omega)]
  · rw [List.getElem?_append_right (by rw [List.length_take]; omega), List.length_take, Nat.min_eq_left (by omega)]
    rcases Nat.lt_or_ge p (off + cs.length) with h2 | h2
    · rw [List.getElem?_append_left (by omega), if_pos ⟨h1, h2⟩]
    · rw [List.getElem?_append_right (by omega), List.getElem?_drop, if_neg (by omega)]
      congr 1; omega
/-- Block g holds at least M cells, cell i being f i. -/
def RowAt (w : World) (g : Nat) (t : TypeId) (M : Nat) (f : Nat → CellV) : Prop := ∃ cur, Blk w g t cur ∧ M * 4 ≤ cur.length ∧ ∀ i, i < M → ∀ j u, (cellV (f i))[j]? = some u → cur[i * 4 + j]? = some u
section
variable {w w' : World} {g M : Nat} {t : TypeId} {f : Nat → CellV}
theorem RowAt.lt (h : RowAt w g t M f) : g < w.heap.size := by obtain ⟨cur, hb, _⟩ := h; exact hb.lt
theorem RowAt.of_heap (h : RowAt w g t M f) (e : w'.heap = w.heap) : RowAt w' g t M f := by
  obtain ⟨cur, hb, h1, h2⟩ := h
  exact ⟨cur, hb.of_heap e, h1, h2⟩
theorem RowAt.chg {F : Nat → Prop} (h : RowAt w g t M f) (k : Chg F w w') (hn : ¬ F g) : RowAt w' g t M f := by
  obtain ⟨cur, hb, h1, h2⟩ := h
  exact ⟨cur, hb.chg k hn, h1, h2⟩
theorem RowAt.below (h : RowAt w g t M f) (k : Below w.heap.size w w') : RowAt w' g t M f := h.chg (F := fun _ => False) (Chg.of_below k) (fun h => h)
theorem RowAt.congr {f' : Nat → CellV} (h : RowAt w g t M f) (e : ∀ i, i < M → f i = f' i) : RowAt w g t M f' := by
  obtain ⟨cur, hb, h1, h2⟩ := h
  exact ⟨cur, hb, h1, fun i hi => by rw [← e i hi]; exact h2 i hi⟩
theorem cellV_lt {c : CellV} {j : Nat} {u : Value} (h : (cellV c)[j]? = some u) : j < 4 := by
  rcases Nat.lt_or_ge j 4 with h1 | h1
  · exact h1
  · rw [List.getElem?_eq_none (by rw [length_cellV]; exact h1)] at h; cases h
theorem add_mk (g o k : Nat) : (⟨g, o, none⟩ : Addr).add k = ⟨g, o + k, none⟩ := by
  unfold Addr.add
  split
  · rename_i h; subst h; rfl
  · rfl
theorem RowAt.reads (h : RowAt w g t M f) (o n c : Nat) (ho : o + n ≤ M) (hc : n ≤ c) (hm : c ≤ maxLen) {A : Option Addr} (hA : 0 < n → A = some ⟨g, o * 4, none⟩) : ReadsS cellV 4 w A n c (tab n fun i => f (o + i)) := by
  obtain ⟨cur, hb, h1, h2⟩ := h
  refine ⟨length_tab _ _, hc, hm, fun i hi => ?_⟩
  have hi' : i < n := by rwa [length_tab] at hi
  refine ⟨_, hA (by omega), hb.lt, fun j u hu => ?_⟩
  rw [tab_get] at hu
  have := h2 (o + i) (by omega) j u hu
  rw [add_mk, add_mk, hb.cell, ← this]
  congr 1; omega
/-- The four cells at one place, as walks spell them. -/
theorem RowAt.four (h : RowAt w g t M f) (i : Nat) (hi : i < M) :
    w.cell? ⟨g, i * 4, none⟩ = some (.int .i32 (f i).1) ∧ w.cell? ⟨g, i * 4 + 1, none⟩ = some (.int .i64 (f i).2.1) ∧ w.cell? ⟨g, i * 4 + 2, none⟩ = some (.int .i64 (f i).2.2.1) ∧ w.cell? ⟨g, i * 4 + 3, none⟩ = some (.int .i64 (f i).2.2.2) := by
  obtain ⟨cur, hb, h1, h2⟩ := h
  exact ⟨by rw [hb.cell]; exact h2 i hi 0 _ rfl, by rw [hb.cell]; exact h2 i hi 1 _ rfl, by rw [hb.cell]; exact h2 i hi 2 _ rfl, by rw [hb.cell]; exact h2 i hi 3 _ rfl⟩
/-- Some cells laid over it. -/
theorem RowAt.lay {cur : List Value} (h1 : M * 4 ≤ cur.length) (h2 : ∀ i, i < M → ∀ j u, (cellV (f i))[j]? = some u → cur[i * 4 + j]? = some u) (d k : Nat) (h : Nat → CellV) (hd : d + k ≤ M) (hb : Blk w' g t (splice cur (d * 4) ((tab k h).flatMap cellV))) :
    RowAt w' g t M (fun i => if d ≤ i ∧ i < d + k then h (i - d) else f i) := by
  have hl : ((tab k h).flatMap cellV).length = k * 4 := by rw [length_flatF length_cellV, length_tab]
  refine ⟨_, hb, by rw [length_splice _ _ _ (by omega)]; exact h1, fun i hi j u hu => ?_⟩
  have hj := cellV_lt hu
  rw [splice_at _ _ _ _ (by omega), hl]
  by_cases hc : d ≤ i ∧ i < d + k
  · simp only [if_pos hc] at hu
    rw [if_pos (by omega), show i * 4 + j - d * 4 = (i - d) * 4 + j by omega, flatF_at length_cellV (tab k h) (i - d) j (by rw [length_tab]; omega) hj, tab_get]
    exact hu
  · simp only [if_neg hc] at hu
    rw [if_neg (by omega)]
    exact h2 i hi j u hu
end
/-! ### copy of items of K cells -/
section
variable {P : Program} {w : World} {K : Nat}
theorem run_copy_rowK (dT sT ty elem : TypeId) (g o dLen dCap : Nat) (a : Addr) (sLen sCap : Nat) (cur : Array Value) (t : TypeId) (cs : List Value)
    (hu : P.underlying dT = some (.slice elem)) (hs : (P.info? elem).map (·.size) = some K)
    (hg : w.heap[g]? = some (.cells cur t (0, 0))) (hn : cs.length = Nat.min sLen dLen * K)
    (hsrc : ∀ j v, cs[j]? = some v → w.cell? (a.add j) = some v) (hfit : o + cs.length ≤ cur.size) (h1 : ∀ v ∈ cs, v.oneCell' = true) :
    (Builtin.copy_ #[dT, sT] ty #[.slice (some ⟨g, o, none⟩) dLen dCap, .slice (some a) sLen sCap]).run P w =
      .ok (goInt (Nat.min sLen dLen)) (w.setRow g (cur.toList.take o ++ cs ++ cur.toList.drop (o + cs.length)).toArray) := by
  have hl := run_loadCells_list (P := P) w a cs hsrc
  have hst := run_storeCells_at P g o t cs 0 cur w hg (by simpa using hfit) h1
  cases hq : P.info? elem with
  | none => simp [hq] at hs
  | some i =>
    have hi : i.size = K := by simpa [hq] using hs
    simp [Builtin.copy_, run_underlying hu, Builtin.lenOf, Builtin.firstCells, sizeOf, typeInfo, hq, hi, ← hn, hl, hst]
theorem run_copy_noneK (dT sT ty elem : TypeId) (d a : Option Addr) (dLen dCap sLen sCap : Nat) (hu : P.underlying dT = some (.slice elem)) (hs : (P.info? elem).map (·.size) = some K) (hn : Nat.min sLen dLen = 0) :
    (Builtin.copy_ #[dT, sT] ty #[.slice d dLen dCap, .slice a sLen sCap]).run P w = .ok (goInt 0) w := by
  cases hq : P.info? elem with
  | none => simp [hq] at hs
  | some i =>
    have hl : ∀ (x : Addr), (loadCells x 0).run P w = .ok #[] w := fun x => by simpa using run_loadCells_list (P := P) w x [] (by simp)
    cases d <;> cases a <;> simp [Builtin.copy_, run_underlying hu, Builtin.lenOf, Builtin.firstCells, sizeOf, typeInfo, hq, hn, storeCells, hl]
/-- copy of k cells onto place d of a block that holds cells, from wherever. -/
theorem run_copy_cellsK (dT sT ty elem : TypeId) (dp sp : Option Addr) (dLen dCap sLen sCap k : Nat) (hu : P.underlying dT = some (.slice elem)) (hs : (P.info? elem).map (·.size) = some 4) (hk : k = Nat.min sLen dLen)
    (g d M : Nat) (t : TypeId) (f h : Nat → CellV) (hR : RowAt w g t M f) (hd : d + k ≤ M) (hdp : 0 < k → dp = some ⟨g, d * 4, none⟩) (hsp : ReadsS cellV 4 w sp k sCap (tab k h)) :
    ∃ w', (Builtin.copy_ #[dT, sT] ty #[.slice dp dLen dCap, .slice sp sLen sCap]).run P w = .ok (goInt k) w' ∧ RowAt w' g t M (fun i => if d ≤ i ∧ i < d + k then h (i - d) else f i) ∧ w.grownBy w' (some g) := by
  rcases Nat.eq_zero_or_pos k with h0 | h0
  · subst h0
    exact ⟨w, run_copy_noneK dT sT ty elem dp sp dLen dCap sLen sCap hu hs hk.symm, hR.congr (fun i _ => by rw [if_neg (by omega)]), World.grownBy.refl _ _⟩
  · obtain ⟨cur, hb, h1, h2⟩ := hR
    have hl : ((tab k h).flatMap cellV).length = k * 4 := by rw [length_flatF length_cellV, length_tab]
    obtain ⟨ad, rfl, hlt⟩ := hsp.pos h0
    rw [hdp h0]
    refine ⟨_, ?_, RowAt.lay h1 h2 d k h hd (hb.splice_ _), only_setRow (World.grownBy.refl w _) _⟩
    have := run_copy_rowK (P := P) (w := w) (K := 4) dT sT ty elem g (d * 4) dLen dCap ad sLen sCap cur.toArray t ((tab k h).flatMap cellV) hu hs hb (by rw [hl, hk]) (fun j v hv => ?_) (by rw [hl]; simp; omega) (flatF_one one_cellV _)
    · rw [hk]
      rw [hk] at this
      simpa [splice] using this
    · have hj : j < k * 4 := by
        rcases Nat.lt_or_ge j (k * 4) with h | h
        · exact h
        · rw [List.getElem?_eq_none (by rw [hl]; exact h)] at hv; cases hv
      have hq : j / 4 < (tab k h).length := by rw [length_tab]; omega
      have e : j = j / 4 * 4 + j % 4 := by omega
      rw [e, flatF_at length_cellV _ _ _ hq (by omega)] at hv
      rw [e, ← add_add]
      exact hsp.at _ hq _ _ hv
end
section
variable {P : Program} {ops : Array Oper} {rest : List Oper} {o : Oper} {a : Act} {w : World} {Q : Exit → Act → World → Prop}
theorem wpList_copyK (hgd : o.guard = none) (x y : Operand) (dT sT : TypeId) (ho : o.op = .call { callee := .builtin .copy, args := #[x, y], argTypes := #[dT, sT] }) (elem : TypeId) (hu : P.underlying dT = some (.slice elem)) (hs : (P.info? elem).map (·.size) = some 4)
    (dp sp : Option Addr) (dLen dCap sLen sCap k : Nat) (hx : a.eval x = .slice dp dLen dCap) (hy : a.eval y = .slice sp sLen sCap) (hk : k = Nat.min sLen dLen)
    (g d M : Nat) (t : TypeId) (f h : Nat → CellV) (hR : RowAt w g t M f) (hd : d + k ≤ M) (hdp : 0 < k → dp = some ⟨g, d * 4, none⟩) (hsp : ReadsS cellV 4 w sp k sCap (tab k h))
    (hK : ∀ w', RowAt w' g t M (fun i => if d ≤ i ∧ i < d + k then h (i - d) else f i) → w.grownBy w' (some g) → wpList P ops Q rest (a.put o.dst (goInt k)) w') : wpList P ops Q (o :: rest) a w :=
  wpList_plain hgd fun K hK' => by
    obtain ⟨w', hrun, h1, h2⟩ := run_copy_cellsK (P := P) dT sT o.type elem dp sp dLen dCap sLen sCap k hu hs hk g d M t f h hR hd hdp hsp
    unfold Oper.wp
    simp [execOp, ho, resolve, invoke, builtin, hx, hy, hrun, Result.andThen]
    exact hK' _ _ (hK w' h1 h2)
theorem step_copyK {K : Act → World → Prop} {E : Prop} (hgd : o.guard = none) (x y : Operand) (dT sT : TypeId) (ho : o.op = .call { callee := .builtin .copy, args := #[x, y], argTypes := #[dT, sT] }) (elem : TypeId) (hu : P.underlying dT = some (.slice elem)) (hs : (P.info? elem).map (·.size) = some 4)
    (dp sp : Option Addr) (dLen dCap sLen sCap k : Nat) (hx : a.eval x = .slice dp dLen dCap) (hy : a.eval y = .slice sp sLen sCap) (hk : k = Nat.min sLen dLen)
    (g d M : Nat) (t : TypeId) (f h : Nat → CellV) (hR : RowAt w g t M f) (hd : d + k ≤ M) (hdp : 0 < k → dp = some ⟨g, d * 4, none⟩) (hsp : ReadsS cellV 4 w sp k sCap (tab k h))
    (hK : ∀ w', RowAt w' g t M (fun i => if d ≤ i ∧ i < d + k then h (i - d) else f i) → w.grownBy w' (some g) → K (a.put o.dst (goInt k)) w') : if Region.wanted o (yielded ops a.tmps) = true then Oper.wp P o a w K Q else E := by
  have hw : Region.wanted o (yielded ops a.tmps) = true := by simp [Region.wanted, hgd]
  rw [if_pos hw]
  obtain ⟨w', hrun, h1, h2⟩ := run_copy_cellsK (P := P) dT sT o.type elem dp sp dLen dCap sLen sCap k hu hs hk g d M t f h hR hd hdp hsp
  unfold Oper.wp
  simp [execOp, ho, resolve, invoke, builtin, hx, hy, hrun, Result.andThen]
  exact hK w' h1 h2
end
end Go.Proofs.Ytgmfmhlboehdoaa
