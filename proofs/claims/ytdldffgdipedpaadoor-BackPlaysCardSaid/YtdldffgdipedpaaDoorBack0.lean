/- Plain words for the proofs on package back: cells without the blanks at their end, lists of rows of cells in memory, the newest lines of a list. Conditions: none; it speaks of no program. -/
import Derived.Test.YtdldffgdipedpaaDoorCell0
import Derived.Test.YtdldffgdipedpaaDoorCut
namespace Go.Proofs.YtdldffgdipedpaaDoor
open Go.RowKit
/-- The blank of the zero pen. -/
def blankC : CellV := (32, 0, 0, 0)
/-- Of the first n cells: how many are left without the blanks at their end. -/
def cutN (l : List CellV) : Nat → Nat
  | 0 => 0
  | n + 1 => if l[n]? = some blankC then cutN l n else n + 1
def cutC (l : List CellV) : List CellV := l.take (cutN l l.length)
theorem cutN_blank {l : List CellV} {q : Nat} (h : q < l.length) (e : l[q] = blankC) : cutN l (q + 1) = cutN l q := by
  rw [cutN, if_pos (by rw [List.getElem?_eq_getElem h, e])]
theorem cutN_full {l : List CellV} {q : Nat} (h : q < l.length) (e : l[q] ≠ blankC) : cutN l (q + 1) = q + 1 := by
  rw [cutN, if_neg (by rw [List.getElem?_eq_getElem h]; exact fun h => e (Option.some.inj h))]
theorem cutN_le (l : List CellV) (n : Nat) : cutN l n ≤ n := by
  induction n with
  | zero => exact Nat.le_refl _
  | succ n ih =>
    rw [cutN]
    split
    · omega
    · omega
theorem cutN_behind {l : List CellV} {n i : Nat} (hn : n ≤ l.length) (h1 : cutN l n ≤ i) (h2 : i < n) : ∃ h : i < l.length, l[i] = blankC := by
  induction n with
  | zero => omega
  | succ n ih =>
    rw [cutN] at h1
    split at h1
    · rename_i e
      rcases Nat.lt_or_ge i n with h | h
      · exact ih (by omega) h1 h
      · obtain rfl : i = n := by omega
        have hi : i < l.length := by omega
        rw [List.getElem?_eq_getElem hi] at e
        exact ⟨hi, Option.some.inj e⟩
    · omega
theorem cutN_last {l : List CellV} {n q : Nat} (hn : n ≤ l.length) (h : cutN l n = q + 1) : ∃ h : q < l.length, l[q] ≠ blankC := by
  induction n with
  | zero => cases h
  | succ n ih =>
    rw [cutN] at h
    split at h
    · exact ih (by omega) h
    · rename_i e
      obtain rfl : n = q := by omega
      have hq : n < l.length := by omega
      rw [List.getElem?_eq_getElem hq] at e
      exact ⟨hq, fun h => e (by rw [h])⟩
theorem cutN_take (l : List CellV) (m n : Nat) (h : n ≤ m) : cutN (l.take m) n = cutN l n := by
  induction n with
  | zero => rfl
  | succ n ih => rw [cutN, cutN, ih (by omega), List.getElem?_take_of_lt (by omega)]
theorem length_cutC (l : List CellV) : (cutC l).length = cutN l l.length := by
  rw [cutC, List.length_take, Nat.min_eq_left (cutN_le _ _)]
/-! ### The first cells of a slice -/
theorem readsS_pre {α : Type} {f : α → List Value} {K : Nat} {w : World} {A : Option Addr} {n c : Nat} {l : List α} (h : ReadsS f K w A n c l) (m : Nat) (hm : m ≤ n) : ReadsS f K w A m c (l.take m) :=
  ⟨by rw [List.length_take, h.len]; omega, Nat.le_trans hm h.room, h.cap, fun i hi => by
    have hi' : i < l.length := by rw [List.length_take] at hi; omega
    obtain ⟨ad, e, hlt, hc⟩ := h.cell i hi'
    exact ⟨ad, e, hlt, by rw [List.getElem_take]; exact hc⟩⟩
theorem readsS_blk {α : Type} {f : α → List Value} {K : Nat} {w : World} {g : Nat} {t : TypeId} {l : List α} {n : Nat} (hf : ∀ x, (f x).length = K) (h : Blk w g t (l.flatMap f)) (hl : l.length = n) (hm : n ≤ maxLen) : ReadsS f K w (some ⟨g, 0, none⟩) n n l := by
  refine ⟨hl, Nat.le_refl _, hm, fun i hi => ⟨_, rfl, h.lt, fun j u hu => ?_⟩⟩
  have hj : j < K := by
    rcases Nat.lt_or_ge j K with h | h
    · exact h
    · rw [List.getElem?_eq_none (by rw [hf]; exact h)] at hu; cases hu
  rw [add_add]
  exact h.all _ _ (by rw [flatF_at hf l i j hi hj]; exact hu)
theorem run_sizeK {P : Program} {e : TypeId} {K : Nat} (hs : (P.info? e).map (·.size) = some K) (w : World) : (sizeOf e).run P w = .ok K w := by
  cases hq : P.info? e with
  | none => simp [hq] at hs
  | some i =>
    have : i.size = K := by simpa [hq] using hs
    simp [sizeOf, typeInfo, hq, this]
section
variable {P : Program} {ops : Array Oper} {rest : List Oper} {o : Oper} {a : Act} {w : World} {Q : Exit → Act → World → Prop} {t e : TypeId} {A : Option Addr} {N C K : Nat}
/-- s[:n] of a slice of structs: the same address. -/
theorem wpList_cut_hK (hgd : o.guard = none) (x hi : Operand) (ho : o.op = .slice t x none (some hi) none) (hu : P.underlying t = some (.slice e)) (hs : (P.info? e).map (·.size) = some K)
    (hx : a.eval x = .slice A N C) (kh : IntKind) (m : Nat) (vj : Int) (hhi : a.eval hi = .int kh vj) (e2 : vj = (m : Int)) (hm : m ≤ C)
    (h : wpList P ops Q rest (a.put o.dst (.slice A m C)) w) : wpList P ops Q (o :: rest) a w :=
  wpList_plain hgd fun W hW => by
    have ht : P.underlying t = some (.slice (P.elem t)) := by rw [elem_of hu]; exact hu
    have hrun : (Instr.sliceAt t (.slice A N C) none (some (.int kh vj)) none).run P w = .ok (.slice A m C) w := by
      subst e2
      rw [run_sliceAt_slice (P := P) w t _ _ _ _ ht, run_slice_h (P := P) w t A N C ht kh (m : Int) (by omega) (by omega), elem_of hu, run_sizeK hs]
      simp [Result.andThen, sliced, Addr.add]
    unfold Oper.wp execOp
    simp only [ho, Option.map_some, Option.map_none, hx, hhi, hrun, Sem.run_bind, Sem.run_pure, Result.andThen_ok]
    exact hW _ _ h
end
/-! ### Rows of cells that lie outside some blocks, and lists of them -/
/-- The value v is a slice that reads as the cells l, outside F. -/
def RowS (F : Nat → Prop) (w : World) (v : Value) (l : List CellV) : Prop := ∃ R m c, v = .slice R m c ∧ ReadsS cellV 4 w R m c l ∧ (0 < m → ∀ rd, R = some rd → ¬ F rd.block)
section
variable {F G : Nat → Prop} {w w' : World} {v : Value} {l : List CellV}
theorem RowS.chg (h : RowS F w v l) (k : Chg F w w') : RowS F w' v l := by
  obtain ⟨R, m, c, rfl, hr, ho⟩ := h
  exact ⟨R, m, c, rfl, hr.chg k ho, ho⟩
theorem RowS.below (h : RowS F w v l) (k : Below w.heap.size w w') : RowS F w' v l := h.chg (Chg.of_below k)
theorem RowS.of_heap (h : RowS F w v l) (e : w'.heap = w.heap) : RowS F w' v l := by
  obtain ⟨R, m, c, rfl, hr, ho⟩ := h
  exact ⟨R, m, c, rfl, hr.of_heap e, ho⟩
theorem RowS.other (h : RowS F w v l) (hG : ∀ i, i < w.heap.size → G i → F i) : RowS G w v l := by
  obtain ⟨R, m, c, rfl, hr, ho⟩ := h
  refine ⟨R, m, c, rfl, hr, fun h0 rd e hf => ?_⟩
  obtain ⟨ad, e2, hlt⟩ := hr.pos h0
  rw [e] at e2
  cases e2
  exact ho h0 rd e (hG _ hlt hf)
theorem RowS.pre {R : Option Addr} {m c : Nat} (h : RowS F w (.slice R m c) l) (k : Nat) (hk : k ≤ m) : RowS F w (.slice R k c) (l.take k) := by
  obtain ⟨R', m', c', e, hr, ho⟩ := h
  cases e
  exact ⟨R, k, c, rfl, readsS_pre hr k hk, fun h0 => ho (by omega)⟩
theorem RowS.reads {R : Option Addr} {m c : Nat} (h : RowS F w (.slice R m c) l) : ReadsS cellV 4 w R m c l := by
  obtain ⟨R', m', c', e, hr, _⟩ := h
  cases e
  exact hr
theorem RowS.fresh {W : World} {R : Option Addr} {m c : Nat} (hr : ReadsS cellV 4 w R m c l) (hn : ∀ rd, R = some rd → W.heap.size ≤ rd.block) (hF : ∀ i, F i → i < W.heap.size) : RowS F w (.slice R m c) l :=
  ⟨R, m, c, rfl, hr, fun _ rd e hf => by have := hn rd e; have := hF _ hf; omega⟩
end
/-- A slice of slices of cells reads as a list of rows; it lies outside F, its rows too. -/
structure ReadsR (F : Nat → Prop) (w : World) (A : Option Addr) (n c : Nat) (ls : List (List CellV)) : Prop where
  len : ls.length = n
  room : n ≤ c
  cap : c ≤ maxLen
  row : ∀ i, (h : i < ls.length) → ∃ ad v, A = some ad ∧ ad.block < w.heap.size ∧ ¬ F ad.block ∧ w.cell? (ad.add i) = some v ∧ RowS F w v ls[i]
section
variable {F G : Nat → Prop} {w w' : World} {A : Option Addr} {n c : Nat} {ls : List (List CellV)}
theorem ReadsR.nil (h : c ≤ maxLen) : ReadsR F w A 0 c [] := ⟨rfl, Nat.zero_le _, h, by simp⟩
theorem ReadsR.chg (h : ReadsR F w A n c ls) (k : Chg F w w') : ReadsR F w' A n c ls :=
  ⟨h.len, h.room, h.cap, fun i hi => by
    obtain ⟨ad, v, e, hlt, hn, hc, hr⟩ := h.row i hi
    exact ⟨ad, v, e, Nat.lt_of_lt_of_le hlt k.size, hn, by rw [← hc]; exact World.cell?_of_block (k.block _ (by rw [block_add]; exact hlt) (by rw [block_add]; exact hn)), hr.chg k⟩⟩
theorem ReadsR.below (h : ReadsR F w A n c ls) (k : Below w.heap.size w w') : ReadsR F w' A n c ls := h.chg (Chg.of_below k)
theorem ReadsR.of_heap (h : ReadsR F w A n c ls) (e : w'.heap = w.heap) : ReadsR F w' A n c ls :=
  ⟨h.len, h.room, h.cap, fun i hi => by
    obtain ⟨ad, v, ea, hlt, hn, hc, hr⟩ := h.row i hi
    exact ⟨ad, v, ea, by rw [e]; exact hlt, hn, by rw [← hc]; exact World.cell?_of_block (by rw [e]), hr.of_heap e⟩⟩
theorem ReadsR.other (h : ReadsR F w A n c ls) (hG : ∀ i, i < w.heap.size → G i → F i) : ReadsR G w A n c ls :=
  ⟨h.len, h.room, h.cap, fun i hi => by
    obtain ⟨ad, v, e, hlt, hn, hc, hr⟩ := h.row i hi
    exact ⟨ad, v, e, hlt, fun hf => hn (hG _ hlt hf), hc, hr.other hG⟩⟩
/-- The values of the rows, one behind the other. -/
theorem ReadsR.vals (h : ReadsR F w A n c ls) : ∃ vs : List Value, vs.length = n ∧ (∀ i, (hi : i < ls.length) → ∃ v, vs[i]? = some v ∧ RowS F w v ls[i]) ∧ (∀ v ∈ vs, v.oneCell' = true) ∧ ∀ ad, A = some ad → ∀ j u, vs[j]? = some u → w.cell? (ad.add j) = some u := by
  have : ∀ k, k ≤ n → ∃ vs : List Value, vs.length = k ∧ (∀ i, (hi : i < ls.length) → i < k → ∃ v, vs[i]? = some v ∧ RowS F w v ls[i]) ∧ (∀ v ∈ vs, v.oneCell' = true) ∧ ∀ ad, A = some ad → ∀ j u, vs[j]? = some u → w.cell? (ad.add j) = some u := by
    intro k
    induction k with
    | zero => intro _; exact ⟨[], rfl, fun _ _ h => by omega, by simp, by simp⟩
    | succ k ih =>
      intro hk
      obtain ⟨vs, h1, h2, h3, h4⟩ := ih (by omega)
      have hkl : k < ls.length := by rw [h.len]; omega
      obtain ⟨ad, v, e, hlt, hn, hc, hr⟩ := h.row k hkl
      refine ⟨vs ++ [v], by simp [h1], fun i hi hik => ?_, fun u hu => ?_, fun ad' e' j u hu => ?_⟩
      · rcases Nat.lt_or_ge i k with hlt' | hge
        · obtain ⟨v', e1, e2⟩ := h2 i hi hlt'
          exact ⟨v', by rw [List.getElem?_append_left (by omega)]; exact e1, e2⟩
        · obtain rfl : i = k := by omega
          exact ⟨v, by rw [List.getElem?_append_right (by omega), h1]; simp, hr⟩
      · rcases List.mem_append.1 hu with hu | hu
        · exact h3 u hu
        · obtain rfl : u = v := by simpa using hu
          obtain ⟨R, m, c', rfl, _⟩ := hr
          rfl
      · rw [e] at e'
        cases e'
        rcases Nat.lt_or_ge j k with hlt' | hge
        · rw [List.getElem?_append_left (by omega)] at hu
          exact h4 ad e j u hu
        · rw [List.getElem?_append_right (by omega), h1] at hu
          obtain rfl : j = k := by
            rcases Nat.lt_or_ge k j with h5 | h5
            · rw [List.getElem?_eq_none (by simp; omega)] at hu; cases hu
            · omega
          simp only [Nat.sub_self, List.getElem?_cons_zero] at hu
          cases hu
          exact hc
  obtain ⟨vs, h1, h2, h3, h4⟩ := this n (Nat.le_refl _)
  exact ⟨vs, h1, fun i hi => h2 i hi (by have := h.len; omega), h3, h4⟩
/-- A row of slices of the call's own reads as a list of rows. -/
theorem ReadsR.of_own {base : Nat} {e : TypeId} {v : Value} {vs : List Value} (h : w.ownsRow base e 1 v n vs) (hl : ls.length = n) (hF : ∀ i, F i → i < base) (hv : ∀ i, (hi : i < ls.length) → ∃ v, vs[i]? = some v ∧ RowS F w v ls[i]) :
    ∃ A c, v = .slice A n c ∧ ReadsR F w A n c ls ∧ ∀ ad, A = some ad → base ≤ ad.block := by
  have hlen := h.1
  rcases h.2 with ⟨rfl, rfl⟩ | ⟨g, cap, cur, rfl, hb, hh, hn, hm, hs, ht⟩
  · have : ls = [] := List.eq_nil_of_length_eq_zero hl
    subst this
    exact ⟨none, 0, rfl, .nil (by simp [maxLen]), by simp⟩
  · refine ⟨_, cap, rfl, ⟨hl, hn, hm, fun i hi => ?_⟩, fun ad e => by cases e; exact hb⟩
    obtain ⟨v, e1, e2⟩ := hv i hi
    exact ⟨_, v, rfl, (Array.getElem?_eq_some_iff.1 hh).1, fun hf => by have h1 := hF _ hf; have h2 : base ≤ g := hb; exact absurd h1 (Nat.not_lt.2 h2), h.cells (g := g) rfl i v e1, e2⟩
theorem ReadsR.suf (h : ReadsR F w A n c ls) (i : Nat) (hi : i ≤ n) : ReadsR F w (if c = i then A else A.map fun x => x.add i) (n - i) (c - i) (ls.drop i) := by
  have h1 := h.room
  have h2 := h.cap
  refine ⟨by rw [List.length_drop, h.len], by omega, by omega, fun j hj => ?_⟩
  have hj' : i + j < ls.length := by rw [List.length_drop] at hj; omega
  obtain ⟨ad, v, rfl, hlt, hn, hc, hr⟩ := h.row (i + j) hj'
  have hne : c ≠ i := by have := h.len; omega
  rw [if_neg hne]
  exact ⟨_, v, rfl, by rw [block_add]; exact hlt, by rw [block_add]; exact hn, by rw [add_add]; exact hc, by rw [List.getElem_drop]; exact hr⟩
end
section
variable {P : Program} {ops : Array Oper} {rest : List Oper} {o : Oper} {a : Act} {w : World} {Q : Exit → Act → World → Prop} {t e : TypeId} {A : Option Addr} {N C : Nat}
/-- s[i:] of a slice of slices. -/
theorem wpList_cut_lR (hgd : o.guard = none) (x lo : Operand) (ho : o.op = .slice t x (some lo) none none) (hu : P.underlying t = some (.slice e)) (hs : (P.info? e).map (·.size) = some 1)
    (hx : a.eval x = .slice A N C) (kl : IntKind) (i : Nat) (vi : Int) (hlo : a.eval lo = .int kl vi) (e1 : vi = (i : Int)) (hm : i ≤ N)
    (h : ∀ A', (∀ F W L, ReadsR F W A N C L → ReadsR F W A' (N - i) (C - i) (L.drop i)) → wpList P ops Q rest (a.put o.dst (.slice A' (N - i) (C - i))) w) : wpList P ops Q (o :: rest) a w :=
  wpList_plain hgd fun K hK => by
    have ht : P.underlying t = some (.slice (P.elem t)) := by rw [elem_of hu]; exact hu
    have hrun : (Instr.sliceAt t (.slice A N C) (some (.int kl vi)) none none).run P w = .ok (.slice (if C = i then A else A.map fun x => x.add i) (N - i) (C - i)) w := by
      subst e1
      rw [run_sliceAt_slice (P := P) w t _ _ _ _ ht, run_slice_l (P := P) w t A N C ht kl (i : Int) (by omega) (by omega), elem_of hu, run_size1 hs]
      simp [Result.andThen, sliced]
    unfold Oper.wp execOp
    simp only [ho, Option.map_some, Option.map_none, hx, hlo, hrun, Sem.run_bind, Sem.run_pure, Result.andThen_ok]
    exact hK _ _ (h _ fun F W L hr => hr.suf i hm)
/-- append onto a row of the call's own, from whatever slice of values of one cell each. -/
theorem wpList_appO (hgd : o.guard = none) (s x : Operand) (t : TypeId) (ho : o.op = .call { callee := .builtin .append, args := #[s, x], argTypes := #[t, t] })
    (base : Nat) (e : TypeId) (i : TypeInfo) (z : Value) (bytes : Nat) (ht : P.underlying t = some (.slice e)) (hi : P.info? e = some i) (hz : i.zero = some z)
    (hsize : i.size = 1) (hby : i.bytes = bytes) (hzs : z.cells.size = 1)
    (v : Value) (n : Nat) (xs : List Value) (hs : a.eval s = v) (hown : w.ownsRow base e 1 v n xs)
    (A : Option Addr) (m c : Nat) (vs : List Value) (hx : a.eval x = .slice A m c) (hl : vs.length = m) (hA : A = none → m = 0) (hv : ∀ ad, A = some ad → ∀ j u, vs[j]? = some u → w.cell? (ad.add j) = some u) (h1 : ∀ v ∈ vs, v.oneCell' = true)
    (h63 : n + m ≤ maxLen) (hbytes : (n + m) * bytes ≤ 140737488355328) (hbase : base ≤ w.heap.size)
    (h : ∀ v' w', w'.ownsRow base e 1 v' (n + m) (xs ++ vs) → w.grownBy w' v.ownBlock → wpList P ops Q rest (a.put o.dst v') w') : wpList P ops Q (o :: rest) a w := by
  cases A with
  | none =>
    have hm : m = 0 := hA rfl
    subst hm
    have hl : vs = [] := List.eq_nil_of_length_eq_zero hl
    subst hl
    have hrun : (Builtin.append_ #[t, t] o.type #[v, .slice none 0 c]).run P w = .ok v w := by
      rcases hown.2 with ⟨rfl, rfl⟩ | ⟨g, cap, cur, rfl, _, _, hnc, _⟩
      · simp [Builtin.append_, run_underlying ht, sizeOf, typeInfo, hi, Builtin.lenOf, Builtin.firstCells]
      · simp [Builtin.append_, run_underlying ht, sizeOf, typeInfo, hi, Builtin.lenOf, Builtin.firstCells, hnc, storeCells]
    refine wpList_plain hgd fun K hK => ?_
    have := hK _ _ (h v w (by simpa using hown) (World.grownBy.refl w _))
    unfold Oper.wp execOp
    simp only [ho, resolve, invoke, builtin, Sem.run_bind, Sem.run_pure, Result.andThen_ok, List.map_toArray, List.map_cons, List.map_nil, hs, hx, hrun]
    exact this
  | some ad => exact wpList_append_own_at w hgd s x t ho base e i z 1 bytes ht hi hz hsize hby hzs (by decide) v n xs hs hown ad m c vs hx (by omega) (hv ad rfl) h1 h63 hbytes hbase (fun v' w' h1 h2 _ _ => h v' w' h1 h2)
end
theorem ReadsR.pos {F : Nat → Prop} {w : World} {n c : Nat} {ls : List (List CellV)} (h : ReadsR F w none n c ls) : n = 0 := by
  rcases Nat.eq_zero_or_pos n with h0 | h0
  · exact h0
  · obtain ⟨ad, v, e, _⟩ := h.row 0 (by rw [h.len]; exact h0)
    cases e
/-- One line more, of at most so many. -/
def pushL (most : Nat) (ls : List (List CellV)) (y : List CellV) : List (List CellV) := if most < ls.length + 1 then (ls ++ [y]).drop 1 else ls ++ [y]
/-! ### The newest lines -/
/-- The newest most of them. -/
def lastL (most : Nat) (all : List (List CellV)) : List (List CellV) := all.drop (all.length - most)
theorem length_lastL (most : Nat) (all : List (List CellV)) : (lastL most all).length = min all.length most := by rw [lastL, List.length_drop]; omega
theorem lastL_room {most : Nat} {all : List (List CellV)} (y : List CellV) (h : all.length < most) : lastL most (all ++ [y]) = lastL most all ++ [y] := by
  rw [lastL, lastL, List.length_append, List.length_singleton, show all.length + 1 - most = 0 by omega, show all.length - most = 0 by omega]
  rfl
theorem lastL_full {most : Nat} {all : List (List CellV)} (y : List CellV) (h : most ≤ all.length) : lastL most (all ++ [y]) = (lastL most all ++ [y]).drop 1 := by
  rw [lastL, lastL, List.length_append, List.length_singleton, show all.length + 1 - most = (all.length - most) + 1 by omega, ← List.drop_drop, List.drop_append_of_le_length (by omega)]
theorem lastL_push (most : Nat) (all : List (List CellV)) (y : List CellV) : pushL most (lastL most all) y = lastL most (all ++ [y]) := by
  unfold pushL
  rw [length_lastL]
  split
  · rw [lastL_full y (by omega)]
  · rw [lastL_room y (by omega)]
theorem lastL_at {most : Nat} {all : List (List CellV)} (i : Nat) (h : i < min all.length most) : ∃ (h1 : min all.length most - 1 - i < (lastL most all).length) (h2 : all.length - 1 - i < all.length), (lastL most all)[min all.length most - 1 - i] = all[all.length - 1 - i] := by
  refine ⟨by rw [length_lastL]; omega, by omega, ?_⟩
  simp only [lastL, List.getElem_drop]
  congr 1
  omega
end Go.Proofs.YtdldffgdipedpaaDoor
