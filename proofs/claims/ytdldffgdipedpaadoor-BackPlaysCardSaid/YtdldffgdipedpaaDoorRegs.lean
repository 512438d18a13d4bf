/- Plain words on memory that the walks share: rows of the call's own, slices and lists of slices read as lists, whole arrays out of and into blocks, in plain regions and in those that draw their order. Conditions: none; it speaks of no program. -/
import Derived.Test.YtdldffgdipedpaaDoorShaMath
import Derived.Test.YtdldffgdipedpaaDoorOpen
import Derived.Maps.AppendAt
import Derived.Deep.RegionHeld3
namespace Go.Proofs.YtdldffgdipedpaaDoor
open Go.ChangeShapes Go.WideShapes Go.RowKit
/-- A slice whose cells lie outside block g. -/
def Off (A : Option Addr) (g : Nat) : Prop := ∀ ad, A = some ad → ad.block ≠ g
theorem Reads.only {w w' : World} {g : Nat} {k : IntKind} {A : Option Addr} {n c : Nat} {l : List Nat} (h : Reads k w A n c l) (ho : Off A g) (hb : w.grownBy w' (some g)) : Reads k w' A n c l :=
  ⟨h.len, h.room, h.cap, h.wf, fun i hi => by
    obtain ⟨ad, e, hlt, hc⟩ := h.cell i hi
    refine ⟨ad, e, Nat.lt_of_lt_of_le hlt hb.size, ?_⟩
    rw [← hc]
    exact World.cell?_of_block (hb.block _ (by rw [block_add]; exact hlt) (by rw [block_add]; intro e'; injection e' with e'; exact ho ad e e'))⟩
theorem only_of_drew {w w' : World} {row : Option Nat} (h : w.drew.grownBy w' row) : w.grownBy w' row := ⟨h.os, h.tape, h.output, h.size, h.block⟩
/-- copy into a block that is known whole, as one step of a region that draws. -/
theorem step_copy_g {P : Program} {ops : Array Oper} {o : Oper} {a : Act} {w : World} {K : Act → World → Prop} {Q : Exit → Act → World → Prop} {E : Prop} (hgd : o.guard = none) (d s : Operand) (dT sT : TypeId)
    (ho : o.op = .call { callee := .builtin .copy, args := #[d, s], argTypes := #[dT, sT] }) (elem : TypeId) (hu : P.underlying dT = some (.slice elem)) (hsz : (P.info? elem).map (·.size) = some 1)
    (dp sp : Option Addr) (dLen dCap sLen sCap : Nat) (hd : a.eval d = .slice dp dLen dCap) (hs : a.eval s = .slice sp sLen sCap)
    (g off : Nat) (cur : List Value) (t : TypeId) (hg : Blk w g t cur) (cs : List Value) (hn : cs.length = Nat.min sLen dLen)
    (hpos : 0 < cs.length → dp = some ⟨g, off, none⟩ ∧ ∃ ad, sp = some ad ∧ ∀ j v, cs[j]? = some v → w.cell? (ad.add j) = some v)
    (hfit : off + cs.length ≤ cur.length) (h1 : ∀ v ∈ cs, v.oneCell' = true)
    (h : ∀ w', Blk w' g t (splice cur off cs) → w.grownBy w' (some g) → K (a.put o.dst (goInt cs.length)) w') :
    if Region.wanted o (yielded ops a.tmps) = true then Oper.wp P o a w K Q else E := by
  have hw : Region.wanted o (yielded ops a.tmps) = true := by simp [Region.wanted, hgd]
  rw [if_pos hw]
  by_cases h0 : cs.length = 0
  · obtain rfl : cs = [] := List.eq_nil_of_length_eq_zero h0
    have hrun := run_copy_none (P := P) w dT sT o.type elem dp sp dLen dCap sLen sCap hu hsz (by simpa using hn.symm)
    unfold Oper.wp
    simp [execOp, ho, resolve, invoke, builtin, hd, hs, hrun, Result.andThen]
    exact h w (by simpa [splice] using hg) (World.grownBy.refl w _)
  · obtain ⟨rfl, ad, rfl, hsrc⟩ := hpos (by omega)
    have hrun := run_copy_row (P := P) w dT sT o.type elem g off dLen dCap ad sLen sCap cur.toArray t cs hu hsz hg hn hsrc (by simpa using hfit) h1
    unfold Oper.wp
    simp [execOp, ho, resolve, invoke, builtin, hd, hs, hrun, Result.andThen]
    have := h _ (hg.splice_ (off := off) cs) (only_setRow (World.grownBy.refl w _) _)
    simp only [splice] at this
    exact this
/-- A row of the call's own that is being made longer. -/
def Mine (w wr : World) (e : TypeId) (v : Value) (n : Nat) (xs : List Value) : Prop := wr.ownsRow w.heap.size e 1 v n xs ∧ Below w.heap.size w wr
theorem own_form {w : World} {base : Nat} {e : TypeId} {v : Value} {n : Nat} {xs : List Value} (h : w.ownsRow base e 1 v n xs) : ∃ A c, v = .slice A n c := by
  rcases h.2 with ⟨rfl, rfl⟩ | ⟨g, cap, cur, rfl, _⟩
  · exact ⟨none, 0, rfl⟩
  · exact ⟨_, _, rfl⟩
theorem own_base {w : World} {base : Nat} {e : TypeId} {v : Value} {n : Nat} {xs : List Value} (h : w.ownsRow base e 1 v n xs) : ∀ g, v.ownBlock = some g → base ≤ g := by
  intro g hg
  rcases h.2 with ⟨rfl, rfl⟩ | ⟨g', cap, cur, rfl, hb, _⟩
  · simp [Value.ownBlock] at hg
  · simp [Value.ownBlock] at hg; omega
theorem mine_grown {w wr w' : World} {e : TypeId} {v v' : Value} {n m : Nat} {xs ys : List Value} (h : Mine w wr e v n xs) (o : Obj) (ho : w'.ownsRow w.heap.size e 1 v' m ys) (hg : (wr.alloc o).grownBy w' v.ownBlock) : Mine w w' e v' m ys :=
  ⟨ho, (h.2.alloc h.2.size o).grown hg (by have := h.2.size; simp; omega) (own_base h.1)⟩
/-- It returns a new row that holds xs. -/
def RowPost (w : World) (e : TypeId) (n : Nat) (xs : List Value) (en : Ending) (w' : World) : Prop := ∃ v, en = .returned v ∧ Mine w w' e v n xs
theorem mine_pos {w wr : World} {e : TypeId} {v : Value} {n : Nat} {xs : List Value} (h : Mine w wr e v n xs) (hn : 0 < n) : ∃ g c, v = .slice (some ⟨g, 0, none⟩) n c ∧ w.heap.size ≤ g ∧ g < wr.heap.size := by
  rcases h.1.2 with ⟨rfl, rfl⟩ | ⟨g, cap, cur, rfl, hb, hh, _⟩
  · omega
  · refine ⟨g, cap, rfl, hb, ?_⟩
    rcases Nat.lt_or_ge g wr.heap.size with hlt | hge
    · exact hlt
    · rw [Array.getElem?_eq_none hge] at hh; cases hh
theorem mine_below {w wr w' : World} {e : TypeId} {v : Value} {n : Nat} {xs : List Value} (h : Mine w wr e v n xs) (hb : Below wr.heap.size wr w') : Mine w w' e v n xs := by
  refine ⟨⟨h.1.1, ?_⟩, h.2.trans (hb.mono h.2.size)⟩
  rcases h.1.2 with h0 | ⟨g, cap, cur, rfl, h1, h2, h3⟩
  · exact .inl h0
  · refine .inr ⟨g, cap, cur, rfl, h1, ?_, h3⟩
    rw [hb.block g (by rcases Nat.lt_or_ge g wr.heap.size with hlt | hge; exact hlt; rw [Array.getElem?_eq_none hge] at h2; cases h2)]
    exact h2
theorem mine_drewN {w wr : World} {e : TypeId} {v : Value} {n : Nat} {xs : List Value} (h : Mine w wr e v n xs) (k : Nat) : Mine w (wr.drewN k) e v n xs := ⟨h.1, belowDrewN h.2 k⟩
/-- append onto a row of the call's own, from whatever slice of integers. -/
theorem wpList_app {P : Program} {w : World} {ops : Array Oper} {rest : List Oper} {o : Oper} {a : Act} {Q : Exit → Act → World → Prop} (hgd : o.guard = none) (s x : Operand) (t : TypeId)
    (ho : o.op = .call { callee := .builtin .append, args := #[s, x], argTypes := #[t, t] })
    (base : Nat) (e : TypeId) (i : TypeInfo) (z : Value) (bytes : Nat) (ht : P.underlying t = some (.slice e)) (hi : P.info? e = some i) (hz : i.zero = some z)
    (hsize : i.size = 1) (hby : i.bytes = bytes) (hzs : z.cells.size = 1)
    (v : Value) (n : Nat) (xs : List Value) (hs : a.eval s = v) (hown : w.ownsRow base e 1 v n xs)
    (k : IntKind) (A : Option Addr) (m c : Nat) (l : List Nat) (hx : a.eval x = .slice A m c) (hr : Reads k w A m c l)
    (h63 : n + m ≤ maxLen) (hbytes : (n + m) * bytes ≤ 140737488355328) (hbase : base ≤ w.heap.size)
    (h : ∀ v' w', w'.ownsRow base e 1 v' (n + m) (xs ++ ints k l) → w.grownBy w' v.ownBlock → wpList P ops Q rest (a.put o.dst v') w') : wpList P ops Q (o :: rest) a w := by
  cases A with
  | none =>
    have hm : m = 0 := by
      rcases Nat.eq_zero_or_pos m with h0 | h0
      · exact h0
      · obtain ⟨ad, e', _⟩ := hr.cell 0 (by rw [hr.len]; exact h0)
        cases e'
    subst hm
    have hl : l = [] := List.eq_nil_of_length_eq_zero hr.len
    subst hl
    have hrun : (Builtin.append_ #[t, t] o.type #[v, .slice none 0 c]).run P w = .ok v w := by
      rcases hown.2 with ⟨rfl, rfl⟩ | ⟨g, cap, cur, rfl, _, _, hnc, _⟩
      · simp [Builtin.append_, run_underlying ht, sizeOf, typeInfo, hi, Builtin.lenOf, Builtin.firstCells]
      · simp [Builtin.append_, run_underlying ht, sizeOf, typeInfo, hi, Builtin.lenOf, Builtin.firstCells, hnc, storeCells]
    refine wpList_plain hgd fun K hK => ?_
    have := hK _ _ (h v w (by simpa [ints] using hown) (World.grownBy.refl w _))
    unfold Oper.wp execOp
    simp only [ho, resolve, invoke, builtin, Sem.run_bind, Sem.run_pure, Result.andThen_ok, List.map_toArray, List.map_cons, List.map_nil, hs, hx, hrun]
    exact this
  | some ad =>
    refine wpList_append_own_at w hgd s x t ho base e i z 1 bytes ht hi hz hsize hby hzs (by decide) v n xs hs hown ad m c (ints k l) hx (by rw [length_ints, hr.len]; omega) (fun j u hu => ?_) (ints_oneCell _ _) h63 hbytes hbase (fun v' w' h1 h2 _ _ => h v' w' h1 h2)
    have hj : j < l.length := by
      rcases Nat.lt_or_ge j l.length with h | h
      · exact h
      · rw [List.getElem?_eq_none (by rw [length_ints]; exact h)] at hu; cases hu
    obtain ⟨ad', e', _, hc⟩ := hr.cell j hj
    cases e'
    rw [hc, ← hu]
    simp [ints, hj]
theorem own_lt {w : World} {base : Nat} {e : TypeId} {v : Value} {n : Nat} {xs : List Value} (h : w.ownsRow base e 1 v n xs) : ∀ g, v.ownBlock = some g → g < w.heap.size := by
  intro g hg
  rcases h.2 with ⟨rfl, rfl⟩ | ⟨g', cap, cur, rfl, _, hh, _⟩
  · simp [Value.ownBlock] at hg
  · have : g' = g := by simpa [Value.ownBlock] using hg
    subst this
    rcases Nat.lt_or_ge g' w.heap.size with hlt | hge
    · exact hlt
    · rw [Array.getElem?_eq_none hge] at hh; cases hh
theorem own_keep {w w' : World} {base : Nat} {e : TypeId} {v : Value} {n : Nat} {xs : List Value} {row : Option Nat} (h : w.ownsRow base e 1 v n xs) (hb : w.grownBy w' row) (hne : ∀ g, v.ownBlock = some g → row ≠ some g) : w'.ownsRow base e 1 v n xs := by
  refine ⟨h.1, ?_⟩
  rcases h.2 with h0 | ⟨g, cap, cur, rfl, h1, h2, h3⟩
  · exact .inl h0
  · refine .inr ⟨g, cap, cur, rfl, h1, ?_, h3⟩
    rw [hb.block g (by rcases Nat.lt_or_ge g w.heap.size with hlt | hge; exact hlt; rw [Array.getElem?_eq_none hge] at h2; cases h2) (fun e => hne g rfl e.symm)]
    exact h2
theorem own_weaken {w : World} {b b' : Nat} {e : TypeId} {v : Value} {n : Nat} {xs : List Value} (h : w.ownsRow b e 1 v n xs) (hb : b' ≤ b) : w.ownsRow b' e 1 v n xs :=
  ⟨h.1, h.2.imp id (fun ⟨g, cap, cur, e, h1, h2⟩ => ⟨g, cap, cur, e, Nat.le_trans hb h1, h2⟩)⟩
/-- Two rows that lie in no common block. -/
def Two (u v : Value) : Prop := ∀ g, u.ownBlock = some g → v.ownBlock ≠ some g
theorem Two.symm {u v : Value} (h : Two u v) : Two v u := fun g h1 h2 => h g h2 h1
theorem Two.step {w : World} {base : Nat} {e : TypeId} {u u' v : Value} {n : Nat} {xs : List Value} {m : Nat} (h : Two u v) (hv : w.ownsRow base e 1 v n xs) (hm : w.heap.size ≤ m) (ha : u'.ownBlock = u.ownBlock ∨ u'.ownBlock = some m) : Two u' v := by
  intro g h1 h2
  rcases ha with e | e
  · exact h g (e ▸ h1) h2
  · rw [e] at h1
    injection h1 with h1
    have := own_lt hv g h2
    omega
theorem reads_blk {w : World} {g : Nat} {t : TypeId} {l : List Nat} {n : Nat} (h : Blk w g t (ints .u8 l)) (hl : l.length = n) (hm : n ≤ maxLen) (hx : ∀ x ∈ l, x < 256) : Reads .u8 w (some ⟨g, 0, none⟩) n n l := by
  refine ⟨hl, Nat.le_refl _, hm, fun x h => wf_u8.2 (hx x h), fun i hi => ⟨_, rfl, h.lt, ?_⟩⟩
  exact h.all i _ (by simp [ints, hi])
theorem Reads.src {w : World} {A : Option Addr} {n c : Nat} {l : List Nat} {k : IntKind} (h : Reads k w A n c l) (h0 : 0 < l.length) : ∃ ad, A = some ad ∧ ∀ j v, (ints k l)[j]? = some v → w.cell? (ad.add j) = some v := by
  obtain ⟨ad, rfl, _, _⟩ := h.cell 0 h0
  refine ⟨ad, rfl, fun j v hv => ?_⟩
  have hj : j < l.length := by
    rcases Nat.lt_or_ge j l.length with h' | h'
    · exact h'
    · rw [List.getElem?_eq_none (by rw [length_ints]; exact h')] at hv; cases hv
  obtain ⟨ad', e, _, hc⟩ := h.cell j hj
  cases e
  rw [hc, ← hv]
  simp [ints, hj]
theorem ReadsAll.keep {k : IntKind} {w w' : World} {A : Option Addr} {n c : Nat} {ls : List (List Nat)} (h : ReadsAll k w A n c ls) (hb : Below w.heap.size w w') : ReadsAll k w' A n c ls :=
  ⟨h.len, h.room, h.cap, fun i hi => by
    obtain ⟨ad, R, m, cr, e, hlt, hc, hr⟩ := h.row i hi
    exact ⟨ad, R, m, cr, e, Nat.lt_of_lt_of_le hlt hb.size, (hb.cell (by rw [block_add]; exact hlt)).trans hc, hr.keep hb⟩⟩
theorem ReadsAll.of_heap {k : IntKind} {w w' : World} {A : Option Addr} {n c : Nat} {ls : List (List Nat)} (h : ReadsAll k w A n c ls) (e : w'.heap = w.heap) : ReadsAll k w' A n c ls :=
  ⟨h.len, h.room, h.cap, fun i hi => by
    obtain ⟨ad, R, m, cr, e', hlt, hc, hr⟩ := h.row i hi
    exact ⟨ad, R, m, cr, e', by rw [e]; exact hlt, by rw [← hc]; exact World.cell?_of_block (by rw [e]), hr.of_heap e⟩⟩
theorem flat_succ' (ls : List (List Nat)) (j : Nat) (h : j < ls.length) : (ls.take (j + 1)).flatten = (ls.take j).flatten ++ ls[j] := by
  rw [List.take_succ_eq_append_getElem h, List.flatten_append, List.flatten_cons, List.flatten_nil, List.append_nil]
theorem flat_take_le (ls : List (List Nat)) (j : Nat) : (ls.take j).flatten.length ≤ ls.flatten.length := by
  have h : ls.flatten = (ls.take j).flatten ++ (ls.drop j).flatten := by rw [← List.flatten_append, List.take_append_drop]
  rw [h, List.length_append]; omega
theorem load_eq {P : Program} {W : World} {ty : TypeId} {ad : Addr} {cs : List Value} {d : TypeDesc} (hc : ∀ j u, cs[j]? = some u → W.cell? (ad.add j) = some u) (hu : P.underlying ty = some d) (hd : (match d with | .struct _ | .array _ _ => true | _ => false) = true) (hi : (P.info? ty).map (·.size) = some cs.length) :
    (Instr.loadAt ty (.pointer (some ad))).run P W = .ok (.agg cs.toArray) W := by
  simp only [Instr.loadAt, Instr.sureAddr, Sem.run_bind, Sem.run_pure, Result.andThen_ok, run_loadVar_at W ad ty cs d hc hu hd hi]
theorem store_eq {P : Program} {W : World} {g : Nat} {t ty : TypeId} {cur cs : List Value} (hg : Blk W g t cur) (hl : cs.length = cur.length) (h1 : ∀ v ∈ cs, v.oneCell' = true) (hi : (P.info? ty).map (·.size) = some cs.length) :
    ∃ W', (Instr.storeAt ty (.pointer (some ⟨g, 0, none⟩)) (.agg cs.toArray)).run P W = .ok () W' ∧ Blk W' g t cs ∧ W.grownBy W' (some g) := by
  refine ⟨_, ?_, ?_, only_setRow (World.grownBy.refl W _) (splice cur 0 cs).toArray⟩
  · simp only [Instr.storeAt, Instr.sureAddr, Sem.run_bind, Sem.run_pure, Result.andThen_ok, run_storeVar_at W g 0 ty t cur cs hg (by omega) h1 hi]
  · have := hg.splice_ (off := 0) cs
    rw [splice_all _ _ hl] at this ⊢
    exact this
theorem yieldsIf_load_at {P : Program} {ops : Array Oper} {S : World → Prop} {op : Oper} {a : Act} (hg : op.guard = none) (ty : TypeId) (x : Operand) (ho : op.op = .load ty x)
    (ad : Addr) (hx : a.eval x = .pointer (some ad)) (cs : List Value) (d : TypeDesc) (hS : ∀ w, S w → ∀ j u, cs[j]? = some u → w.cell? (ad.add j) = some u)
    (hu : P.underlying ty = some d) (hd : (match d with | .struct _ | .array _ _ => true | _ => false) = true) (hi : (P.info? ty).map (·.size) = some cs.length) : YieldsIf P ops S op (.agg cs.toArray) a :=
  .inl ⟨by simp [Region.wanted, hg], fun w hw' => by
    unfold execOp
    simp only [ho, hx, load_eq (hS w hw') hu hd hi, Sem.run_bind, Sem.run_pure, Result.andThen_ok]⟩
/-- A whole array into a block that is known whole, as one step of a region that draws. -/
theorem step_store_blk {P : Program} {ops : Array Oper} {o : Oper} {a : Act} {w : World} {K : Act → World → Prop} {Q : Exit → Act → World → Prop} {E : Prop} (hgd : o.guard = none) (hdst : o.dst = none) (ty : TypeId) (p x : Operand) (ho : o.op = .store ty p x)
    (g : Nat) (hp : a.eval p = .pointer (some ⟨g, 0, none⟩)) (cs : List Value) (hx : a.eval x = .agg cs.toArray) (cur : List Value) (t : TypeId) (hg : Blk w g t cur) (hl : cs.length = cur.length) (h1 : ∀ v ∈ cs, v.oneCell' = true) (hi : (P.info? ty).map (·.size) = some cs.length)
    (h : ∀ w', Blk w' g t cs → w.grownBy w' (some g) → K a w') : if Region.wanted o (yielded ops a.tmps) = true then Oper.wp P o a w K Q else E := by
  have hw : Region.wanted o (yielded ops a.tmps) = true := by simp [Region.wanted, hgd]
  rw [if_pos hw]
  obtain ⟨W', e, hb, hgr⟩ := store_eq (P := P) (ty := ty) hg hl h1 hi
  have := h W' hb hgr
  unfold Oper.wp execOp
  simp only [ho, hx, hp, e, Sem.run_bind, Sem.run_pure, Result.andThen_ok, Oper.upon_skip, hdst]
  exact this
/-- One row in a list of rows that has just been made. -/
theorem readsAll_one {w : World} {A : Option Addr} {n c : Nat} {l : List Nat} {t : TypeId} (h : Reads .u8 w A n c l) : ReadsAll .u8 (w.alloc (.cells #[.slice A n c] t)) (some ⟨w.heap.size, 0, none⟩) 1 1 [l] := by
  refine ⟨rfl, Nat.le_refl _, by decide, fun i hi => ?_⟩
  have hi0 : i = 0 := by simpa using hi
  subst hi0
  exact ⟨_, A, n, c, rfl, by simp, cells_new _ _ _ 0 _ rfl, h.keep ((Below.refl _ _).alloc (Nat.le_refl _) _)⟩
theorem reads_new {w : World} {t : TypeId} {l : List Nat} {n : Nat} {cs : Array Value} {fr : Nat × Nat} (hc : cs.toList = ints .u8 l) (hl : l.length = n) (hm : n ≤ maxLen) (hx : ∀ x ∈ l, x < 256) : Reads .u8 (w.alloc (.cells cs t fr)) (some ⟨w.heap.size, 0, none⟩) n n l := by
  refine ⟨hl, Nat.le_refl _, hm, fun x h => wf_u8.2 (hx x h), fun i hi => ⟨_, rfl, by simp, ?_⟩⟩
  rw [add_head, cell_of_row _ _ _ cs t fr (heap_alloc_new w _), ← Array.getElem?_toList, hc]
  simp [ints, hi]
theorem readsAll_new {w : World} {t : TypeId} {ls : List (List Nat)} {n : Nat} {cs : Array Value} (hl : ls.length = n) (hm : n ≤ maxLen) (h : ∀ i (h : i < ls.length), ∃ R m cr, cs.toList[i]? = some (.slice R m cr) ∧ Reads .u8 w R m cr ls[i]) :
    ReadsAll .u8 (w.alloc (.cells cs t)) (some ⟨w.heap.size, 0, none⟩) n n ls := by
  refine ⟨hl, Nat.le_refl _, hm, fun i hi => ?_⟩
  obtain ⟨R, m, cr, e, hr⟩ := h i hi
  exact ⟨_, R, m, cr, rfl, by simp, cells_new _ _ _ i _ e, hr.keep ((Below.refl _ _).alloc (Nat.le_refl _) _)⟩
theorem reads_pre {k : IntKind} {w : World} {A : Option Addr} {n c : Nat} {l : List Nat} (h : Reads k w A n c l) (i : Nat) (hi : i ≤ n) : Reads k w A i c (l.take i) :=
  ⟨by rw [List.length_take, h.len]; omega, Nat.le_trans hi h.room, h.cap, fun x hx => h.wf x (List.mem_of_mem_take hx), fun j hj => by
    have hj' : j < l.length := by rw [List.length_take] at hj; omega
    obtain ⟨ad, e, hlt, hc⟩ := h.cell j hj'
    exact ⟨ad, e, hlt, by rw [hc]; simp⟩⟩
theorem reads_suf {k : IntKind} {w : World} {A : Option Addr} {n c : Nat} {l : List Nat} (h : Reads k w A n c l) (i : Nat) (hi : i ≤ n) : Reads k w (if c = i then A else A.map fun x => x.add i) (n - i) (c - i) (l.drop i) := by
  have hn := h.room
  have hcap := h.cap
  refine ⟨by rw [List.length_drop, h.len], by omega, by omega, fun x hx => h.wf x (List.mem_of_mem_drop hx), fun j hj => ?_⟩
  have hj' : i + j < l.length := by rw [List.length_drop] at hj; omega
  obtain ⟨ad, rfl, hlt, hc⟩ := h.cell (i + j) hj'
  have hne : c ≠ i := by have := h.len; omega
  rw [if_neg hne]
  refine ⟨ad.add i, rfl, by rw [block_add]; exact hlt, ?_⟩
  rw [add_add, hc]
  simp
theorem yieldsIf_load_w {P : Program} {ops : Array Oper} {S : World → Prop} {op : Oper} {a : Act} (hw : Region.wanted op (yielded ops a.tmps) = true) (ty : TypeId) (x : Operand) (ho : op.op = .load ty x)
    (ad : Addr) (hx : a.eval x = .pointer (some ad)) (cs : List Value) (d : TypeDesc) (hS : ∀ w, S w → ∀ j u, cs[j]? = some u → w.cell? (ad.add j) = some u)
    (hu : P.underlying ty = some d) (hd : (match d with | .struct _ | .array _ _ => true | _ => false) = true) (hi : (P.info? ty).map (·.size) = some cs.length) : YieldsIf P ops S op (.agg cs.toArray) a :=
  .inl ⟨hw, fun w hw' => by
    unfold execOp
    simp only [ho, hx, load_eq (hS w hw') hu hd hi, Sem.run_bind, Sem.run_pure, Result.andThen_ok]⟩
/-- A whole array out of memory, where the operation's guard, if it has one, lets it come up. -/
theorem wpList_load_w {P : Program} {ops : Array Oper} {rest : List Oper} {o : Oper} {a : Act} {w : World} {Q : Exit → Act → World → Prop} (hw : Region.wanted o (yielded ops a.tmps) = true) (ty : TypeId) (x : Operand) (ho : o.op = .load ty x) (ad : Addr) (hx : a.eval x = .pointer (some ad)) (cs : List Value) (d : TypeDesc)
    (hc : ∀ j u, cs[j]? = some u → w.cell? (ad.add j) = some u) (hu : P.underlying ty = some d) (hd : (match d with | .struct _ | .array _ _ => true | _ => false) = true) (hi : (P.info? ty).map (·.size) = some cs.length)
    (h : wpList P ops Q rest (a.put o.dst (.agg cs.toArray)) w) : wpList P ops Q (o :: rest) a w :=
  wpList_step fun K hK => by
    rw [if_pos hw]
    unfold Oper.wp execOp
    simp only [ho, hx, Instr.loadAt, Instr.sureAddr, Sem.run_bind, Sem.run_pure, Result.andThen_ok, run_loadVar_at w ad ty cs d hc hu hd hi]
    exact hK _ _ h
end Go.Proofs.YtdldffgdipedpaaDoor
