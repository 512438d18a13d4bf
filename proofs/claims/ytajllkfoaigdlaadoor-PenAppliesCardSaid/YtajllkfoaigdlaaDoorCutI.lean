/- Slices of signed integers in walks: how a reading is kept, the part s[i:], a row of the call's own as a reading. Conditions: none; it speaks of no program. -/
import Derived.Test.YtajllkfoaigdlaaDoorCut
import Derived.Test.YtajllkfoaigdlaaDoorOpen3
namespace Go.Proofs.YtajllkfoaigdlaaDoor
open Go.RowKit
def intZ (l : List Int) : List Value := l.map fun z => Value.int .i64 z
theorem length_intZ (l : List Int) : (intZ l).length = l.length := by simp [intZ]
theorem intZ_append (l m : List Int) : intZ (l ++ m) = intZ l ++ intZ m := by simp [intZ]
theorem intZ_one (l : List Int) : ∀ u ∈ intZ l, u.oneCell' = true := by
  intro u hu
  obtain ⟨x, _, rfl⟩ := List.mem_map.1 hu
  rfl
section
variable {k : IntKind} {w w' : World} {A : Option Addr} {n c : Nat} {l : List Int}
theorem ReadsI.of_heap (h : ReadsI k w A n c l) (e : w'.heap = w.heap) : ReadsI k w' A n c l :=
  ⟨h.len, h.room, h.cap, h.wf, fun i hi => by
    obtain ⟨ad, e', hlt, hc⟩ := h.cell i hi
    exact ⟨ad, e', by rw [e]; exact hlt, by rw [← hc]; exact World.cell?_of_block (by rw [e])⟩⟩
theorem ReadsI.off_kept {g : Nat} (h : ReadsI k w A n c l) (ho : ∀ ad, A = some ad → ad.block ≠ g) (hb : w.grownBy w' (some g)) : ReadsI k w' A n c l :=
  ⟨h.len, h.room, h.cap, h.wf, fun i hi => by
    obtain ⟨ad, e', hlt, hc⟩ := h.cell i hi
    refine ⟨ad, e', Nat.lt_of_lt_of_le hlt hb.size, ?_⟩
    rw [← hc]
    exact World.cell?_of_block (hb.block _ (by rw [block_add]; exact hlt) (by rw [block_add]; exact fun e => ho ad e' (Option.some.inj e)))⟩
theorem readsI_suf (h : ReadsI k w A n c l) (i : Nat) (hi : i ≤ n) : ReadsI k w (if c = i then A else A.map fun x => x.add i) (n - i) (c - i) (l.drop i) := by
  have hn := h.room
  have hcap := h.cap
  refine ⟨by rw [List.length_drop, h.len], by omega, by omega, fun x hx => h.wf x (List.mem_of_mem_drop hx), fun j hj => ?_⟩
  have hj' : i + j < l.length := by rw [List.length_drop] at hj; omega
  obtain ⟨ad, rfl, hlt, hc⟩ := h.cell (i + j) hj'
  have hne : c ≠ i := by have := h.len; omega
  rw [if_neg hne]
  refine ⟨ad.add i, rfl, by rw [block_add]; exact hlt, ?_⟩
  rw [add_add, hc]
  simp
theorem own_readsI {base : Nat} {e : TypeId} {v : Value} (h : w.ownsRow base e 1 v n (intZ l)) (hwf : ∀ x ∈ l, (Lit.int .i64 x).wf = true) : ∃ A c, v = .slice A n c ∧ ReadsI .i64 w A n c l ∧ ∀ ad, A = some ad → base ≤ ad.block := by
  have hlen : l.length = n := by simpa [intZ] using h.1
  rcases h.2 with ⟨rfl, rfl⟩ | ⟨g, cap, cur, rfl, hb, hh, hn, hm, hs, ht⟩
  · have : l = [] := List.eq_nil_of_length_eq_zero hlen
    subst this
    exact ⟨none, 0, rfl, ⟨rfl, Nat.le_refl _, by simp [maxLen], by simp, by simp⟩, by simp⟩
  · refine ⟨_, cap, rfl, ⟨hlen, hn, hm, hwf, fun i hi => ⟨_, rfl, ?_, ?_⟩⟩, fun ad e => by cases e; exact hb⟩
    · show g < w.heap.size
      rcases Nat.lt_or_ge g w.heap.size with hlt | hge
      · exact hlt
      · rw [Array.getElem?_eq_none hge] at hh; cases hh
    · rw [h.cells (g := g) rfl i (.int .i64 l[i]) (by simp [intZ, hi])]
/-- A slice that has just been made. -/
theorem readsI_new {t : TypeId} {cs : Array Value} {fr : Nat × Nat} (hc : cs.toList = intZ l) (hl : l.length = n) (hm : n ≤ maxLen) (hwf : ∀ x ∈ l, (Lit.int .i64 x).wf = true) : ReadsI .i64 (w.alloc (.cells cs t fr)) (some ⟨w.heap.size, 0, none⟩) n n l := by
  refine ⟨hl, Nat.le_refl _, hm, hwf, fun i hi => ⟨_, rfl, by simp, ?_⟩⟩
  rw [add_head, cell_of_row _ _ _ cs t fr (heap_alloc_new w _), ← Array.getElem?_toList, hc]
  simp [intZ, hi]
theorem ReadsI.src {A : Option Addr} (h : ReadsI .i64 w A n c l) (h0 : 0 < l.length) : ∃ ad, A = some ad ∧ ∀ j v, (intZ l)[j]? = some v → w.cell? (ad.add j) = some v := by
  obtain ⟨ad, rfl, _, _⟩ := h.cell 0 h0
  refine ⟨ad, rfl, fun j v hv => ?_⟩
  have hj : j < l.length := by
    rcases Nat.lt_or_ge j l.length with h' | h'
    · exact h'
    · rw [List.getElem?_eq_none (by rw [length_intZ]; exact h')] at hv; cases hv
  obtain ⟨ad', e, _, hc⟩ := h.cell j hj
  cases e
  rw [hc, ← hv]
  simp [intZ, hj]
end
section
variable {P : Program} {ops : Array Oper} {rest : List Oper} {o : Oper} {a : Act} {w : World} {Q : Exit → Act → World → Prop} {t e : TypeId} {k : IntKind} {A : Option Addr} {N C : Nat} {L : List Int}
/-- s[i:], with the blocks that it does not lie in. -/
theorem wpList_cut_lI (hgd : o.guard = none) (x lo : Operand) (ho : o.op = .slice t x (some lo) none none) (hu : P.underlying t = some (.slice e)) (hs : (P.info? e).map (·.size) = some 1)
    (hx : a.eval x = .slice A N C) (kl : IntKind) (i : Nat) (vi : Int) (hlo : a.eval lo = .int kl vi) (e1 : vi = (i : Int)) (hm : i ≤ N)
    (h : ∀ A', (∀ W, ReadsI k W A N C L → ReadsI k W A' (N - i) (C - i) (L.drop i)) → (∀ ad', A' = some ad' → ∃ ad, A = some ad ∧ ad'.block = ad.block) → wpList P ops Q rest (a.put o.dst (.slice A' (N - i) (C - i))) w) : wpList P ops Q (o :: rest) a w :=
  wpList_plain hgd fun K hK => by
    have ht : P.underlying t = some (.slice (P.elem t)) := by rw [elem_of hu]; exact hu
    have hrun : (Instr.sliceAt t (.slice A N C) (some (.int kl vi)) none none).run P w = .ok (.slice (if C = i then A else A.map fun x => x.add i) (N - i) (C - i)) w := by
      subst e1
      rw [run_sliceAt_slice (P := P) w t _ _ _ _ ht, run_slice_l (P := P) w t A N C ht kl (i : Int) (by omega) (by omega), elem_of hu, run_size1 hs]
      simp [Result.andThen, sliced]
    unfold Oper.wp execOp
    simp only [ho, Option.map_some, Option.map_none, hx, hlo, hrun, Sem.run_bind, Sem.run_pure, Result.andThen_ok]
    refine hK _ _ (h _ (fun W hr => readsI_suf hr i hm) ?_)
    intro ad' e
    split at e
    · exact ⟨ad', e, rfl⟩
    · obtain ⟨ad, hA, rfl⟩ := Option.map_eq_some_iff.1 e
      exact ⟨ad, hA, block_add _ _⟩
end
/-- append onto a row of the call's own, from a slice of integers, with the block of the result. -/
theorem wpList_appI {P : Program} {w : World} {ops : Array Oper} {rest : List Oper} {o : Oper} {a : Act} {Q : Exit → Act → World → Prop} (hgd : o.guard = none) (s x : Operand) (t : TypeId)
    (ho : o.op = .call { callee := .builtin .append, args := #[s, x], argTypes := #[t, t] })
    (base : Nat) (e : TypeId) (i : TypeInfo) (z : Value) (bytes : Nat) (ht : P.underlying t = some (.slice e)) (hi : P.info? e = some i) (hz : i.zero = some z)
    (hsize : i.size = 1) (hby : i.bytes = bytes) (hzs : z.cells.size = 1)
    (v : Value) (n : Nat) (xs : List Int) (hs : a.eval s = v) (hown : w.ownsRow base e 1 v n (intZ xs))
    (A : Option Addr) (m c : Nat) (l : List Int) (hx : a.eval x = .slice A m c) (hr : ReadsI .i64 w A m c l)
    (h63 : n + m ≤ maxLen) (hbytes : (n + m) * bytes ≤ 140737488355328) (hbase : base ≤ w.heap.size)
    (h : ∀ v' w', w'.ownsRow base e 1 v' (n + m) (intZ (xs ++ l)) → w.grownBy w' v.ownBlock → (v'.ownBlock = v.ownBlock ∨ v'.ownBlock = some w.heap.size) → wpList P ops Q rest (a.put o.dst v') w') : wpList P ops Q (o :: rest) a w := by
  cases A with
  | none =>
    have hm : m = 0 := by
      rcases Nat.eq_zero_or_pos m with h0 | h0
      · exact h0
      · obtain ⟨ad, e', _⟩ := hr.cell 0 (by rw [hr.len]; exact h0)
        cases e'
    subst hm
    have hl : l = [] := List.eq_nil_of_length_eq_zero hr.len
    subst hl
    have hrun : (Builtin.append_ #[t, t] o.type #[v, .slice none 0 c]).run P w = .ok v w := by
      rcases hown.2 with ⟨rfl, rfl⟩ | ⟨g, cap, cur, rfl, _, _, hnc, _⟩
      · simp [Builtin.append_, run_underlying ht, sizeOf, typeInfo, hi, Builtin.lenOf, Builtin.firstCells]
      · simp [Builtin.append_, run_underlying ht, sizeOf, typeInfo, hi, Builtin.lenOf, Builtin.firstCells, hnc, storeCells]
    refine wpList_plain hgd fun K hK => ?_
    have := hK _ _ (h v w (by rw [List.append_nil]; exact hown) (World.grownBy.refl w _) (.inl rfl))
    unfold Oper.wp execOp
    simp only [ho, resolve, invoke, builtin, Sem.run_bind, Sem.run_pure, Result.andThen_ok, List.map_toArray, List.map_cons, List.map_nil, hs, hx, hrun]
    exact this
  | some ad =>
    refine wpList_append_own_at w hgd s x t ho base e i z 1 bytes ht hi hz hsize hby hzs (by decide) v n (intZ xs) hs hown ad m c (intZ l) hx (by rw [length_intZ, hr.len]; omega) (fun j u hu => ?_) (intZ_one _) h63 hbytes hbase (fun v' w' h1 h2 _ h4 => h v' w' (by rw [intZ_append]; exact h1) h2 h4)
    have hj : j < l.length := by
      rcases Nat.lt_or_ge j l.length with h | h
      · exact h
      · rw [List.getElem?_eq_none (by rw [length_intZ]; exact h)] at hu; cases hu
    obtain ⟨ad', e', _, hc⟩ := hr.cell j hj
    cases e'
    rw [hc, ← hu]
    simp [intZ, hj]
end Go.Proofs.YtajllkfoaigdlaaDoor
