/- Slices of structs: a slice that reads as a list of items, each of K cells; rows of the call's own that hold such items, made longer by one item and written in one cell. Conditions: none; it speaks of no program. -/
import Derived.Test.YtdldffgdipedpaaDoorRegs
import Derived.Test.YtdldffgdipedpaaDoorCodec0
namespace Go.Proofs.YtdldffgdipedpaaDoor
open Go.RowKit
/-! ### Items one behind the other -/
section
variable {α : Type} {f : α → List Value} {K : Nat}
theorem length_flatF (hf : ∀ x, (f x).length = K) (l : List α) : (l.flatMap f).length = l.length * K := by
  induction l with
  | nil => simp
  | cons x l ih => rw [List.flatMap_cons, List.length_append, ih, hf, List.length_cons, Nat.add_mul, Nat.one_mul, Nat.add_comm]
theorem flatF_at (hf : ∀ x, (f x).length = K) (l : List α) (i j : Nat) (hi : i < l.length) (hj : j < K) : (l.flatMap f)[i * K + j]? = (f l[i])[j]? := by
  induction l generalizing i with
  | nil => simp at hi
  | cons x l ih =>
    rw [List.flatMap_cons]
    cases i with
    | zero => rw [Nat.zero_mul, Nat.zero_add, List.getElem?_append_left (by rw [hf]; exact hj)]; rfl
    | succ i =>
      have hi' : i < l.length := by simpa using hi
      rw [List.getElem?_append_right (by rw [hf, Nat.add_mul]; omega), hf, show (i + 1) * K + j - K = i * K + j by rw [Nat.add_mul]; omega, ih i hi']
      rfl
theorem flatF_set (hf : ∀ x, (f x).length = K) (l : List α) (x y : α) (j : Nat) (u : Value) (hy : f y = (f x).set j u) : ((l ++ [x]).flatMap f).set (l.length * K + j) u = (l ++ [y]).flatMap f := by
  simp only [List.flatMap_append, List.flatMap_cons, List.flatMap_nil, List.append_nil]
  rw [← length_flatF hf l, List.set_append_right _ _ (by omega), Nat.add_sub_cancel_left, hy]
theorem flatF_last (hf : ∀ x, (f x).length = K) (l : List α) (x : α) (j : Nat) : ((l ++ [x]).flatMap f)[l.length * K + j]? = (f x)[j]? := by
  simp only [List.flatMap_append, List.flatMap_cons, List.flatMap_nil, List.append_nil]
  rw [← length_flatF hf l, List.getElem?_append_right (by omega), Nat.add_sub_cancel_left]
theorem flatF_one (h1 : ∀ x, ∀ v ∈ f x, v.oneCell' = true) (l : List α) : ∀ v ∈ l.flatMap f, v.oneCell' = true := by
  intro v hv
  obtain ⟨x, _, hx⟩ := List.mem_flatMap.1 hv
  exact h1 x v hx
end
/-! ### A slice of structs that reads as a list -/
/-- The slice value '.slice A n c' of structs of K cells reads as l in the world w. -/
structure ReadsS {α : Type} (f : α → List Value) (K : Nat) (w : World) (A : Option Addr) (n c : Nat) (l : List α) : Prop where
  len : l.length = n
  room : n ≤ c
  cap : c ≤ maxLen
  cell : ∀ i, (h : i < l.length) → ∃ ad, A = some ad ∧ ad.block < w.heap.size ∧ ∀ j u, (f l[i])[j]? = some u → w.cell? ((ad.add (i * K)).add j) = some u
section
variable {α : Type} {f : α → List Value} {K : Nat} {w w' : World} {A : Option Addr} {n c : Nat} {l : List α}
theorem ReadsS.nil (h : c ≤ maxLen) : ReadsS f K w A 0 c [] := ⟨rfl, Nat.zero_le _, h, by simp⟩
theorem ReadsS.keep (h : ReadsS f K w A n c l) (hb : Below w.heap.size w w') : ReadsS f K w' A n c l :=
  ⟨h.len, h.room, h.cap, fun i hi => by
    obtain ⟨ad, e, hlt, hc⟩ := h.cell i hi
    exact ⟨ad, e, Nat.lt_of_lt_of_le hlt hb.size, fun j u hu => (hb.cell (by rw [block_add, block_add]; exact hlt)).trans (hc j u hu)⟩⟩
theorem ReadsS.of_heap (h : ReadsS f K w A n c l) (e : w'.heap = w.heap) : ReadsS f K w' A n c l :=
  ⟨h.len, h.room, h.cap, fun i hi => by
    obtain ⟨ad, ea, hlt, hc⟩ := h.cell i hi
    exact ⟨ad, ea, by rw [e]; exact hlt, fun j u hu => by rw [← hc j u hu]; exact World.cell?_of_block (by rw [e])⟩⟩
theorem ReadsS.chg {F : Nat → Prop} (h : ReadsS f K w A n c l) (k : Chg F w w') (hn : 0 < n → ∀ ad, A = some ad → ¬ F ad.block) : ReadsS f K w' A n c l :=
  ⟨h.len, h.room, h.cap, fun i hi => by
    obtain ⟨ad, e, hlt, hc⟩ := h.cell i hi
    refine ⟨ad, e, Nat.lt_of_lt_of_le hlt k.size, fun j u hu => ?_⟩
    rw [← hc j u hu]
    exact World.cell?_of_block (k.block _ (by rw [block_add, block_add]; exact hlt) (by rw [block_add, block_add]; exact hn (by have := h.len; omega) ad e))⟩
theorem ReadsS.only {g : Nat} (h : ReadsS f K w A n c l) (k : w.grownBy w' (some g)) (hn : 0 < n → ∀ ad, A = some ad → ad.block ≠ g) : ReadsS f K w' A n c l :=
  h.chg (F := fun i => i = g) (Chg.of_only k (fun _ hi => (Option.some.inj hi).symm)) hn
theorem ReadsS.pos (h : ReadsS f K w A n c l) (h0 : 0 < n) : ∃ ad, A = some ad ∧ ad.block < w.heap.size := by
  obtain ⟨ad, e, hlt, _⟩ := h.cell 0 (by rw [h.len]; exact h0)
  exact ⟨ad, e, hlt⟩
/-- One item of it. -/
theorem ReadsS.at {ad : Addr} (h : ReadsS f K w (some ad) n c l) (i : Nat) (hi : i < l.length) : ∀ j u, (f l[i])[j]? = some u → w.cell? ((ad.add (i * K)).add j) = some u := by
  obtain ⟨ad', e, _, hc⟩ := h.cell i hi
  cases e
  exact hc
theorem ReadsS.one {ad : Addr} (h : ReadsS f K w (some ad) n c l) (i j : Nat) (hi : i < l.length) (u : Value) (hu : (f l[i])[j]? = some u) : w.cell? ((ad.add (i * K)).add j) = some u := h.at i hi j u hu
end
/-! ### Rows of the call's own -/
section
variable {w w' : World} {base K : Nat} {e : TypeId} {v : Value} {n : Nat} {xs : List Value}
theorem ownK_form (h : w.ownsRow base e K v n xs) : ∃ A c, v = .slice A n c := by
  rcases h.2 with ⟨rfl, rfl⟩ | ⟨g, cap, cur, rfl, _⟩
  · exact ⟨none, 0, rfl⟩
  · exact ⟨_, _, rfl⟩
theorem ownK_base (h : w.ownsRow base e K v n xs) : ∀ g, v.ownBlock = some g → base ≤ g := by
  intro g hg
  rcases h.2 with ⟨rfl, rfl⟩ | ⟨g', cap, cur, rfl, hb, _⟩
  · simp [Value.ownBlock] at hg
  · simp [Value.ownBlock] at hg; omega
theorem ownK_lt (h : w.ownsRow base e K v n xs) : ∀ g, v.ownBlock = some g → g < w.heap.size := by
  intro g hg
  rcases h.2 with ⟨rfl, rfl⟩ | ⟨g', cap, cur, rfl, _, hh, _⟩
  · simp [Value.ownBlock] at hg
  · have : g' = g := by simpa [Value.ownBlock] using hg
    subst this
    exact (Array.getElem?_eq_some_iff.1 hh).1
theorem ownK_weaken {b' : Nat} (h : w.ownsRow base e K v n xs) (hb : b' ≤ base) : w.ownsRow b' e K v n xs :=
  ⟨h.1, h.2.imp id (fun ⟨g, cap, cur, e, h1, h2⟩ => ⟨g, cap, cur, e, Nat.le_trans hb h1, h2⟩)⟩
theorem ownK_chg {F : Nat → Prop} (h : w.ownsRow base e K v n xs) (k : Chg F w w') (hn : ∀ g, v.ownBlock = some g → ¬ F g) : w'.ownsRow base e K v n xs := by
  refine ⟨h.1, ?_⟩
  rcases h.2 with h0 | ⟨g, cap, cur, rfl, h1, h2, h3⟩
  · exact .inl h0
  · refine .inr ⟨g, cap, cur, rfl, h1, ?_, h3⟩
    rw [k.block g (Array.getElem?_eq_some_iff.1 h2).1 (hn g rfl)]
    exact h2
theorem ownK_below (h : w.ownsRow base e K v n xs) (k : Below w.heap.size w w') : w'.ownsRow base e K v n xs := ownK_chg (F := fun _ => False) h (Chg.of_below k) (fun _ _ h => h)
theorem ownK_of_heap (h : w.ownsRow base e K v n xs) (he : w'.heap = w.heap) : w'.ownsRow base e K v n xs := by
  unfold World.ownsRow
  rw [he]
  exact h
theorem ReadsS.of_own {α : Type} {f : α → List Value} {l : List α} (hf : ∀ x, (f x).length = K) (hK : 0 < K) (h : w.ownsRow base e K v n (l.flatMap f)) : ∃ A c, v = .slice A n c ∧ ReadsS f K w A n c l := by
  have hlen : l.length = n := by
    have h1 := h.1
    rw [length_flatF hf] at h1
    exact Nat.eq_of_mul_eq_mul_right hK h1
  rcases h.2 with ⟨rfl, rfl⟩ | ⟨g, cap, cur, rfl, hb, hh, hn, hm, hs, ht⟩
  · have : l = [] := List.eq_nil_of_length_eq_zero hlen
    subst this
    exact ⟨none, 0, rfl, .nil (by simp [maxLen])⟩
  · refine ⟨_, cap, rfl, hlen, hn, hm, fun i hi => ⟨_, rfl, (Array.getElem?_eq_some_iff.1 hh).1, fun j u hu => ?_⟩⟩
    have hj : j < K := by
      rcases Nat.lt_or_ge j K with h | h
      · exact h
      · rw [List.getElem?_eq_none (by rw [hf]; exact h)] at hu; cases hu
    rw [add_add]
    exact h.cells (g := g) rfl (i * K + j) u (by rw [flatF_at hf l i j hi hj]; exact hu)
/-- One cell of a row of the call's own is written. -/
theorem ownK_write {V : Option Addr} {c : Nat} (h : w.ownsRow base e K (.slice V n c) n xs) (k : Nat) (hk : k < xs.length) :
    ∃ g, V = some ⟨g, 0, none⟩ ∧ base ≤ g ∧ g < w.heap.size ∧ w.cell? ⟨g, k, none⟩ = xs[k]? ∧ w.frozen? ⟨g, k, none⟩ = false ∧ ∀ u : Value, (w.setCell ⟨g, k, none⟩ u).ownsRow base e K (.slice V n c) n (xs.set k u) := by
  obtain ⟨hlen, h⟩ := h
  rcases h with ⟨_, h0⟩ | ⟨g, cap, cur, e1, hg, hh, hn, hm, hs, ht⟩
  · subst h0; omega
  · cases e1
    have hblk : Blk w g e cur.toList := by unfold Blk; rw [hh]
    refine ⟨g, rfl, hg, hblk.lt, ?_, hblk.frozen k, fun u => ⟨by rw [List.length_set, hlen], .inr ⟨g, c, (cur.toList.set k u).toArray, rfl, hg, hblk.set_ k _, hn, hm, by simp [hs], ?_⟩⟩⟩
    · rw [hblk.cell k, ← ht, List.getElem?_take_of_lt (by omega)]
    · rw [← ht, List.take_set]
end
/-- append of one item onto a row of the call's own. -/
theorem wpList_app1 {P : Program} {w : World} {ops : Array Oper} {rest : List Oper} {o : Oper} {a : Act} {Q : Exit → Act → World → Prop} {α : Type} {f : α → List Value} {K : Nat} (hf : ∀ x, (f x).length = K) (h1 : ∀ x, ∀ v ∈ f x, v.oneCell' = true) (hK : 0 < K)
    (hgd : o.guard = none) (s x : Operand) (t : TypeId) (ho : o.op = .call { callee := .builtin .append, args := #[s, x], argTypes := #[t, t] })
    (base : Nat) (e : TypeId) (i : TypeInfo) (z : Value) (bytes : Nat) (ht : P.underlying t = some (.slice e)) (hi : P.info? e = some i) (hz : i.zero = some z)
    (hsize : i.size = K) (hby : i.bytes = bytes) (hzs : z.cells.size = K)
    (v : Value) (n : Nat) (l : List α) (hs : a.eval s = v) (hown : w.ownsRow base e K v n (l.flatMap f))
    (y : α) (g : Nat) (tb : TypeId) (hx : a.eval x = .slice (some ⟨g, 0, none⟩) 1 1) (hb : Blk w g tb (f y))
    (h63 : n + 1 ≤ maxLen) (hbytes : (n + 1) * bytes ≤ 140737488355328) (hbase : base ≤ w.heap.size)
    (h : ∀ A c w', w'.ownsRow base e K (.slice A (n + 1) c) (n + 1) ((l ++ [y]).flatMap f) → w.grownBy w' v.ownBlock → ((Value.slice A (n + 1) c).ownBlock = v.ownBlock ∨ (Value.slice A (n + 1) c).ownBlock = some w.heap.size) → wpList P ops Q rest (a.put o.dst (.slice A (n + 1) c)) w') :
    wpList P ops Q (o :: rest) a w := by
  refine wpList_append_own_at w hgd s x t ho base e i z K bytes ht hi hz hsize hby hzs hK v n (l.flatMap f) hs hown ⟨g, 0, none⟩ 1 1 (f y) hx (by rw [hf, Nat.one_mul]) hb.all (h1 y) h63 hbytes hbase ?_
  intro v' w' h2 h3 _ h5
  obtain ⟨A, c, rfl⟩ := ownK_form h2
  exact h A c w' (by rw [List.flatMap_append, List.flatMap_cons, List.flatMap_nil, List.append_nil]; exact h2) h3 h5
end Go.Proofs.YtdldffgdipedpaaDoor
