/- How an argument of a statement is opened that is a slice of structs of two integers, a row of bytes and an array of bytes. Conditions: the types are as said. -/
import Derived.Test.YtgoaelfifdalcaaOpen
import Derived.Deep.Slices
import Derived.Deep.Fields
namespace Go.Proofs.Ytgoaelfifdalcaa
open Go.ChangeShapes Go.WideShapes Go.ChangeAt Go.RowKit
/-- One item: two integers, a row of bytes (where it lies, and the bytes) and an array of bytes. -/
structure ItemV where
  kind : Int
  num : Int
  adr : Option Addr
  len : Nat
  room : Nat
  txt : List Nat
  key : List Nat
def ItemV.cells (x : ItemV) : List Value := .int .i64 x.kind :: .int .i64 x.num :: .slice x.adr x.len x.room :: ints .u8 x.key
/-- Its parts are as they must be in the world w. -/
structure ItemV.Ok (w : World) (x : ItemV) : Prop where
  kindWf : (Lit.int .i64 x.kind).wf = true
  numWf : (Lit.int .i64 x.num).wf = true
  row : Reads .u8 w x.adr x.len x.room x.txt
  keyLen : x.key.length = 32
  keyByte : ∀ y ∈ x.key, y < 256
structure ReadsItems (w : World) (A : Option Addr) (n c : Nat) (l : List ItemV) : Prop where
  len : l.length = n
  room : n ≤ c
  cap : c ≤ maxLen
  item : ∀ i, (h : i < l.length) → ∃ ad, A = some ad ∧ ad.block < w.heap.size ∧ (∀ j v, l[i].cells[j]? = some v → w.cell? (ad.add (i * 35 + j)) = some v) ∧ l[i].Ok w
theorem ItemV.Ok.keep {w w' : World} {x : ItemV} (h : x.Ok w) (hb : Below w.heap.size w w') : x.Ok w' := ⟨h.kindWf, h.numWf, h.row.keep hb, h.keyLen, h.keyByte⟩
theorem ReadsItems.keep {w w' : World} {A : Option Addr} {n c : Nat} {l : List ItemV} (h : ReadsItems w A n c l) (hb : Below w.heap.size w w') : ReadsItems w' A n c l :=
  ⟨h.len, h.room, h.cap, fun i hi => by
    obtain ⟨ad, e, hlt, hc, ho⟩ := h.item i hi
    exact ⟨ad, e, Nat.lt_of_lt_of_le hlt hb.size, fun j v hv => (hb.cell (by rw [block_add]; exact hlt)).trans (hc j v hv), ho.keep hb⟩⟩
section
variable {H : Type} {enc : TypeId × Value → H} {P : Program} {W : World} {base : Nat}
theorem row_of {t e : TypeId} {k : IntKind} {fuel : Nat} {cs : List Value} {x : DataW H × List MemPlace} (ht : P.underlying t = some (.slice e)) (he : P.underlying e = some (.int k)) (ce : P.cellsOf e = 1) (hpos : ∀ z, (Lit.int k z).wf = true → 0 ≤ z)
    (hf : DataW.trod enc P W 0 (fun _ => true) true fuel t cs = some x) : ∃ a len cap l, cs = [.slice a len cap] ∧ Reads k W a len cap l := by
  rcases open_ints ht he ce hf with ⟨hcs, _⟩ | ⟨x, l, c, zs, hcs, _, hl, hm, hz, _, hcell, hwz⟩
  · exact ⟨_, _, _, [], hcs, Reads.nil.2 (by simp [maxLen])⟩
  · exact ⟨_, _, _, _, hcs, Reads.of_row hl hm hz (fun i hi => ⟨x, rfl, hcell i hi⟩) hwz hpos⟩
theorem arr_of {t e : TypeId} {k : IntKind} {n : Nat} {fuel : Nat} {cs : List Value} {x : DataW H × List MemPlace} (ht : P.underlying t = some (.array n e)) (he : P.underlying e = some (.int k)) (ce : P.cellsOf e = 1) (ct : P.cellsOf t = n) (hpos : ∀ z, (Lit.int k z).wf = true → 0 ≤ z)
    (hf : DataW.trod enc P W 0 (fun _ => true) true fuel t cs = some x) : ∃ l : List Nat, cs = ints k l ∧ l.length = n ∧ ∀ x ∈ l, (Lit.int k (x : Int)).wf = true := by
  obtain ⟨xs, m, _, _, hlen, hxl, hel⟩ := DataW.trod_array ht hf
  rw [ct] at hlen
  rw [ce] at hel
  have each : ∀ i, i < n → ∃ x : Nat, cs[i]? = some (.int k (x : Int)) ∧ (Lit.int k (x : Int)).wf = true := by
    intro i hi
    have h1 := hel i hi
    rw [List.getElem?_eq_getElem (by omega)] at h1
    obtain ⟨z, e1, _, hw⟩ := DataW.trod_int he h1
    obtain ⟨x, rfl⟩ := Int.eq_ofNat_of_zero_le (hpos z hw)
    refine ⟨x, ?_, hw⟩
    have h2 := congrArg (fun l : List Value => l[0]?) e1
    simpa using h2
  refine ⟨(List.range n).map fun i => natOf cs[i]?, ?_, by simp, ?_⟩
  · apply List.ext_getElem?
    intro i
    rcases Nat.lt_or_ge i n with hi | hi
    · obtain ⟨x, hx, _⟩ := each i hi
      rw [hx]
      simp [ints, hi, hx, natOf]
    · rw [List.getElem?_eq_none (by omega), List.getElem?_eq_none (by simpa [ints] using hi)]
  · intro x hx
    obtain ⟨i, hi, rfl⟩ := List.mem_map.1 hx
    obtain ⟨y, hy, hw⟩ := each i (List.mem_range.1 hi)
    rw [hy]
    simpa [natOf] using hw
theorem open_items {t e ti ts tk tb : TypeId} {f0 f1 f2 f3 : Field} {v : Value} {d : DataW H} {p : List MemPlace} (ht : P.underlying t = some (.slice e)) (he : P.underlying e = some (.struct #[f0, f1, f2, f3]))
    (e0 : f0.type = ti ∧ f0.offset = 0) (e1 : f1.type = ti ∧ f1.offset = 1) (e2 : f2.type = ts ∧ f2.offset = 2) (e3 : f3.type = tk ∧ f3.offset = 3)
    (hti : P.underlying ti = some (.int .i64)) (hts : P.underlying ts = some (.slice tb)) (htk : P.underlying tk = some (.array 32 tb)) (htb : P.underlying tb = some (.int .u8))
    (ce : P.cellsOf e = 35) (ci : P.cellsOf ti = 1) (cs_ : P.cellsOf ts = 1) (ck : P.cellsOf tk = 32) (cb : P.cellsOf tb = 1)
    (hv : Value.okWide P W .any base t v) (h : DataW.Trod enc P W 0 (fun _ => true) true t v d p) : ∃ a len cap l, v = .slice a len cap ∧ ReadsItems W a len cap l := by
  obtain ⟨a, len, cap, rfl⟩ := okWide_slice ht hv
  obtain ⟨fuel, hf⟩ := h
  rcases Go.Deep.open_slice ht hf with ⟨hcs, _⟩ | ⟨x, l, c, m, n, D, Pl, hcs, _, hl, hm, hmm, _, hi⟩
  · simp [Value.cells] at hcs
    obtain ⟨rfl, rfl, rfl⟩ := hcs
    exact ⟨_, _, _, [], rfl, rfl, Nat.le_refl _, by simp [maxLen], by simp⟩
  · simp [Value.cells] at hcs
    obtain ⟨rfl, rfl, rfl⟩ := hcs
    simp only [if_true] at hmm
    have each : ∀ i, i < len → ∃ y : ItemV, (∀ j v, y.cells[j]? = some v → W.cell? (x.add (i * 35 + j)) = some v) ∧ y.Ok W := by
      intro i hil
      obtain ⟨cs', hc, ht'⟩ := hi i (by omega)
      rw [ce] at hc
      obtain ⟨ys, n', _, _, hlen, hyl, hfl⟩ := DataW.trod_struct he ht'
      obtain ⟨_, hcl, hat⟩ := World.cells?_some hc
      have g0 := hfl 0 f0 rfl
      have g1 := hfl 1 f1 rfl
      have g2 := hfl 2 f2 rfl
      have g3 := hfl 3 f3 rfl
      have hys : ys.length = 4 := by simpa using hyl
      rw [e0.1, e0.2, ci, List.getElem?_eq_getElem (by omega)] at g0
      rw [e1.1, e1.2, ci, List.getElem?_eq_getElem (by omega)] at g1
      rw [e2.1, e2.2, cs_, List.getElem?_eq_getElem (by omega)] at g2
      rw [e3.1, e3.2, ck, List.getElem?_eq_getElem (by omega)] at g3
      obtain ⟨z0, q0, _, w0⟩ := DataW.trod_int hti g0
      obtain ⟨z1, q1, _, w1⟩ := DataW.trod_int hti g1
      obtain ⟨A, n2, c2, l2, q2, r2⟩ := row_of hts htb cb pos_u8 g2
      obtain ⟨k, q3, hk, wk⟩ := arr_of htk htb cb ck pos_u8 g3
      refine ⟨⟨z0, z1, A, n2, c2, l2, k⟩, fun j v hv => ?_, ⟨w0, w1, r2, hk, fun y hy => wf_u8.1 (wk y hy)⟩⟩
      have hcs' : cs' = ItemV.cells ⟨z0, z1, A, n2, c2, l2, k⟩ := by
        rcases cs' with _ | ⟨u0, _ | ⟨u1, _ | ⟨u2, us⟩⟩⟩ <;> simp at hcl
        simp only [List.drop_zero, List.take_succ_cons, List.take_zero, List.drop_succ_cons, List.cons.injEq, and_true] at q0 q1 q2 q3
        have hus : us.take 32 = us := List.take_of_length_le (by omega)
        rw [hus] at q3
        rw [q0, q1, q2, q3]
        rfl
      rw [hcs'] at hat
      have hj : j < 35 := by
        rcases Nat.lt_or_ge j 35 with h | h
        · exact h
        · rw [List.getElem?_eq_none (by simp [ItemV.cells, length_ints, hk]; omega)] at hv; cases hv
      rw [← add_add, hat j hj, hv]
    obtain ⟨ys, hyl, hy⟩ : ∃ ys : List ItemV, ys.length = len ∧ ∀ i, (h : i < ys.length) → (∀ j v, ys[i].cells[j]? = some v → W.cell? (x.add (i * 35 + j)) = some v) ∧ ys[i].Ok W := by
      have : ∀ k, k ≤ len → ∃ ys : List ItemV, ys.length = k ∧ ∀ i, (h : i < ys.length) → (∀ j v, ys[i].cells[j]? = some v → W.cell? (x.add (i * 35 + j)) = some v) ∧ ys[i].Ok W := by
        intro k
        induction k with
        | zero => intro _; exact ⟨[], rfl, by simp⟩
        | succ k ih =>
          intro hk
          obtain ⟨ys, h1, h2⟩ := ih (by omega)
          obtain ⟨y, h3⟩ := each k (by omega)
          refine ⟨ys ++ [y], by simp [h1], fun i hi => ?_⟩
          rcases Nat.lt_or_ge i ys.length with h | h
          · rw [List.getElem_append_left h]; exact h2 i h
          · have hik : i = ys.length := by simp at hi; omega
            subst hik
            rw [List.getElem_append_right (Nat.le_refl _)]
            simp only [Nat.sub_self, List.getElem_cons_zero]
            rw [h1]
            exact h3
      exact this len (Nat.le_refl _)
    have hlt : 0 < len → x.block < W.heap.size := by
      intro h0
      have := (hy 0 (by omega)).1 0 (.int .i64 (ys[0]'(by omega)).kind) rfl
      have := block_lt_of_cell this
      rwa [block_add] at this
    exact ⟨_, _, _, ys, rfl, hyl, hl, hm, fun i hi => ⟨x, rfl, hlt (by omega), (hy i hi).1, (hy i hi).2⟩⟩
end
end Go.Proofs.Ytgoaelfifdalcaa
