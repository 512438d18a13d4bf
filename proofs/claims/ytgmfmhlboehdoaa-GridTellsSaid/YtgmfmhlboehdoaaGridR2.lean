/- Plain words for the reference of package grid: a grid that is being made cell by cell behind a struct of its own, and what such a function returns. Conditions: none of its own. -/
import Derived.Test.YtgmfmhlboehdoaaGridR1
import Derived.Test.YtgmfmhlboehdoaaRely2
namespace Go.Proofs.Ytgmfmhlboehdoaa
open Go.ChangeShapes Go.WideShapes Go.RowKit
theorem stable_blk1 {t : TypeId} {cs : List Value} : Stable (fun v W => ∃ y, v = .slice (some ⟨y, 0, none⟩) 1 1 ∧ Blk W y t cs) := by
  rintro v w w' ⟨y, e, h⟩ hb
  exact ⟨y, e, h.below hb h.lt⟩
theorem stable_of' (p : Value → Prop) : Stable (fun v _ => p v) := fun _ _ _ h _ => h
/-- append of one item onto a row of the call's own, as one step. -/
theorem step_app1 {P : Program} {w : World} {ops : Array Oper} {o : Oper} {a : Act} {K : Act → World → Prop} {Q : Exit → Act → World → Prop} {E : Prop} {α : Type} {f : α → List Value} {L : Nat} (hf : ∀ x, (f x).length = L) (h1 : ∀ x, ∀ v ∈ f x, v.oneCell' = true) (hL : 0 < L)
    (hgd : o.guard = none) (s x : Operand) (t : TypeId) (ho : o.op = .call { callee := .builtin .append, args := #[s, x], argTypes := #[t, t] })
    (base : Nat) (e : TypeId) (i : TypeInfo) (z : Value) (bytes : Nat) (ht : P.underlying t = some (.slice e)) (hi : P.info? e = some i) (hz : i.zero = some z)
    (hsize : i.size = L) (hby : i.bytes = bytes) (hzs : z.cells.size = L)
    (v : Value) (n : Nat) (l : List α) (hs : a.eval s = v) (hown : w.ownsRow base e L v n (l.flatMap f))
    (y : α) (g : Nat) (tb : TypeId) (hx : a.eval x = .slice (some ⟨g, 0, none⟩) 1 1) (hb : Blk w g tb (f y))
    (h63 : n + 1 ≤ maxLen) (hbytes : (n + 1) * bytes ≤ 140737488355328) (hbase : base ≤ w.heap.size)
    (h : ∀ A c w', w'.ownsRow base e L (.slice A (n + 1) c) (n + 1) ((l ++ [y]).flatMap f) → w.grownBy w' v.ownBlock → ((Value.slice A (n + 1) c).ownBlock = v.ownBlock ∨ (Value.slice A (n + 1) c).ownBlock = some w.heap.size) → K (a.put o.dst (.slice A (n + 1) c)) w') :
    if Region.wanted o (yielded ops a.tmps) = true then Oper.wp P o a w K Q else E := by
  have hw : Region.wanted o (yielded ops a.tmps) = true := by simp [Region.wanted, hgd]
  rw [if_pos hw]
  obtain ⟨v', w', hr', h2, h3, h4, h5⟩ := run_append_own_at (P := P) w base t o.type e i z L bytes ht hi hz hsize hby hzs hL v n (l.flatMap f) hown ⟨g, 0, none⟩ 1 1 (f y) (by rw [hf, Nat.one_mul]) hb.all (h1 y) h63 hbytes hbase
  obtain ⟨A, c, rfl⟩ := ownK_form h2
  have := h A c w' (by rw [List.flatMap_append, List.flatMap_cons, List.flatMap_nil, List.append_nil]; exact h2) h3 h5
  unfold Oper.wp execOp
  simp only [ho, resolve, invoke, builtin, Sem.run_bind, Sem.run_pure, Result.andThen_ok, List.map_toArray, List.map_cons, List.map_nil, hs, hx, hr']
  exact this
/-- A grid that is being made in block z, since the world w1; its cells so far are l, in memory newer than z. -/
structure Out (w1 wr : World) (z R C : Nat) (v : Value) (l : List CellV) : Prop where
  bel : Below z w1 wr
  box : Blk wr z 31 [.int .i64 R, .int .i64 C, v]
  own : wr.ownsRow (z + 1) 38 4 v l.length (l.flatMap cellV)
section
variable {w w1 wr w' : World} {z R C : Nat} {v : Value} {l : List CellV}
theorem Out.below (h : Out w1 wr z R C v l) (k : Below wr.heap.size wr w') : Out w1 w' z R C v l :=
  ⟨h.bel.trans (k.mono (Nat.le_of_lt h.box.lt)), h.box.below k h.box.lt, ownK_below h.own k⟩
theorem Out.drewN (h : Out w1 wr z R C v l) (n : Nat) : Out w1 (wr.drewN n) z R C v l := h.below (belowDrewN (Below.refl _ _) n)
theorem Out.drew (h : Out w1 wr z R C v l) : Out w1 wr.drew z R C v l := h.below (Below.refl _ _).drew
theorem Out.reads {A : Option Addr} {n k : Nat} {l' : List CellV} (h : Out w1 wr z R C v l) (hb : Below w.heap.size w w1) (hz : w.heap.size ≤ z) (hr : ReadsS cellV 4 w A n k l') : ReadsS cellV 4 wr A n k l' := hr.keep (hb.trans (h.bel.mono hz))
theorem Out.old {g : Nat} {t : TypeId} {cs : List Value} (h : Out w1 wr z R C v l) (hb : Blk w1 g t cs) (hg : g < z) : Blk wr g t cs := hb.below h.bel hg
theorem Out.push {v' : Value} {c : CellV} (h : Out w1 wr z R C v l) (ho : w'.ownsRow (z + 1) 38 4 v' (l.length + 1) ((l ++ [c]).flatMap cellV)) (hg : wr.grownBy w' v.ownBlock) : Out w1 (w'.setCell ⟨z, 2, none⟩ v') z R C v' (l ++ [c]) := by
  have hzl := h.box.lt
  have hb := h.box.grown hg (fun e => by have := ownK_base h.own z e.symm; omega)
  have hk : Chg (fun i => i = z) w' (w'.setCell ⟨z, 2, none⟩ v') := Chg.of_only (row := some z) (only_setCell (World.grownBy.refl _ _) rfl _) (fun i hi => (Option.some.inj hi).symm)
  have hb2 : Below z w1 w' := h.bel.grown hg (Nat.le_of_lt hzl) (fun x hx => by have := ownK_base h.own x hx; omega)
  refine ⟨hk.below hb2 (by have := hg.size; omega) (fun i hi => by omega), hb.set_ 2 _, ?_⟩
  rw [List.length_append]
  exact ownK_chg ho hk (fun i hi e => by have := ownK_base ho i hi; omega)
/-- The cell and the mark of the slice's place, once the row has been made longer. -/
theorem Out.spot (h : Out w1 wr z R C v l) (hg : wr.grownBy w' v.ownBlock) : w'.cell? ⟨z, 2, none⟩ = some v ∧ w'.frozen? ⟨z, 2, none⟩ = false := by
  have hb := h.box.grown hg (fun e => by have := ownK_base h.own z e.symm; omega)
  exact ⟨hb.cell 2, hb.frozen 2⟩
end
/-- What a function of the reference returns: a grid in new memory. -/
structure RefG (w w' : World) (A : Option Addr) (n k : Nat) (f : Nat → CellV) : Prop where
  read : ReadsS cellV 4 w' A n k (tab n f)
  new : ∀ ad, A = some ad → w.heap.size ≤ ad.block
  bel : Below w.heap.size w w'
def RefPost (w : World) (R C n : Nat) (f : Nat → CellV) (en : Ending) (w' : World) : Prop := ∃ A k, en = .returned (.agg (gridV R C A n k).toArray) ∧ RefG w w' A n k f
theorem Out.form {w1 wr : World} {z R C n : Nat} {v : Value} {f : Nat → CellV} (h : Out w1 wr z R C v (tab n f)) : ∃ A k, v = .slice A n k ∧ ReadsS cellV 4 wr A n k (tab n f) ∧ ∀ ad, A = some ad → z + 1 ≤ ad.block := by
  have ho := h.own
  rw [length_tab] at ho
  obtain ⟨A, k, e, hr⟩ := ReadsS.of_own length_cellV (by decide) ho
  refine ⟨A, k, e, hr, fun ad ea => ?_⟩
  subst e ea
  exact ownK_base ho ad.block rfl
theorem Out.fin {w w1 wr w' : World} {z zr R C n k : Nat} {A : Option Addr} {f : Nat → CellV} (h : Out w1 wr z R C (.slice A n k) (tab n f)) (hr : ReadsS cellV 4 wr A n k (tab n f)) (hA : ∀ ad, A = some ad → z + 1 ≤ ad.block) (hb : Below w.heap.size w w1) (h1 : w.heap.size ≤ zr) (h2 : zr < z) (hg : wr.grownBy w' (some zr)) : RefG w w' A n k f := by
  have hzl := h.box.lt
  refine ⟨hr.only hg (fun _ ad e => by have := hA ad e; omega), fun ad e => by have := hA ad e; omega, (hb.trans (h.bel.mono (by omega))).grown hg (by omega) (fun x hx => by cases hx; exact h1)⟩
end Go.Proofs.Ytgmfmhlboehdoaa
