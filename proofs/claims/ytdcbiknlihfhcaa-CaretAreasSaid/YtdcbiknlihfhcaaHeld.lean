/- A law for a region that draws its order of evaluation: two variables that are made in it, in either order. Conditions: nothing else can come up ahead of them. It speaks of no program. -/
import Derived.Test.YtdcbiknlihfhcaaRegs
namespace Go.Proofs.Ytdcbiknlihfhcaa
open Go.RowKit
section
variable {P : Program} {ops : Array Oper} {Q : Exit → Act → World → Prop} {S : World → Prop} {md : Region.Mode}
theorem step_alloc {o : Oper} {d : Tmp} {t : TypeId} {zs : List Value} {a : Act} {W : World} {K : Act → World → Prop} (hg : o.guard = none) (ho : o.op = .alloc t) (hd : o.dst = some d)
    (hal : ∀ W : World, (Instr.alloc t true (.tuple #[])).run P W = .ok (.pointer (some ⟨W.heap.size, 0, none⟩)) (W.alloc (.cells zs.toArray t)))
    (h : K (a.put (some d) (.pointer (some ⟨W.heap.size, 0, none⟩))) (W.alloc (.cells zs.toArray t))) : if Region.wanted o (yielded ops a.tmps) = true then Oper.wp P o a W K Q else K (a.put o.dst undef) W := by
  have hw : Region.wanted o (yielded ops a.tmps) = true := by simp [Region.wanted, hg]
  rw [if_pos hw]
  rw [← hd] at h
  unfold Oper.wp execOp
  simp only [ho, hal, Sem.run_bind, Sem.run_pure, Result.andThen_ok]
  exact h
theorem wpAnyH_two_allocs {i j : Nat} {oi oj : Oper} {di dj : Tmp} {t : TypeId} {zs : List Value} {fuel : Nat} {listed : Array Bool} {a : Act} {w : World}
    (hr : Region.ready md ops listed = [i, j]) (hri : Region.ready md ops (listed.setIfInBounds i true) = [j]) (hrj : Region.ready md ops (listed.setIfInBounds j true) = [i]) (hij : i ≠ j) (hd : di ≠ dj)
    (hoi : ops[i]? = some oi) (hoj : ops[j]? = some oj) (gi : oi.guard = none) (gj : oj.guard = none) (ei : oi.op = .alloc t) (ej : oj.op = .alloc t) (ddi : oi.dst = some di) (ddj : oj.dst = some dj)
    (hal : ∀ W : World, (Instr.alloc t true (.tuple #[])).run P W = .ok (.pointer (some ⟨W.heap.size, 0, none⟩)) (W.alloc (.cells zs.toArray t)))
    (hS : ∀ W W', S W → Below W.heap.size W W' → S W') (hSw : S w)
    (h : ∀ g k W, g ≠ k → w.heap.size ≤ g → w.heap.size ≤ k → Blk W g t zs → Blk W k t zs → Below w.heap.size w W → S W →
      wpAnyH P md ops Q S fuel ((listed.setIfInBounds i true).setIfInBounds j true) ((a.put (some di) (.pointer (some ⟨g, 0, none⟩))).put (some dj) (.pointer (some ⟨k, 0, none⟩))) W) :
    wpAnyH P md ops Q S (fuel + 2) listed a w := by
  have hb1 : ∀ W : World, Below W.heap.size W (W.alloc (.cells zs.toArray t)) := fun W => (Below.refl _ _).alloc (Nat.le_refl _) _
  refine wpAnyH_ready hr (by simp) (AllReadyH.cons hoi (fun K hK => ?_) (AllReadyH.cons hoj (fun K hK => ?_) AllReadyH.nil))
  · refine step_alloc gi ei ddi hal (hK.out _ _ (hS _ _ hSw (hb1 w)) (fun hS1 => ?_))
    refine wpAnyH_ready hri (by simp) (AllReadyH.cons hoj (fun K' hK' => ?_) AllReadyH.nil)
    refine step_alloc gj ej ddj hal (hK'.out _ _ (hS _ _ hS1 (hb1 _)) (fun hS2 => ?_))
    have hb2 : Below w.heap.size w ((w.alloc (.cells zs.toArray t)).alloc (.cells zs.toArray t)) := (hb1 w).alloc (by simp) _
    exact h _ _ _ (by simp) (Nat.le_refl _) (by simp) ((Blk.new w t zs).alloc _) (Blk.new _ t zs) hb2 hS2
  · refine step_alloc gj ej ddj hal (hK.out _ _ (hS _ _ hSw (hb1 w)) (fun hS1 => ?_))
    refine wpAnyH_ready hrj (by simp) (AllReadyH.cons hoi (fun K' hK' => ?_) AllReadyH.nil)
    refine step_alloc gi ei ddi hal (hK'.out _ _ (hS _ _ hS1 (hb1 _)) (fun hS2 => ?_))
    have hb2 : Below w.heap.size w ((w.alloc (.cells zs.toArray t)).alloc (.cells zs.toArray t)) := (hb1 w).alloc (by simp) _
    rw [Act.put_comm a _ _ (fun e he h' => hd ((Option.some.inj h').trans (Option.some.inj he).symm))]
    have hset : (listed.setIfInBounds j true).setIfInBounds i true = (listed.setIfInBounds i true).setIfInBounds j true := by
      rw [Array.setIfInBounds_comm _ _ (fun e => hij e.symm)]
    rw [hset]
    exact h _ _ _ (by simp) (by simp) (Nat.le_refl _) (Blk.new _ t zs) ((Blk.new w t zs).alloc _) hb2 hS2
end
end Go.Proofs.Ytdcbiknlihfhcaa
