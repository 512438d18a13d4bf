/- A law for a region that draws its order of evaluation: where some of its operations make new memory, or call functions that do, and leave all old memory as it was, each of them is looked at once, whatever the order; what it yields is told by a condition that new memory cannot break. Conditions: all others have come up already or wait for them. It speaks of no program. -/
import Derived.Test.YtdldffgdipedpaaDoorRegs
import Derived.Orders
import Derived.RegionTactic
import Derived.StillTail
namespace Go.Proofs.YtdldffgdipedpaaDoor
open Go.RowKit

/-- The state a with what the operations hs have left in their slots: hs lists an operation's number and its slot, x what it left. -/
def frm (a : Act) (hs : List (Nat × Tmp)) (x : Nat → Value) : Act := hs.foldl (fun a p => a.put (some p.2) (x p.1)) a
def upd (x : Nat → Value) (i : Nat) (v : Value) : Nat → Value := fun j => if j = i then v else x j
theorem upd_same (x : Nat → Value) (i : Nat) (v : Value) : upd x i v i = v := by simp [upd]
theorem upd_ne {x : Nat → Value} {i j : Nat} {v : Value} (h : j ≠ i) : upd x i v j = x j := by simp [upd, h]
theorem frm_congr {hs : List (Nat × Tmp)} {x y : Nat → Value} : ∀ {a : Act}, (∀ p ∈ hs, x p.1 = y p.1) → frm a hs x = frm a hs y := by
  induction hs with
  | nil => intro a _; rfl
  | cons p hs ih =>
    intro a h
    show frm (a.put (some p.2) (x p.1)) hs x = frm (a.put (some p.2) (y p.1)) hs y
    rw [h p (by simp)]
    exact ih (fun q hq => h q (by simp [hq]))
theorem put_put (a : Act) (d : Tmp) (u v : Value) : (a.put (some d) u).put (some d) v = a.put (some d) v := by
  simp [Act.put]
theorem put_self (a : Act) (d : Tmp) : a.put (some d) (a.tmps.getD d undef) = a := by
  have : a.tmps.setIfInBounds d (a.tmps.getD d undef) = a.tmps := by
    apply Array.ext
    · simp
    · intro i h1 h2
      rw [Array.getElem_setIfInBounds]
      split
      · rename_i e; subst e; simp [h2]
      · rfl
  show ({ a with tmps := a.tmps.setIfInBounds d (a.tmps.getD d undef) } : Act) = a
  rw [this]
theorem frm_put_out {hs : List (Nat × Tmp)} {x : Nat → Value} {d : Tmp} {v : Value} : ∀ {a : Act}, (∀ p ∈ hs, p.2 ≠ d) → (frm a hs x).put (some d) v = frm (a.put (some d) v) hs x := by
  induction hs with
  | nil => intro a _; rfl
  | cons p hs ih =>
    intro a h
    show (frm (a.put (some p.2) (x p.1)) hs x).put (some d) v = frm ((a.put (some d) v).put (some p.2) (x p.1)) hs x
    rw [ih (fun q hq => h q (by simp [hq])), Act.put_comm a (x p.1) v (fun e he h' => h p (by simp) ((Option.some.inj he).trans (Option.some.inj h').symm))]
theorem frm_put {hs : List (Nat × Tmp)} {x : Nat → Value} {i : Nat} {d : Tmp} {v : Value} : ∀ {a : Act}, (hs.map (·.1)).Nodup → (hs.map (·.2)).Nodup → (i, d) ∈ hs → (frm a hs x).put (some d) v = frm a hs (upd x i v) := by
  induction hs with
  | nil => intro a _ _ h; cases h
  | cons p hs ih =>
    intro a h1 h2 h
    simp only [List.map_cons, List.nodup_cons] at h1 h2
    show (frm (a.put (some p.2) (x p.1)) hs x).put (some d) v = frm (a.put (some p.2) (upd x i v p.1)) hs (upd x i v)
    rcases List.mem_cons.1 h with rfl | h
    · rw [upd_same, frm_congr (x := upd x i v) (y := x) (fun q hq => upd_ne (fun e => h1.1 (List.mem_map.2 ⟨q, hq, e⟩))),
        frm_put_out (fun q hq e => h2.1 (List.mem_map.2 ⟨q, hq, e⟩)), put_put]
    · rw [upd_ne (fun e => h1.1 (List.mem_map.2 ⟨_, h, e.symm⟩))]
      exact ih h1.2 h2.2 h
theorem frm_start {hs : List (Nat × Tmp)} : ∀ {a : Act}, (hs.map (·.1)).Nodup → ∃ x, frm a hs x = a := by
  induction hs with
  | nil => intro a _; exact ⟨fun _ => undef, rfl⟩
  | cons p hs ih =>
    intro a h1
    simp only [List.map_cons, List.nodup_cons] at h1
    obtain ⟨x, hx⟩ := ih (a := a) h1.2
    refine ⟨upd x p.1 (a.tmps.getD p.2 undef), ?_⟩
    show frm (a.put (some p.2) (upd x p.1 (a.tmps.getD p.2 undef) p.1)) hs (upd x p.1 (a.tmps.getD p.2 undef)) = a
    rw [upd_same, put_self, frm_congr (y := x) (fun q hq => upd_ne (fun e => h1.1 (List.mem_map.2 ⟨q, hq, e⟩)))]
    exact hx

/-- The block that an address or a slice points to. -/
def bk : Value → Nat
  | .pointer (some ad) => ad.block
  | .slice (some ad) _ _ => ad.block
  | _ => 0
section
variable {P : Program} {ops : Array Oper} {Q : Exit → Act → World → Prop} {md : Region.Mode}
/-- Operation j waits for p, at once or by way of operations of hs (at most f of them). -/
def reachB (md : Region.Mode) (ops : Array Oper) (hs : List (Nat × Tmp)) : Nat → Nat → Nat → Bool
  | 0, j, p => Region.waitsFor md ops j p
  | f + 1, j, p => Region.waitsFor md ops j p || (hs.any fun q => Region.waitsFor md ops j q.1 && reachB md ops hs f q.1 p)
/-- The operations ids have not come up, wait only for what has come up or for one another in the text's order; each other operation that has not come up waits for all of them. -/
def relyG (md : Region.Mode) (ops : Array Oper) (listed : Array Bool) (hs : List (Nat × Tmp)) : Bool :=
  decide ((hs.map (·.1)).Nodup) && decide ((hs.map (·.2)).Nodup) && decide (listed.size = ops.size) &&
  (hs.all fun p => !listed.getD p.1 true && (match ops[p.1]? with
    | some o => o.dst == some p.2 && (o.after.all fun e => !Region.binds md e || listed.getD e.on false || (decide (e.on < p.1) && (hs.map (·.1)).contains e.on))
    | none => false)) &&
  ((List.range ops.size).all fun j => listed.getD j true || (hs.map (·.1)).contains j ||
    (hs.all fun p => reachB md ops hs 5 j p.1))
/-- The flags once all of hs have come up. -/
def flagAll (listed : Array Bool) (hs : List (Nat × Tmp)) : Array Bool := hs.foldl (fun l p => l.setIfInBounds p.1 true) listed
theorem flagAll_size (hs : List (Nat × Tmp)) : ∀ (l : Array Bool), (flagAll l hs).size = l.size := by
  induction hs with
  | nil => intro l; rfl
  | cons p hs ih => intro l; show (flagAll (l.setIfInBounds p.1 true) hs).size = _; rw [ih]; simp
theorem flagAll_getD (hs : List (Nat × Tmp)) (j : Nat) : ∀ (l : Array Bool), (hs.all fun p => decide (p.1 < l.size)) = true → (flagAll l hs).getD j false = (l.getD j false || (hs.map (·.1)).contains j) := by
  induction hs with
  | nil => intro l _; simp [flagAll]
  | cons p hs ih =>
    intro l h
    simp only [List.all_cons, Bool.and_eq_true, decide_eq_true_eq] at h
    show (flagAll (l.setIfInBounds p.1 true) hs).getD j false = _
    rw [ih _ (by simpa using h.2)]
    by_cases e : p.1 = j
    · subst e; simp [h.1]
    · have e' : ¬ j = p.1 := fun h => e h.symm
      rw [getD_set_ne false e, List.map_cons, List.contains_cons, beq_false_of_ne e', Bool.false_or]
theorem ext_getD {a b : Array Bool} (hs : a.size = b.size) (h : ∀ j, a.getD j false = b.getD j false) : a = b := by
  apply Array.ext hs
  intro i h1 h2
  have := h i
  simpa [h1, h2] using this
theorem getD_flip {l : Array Bool} {j : Nat} (h : j < l.size) : l.getD j true = l.getD j false := by simp [h]

theorem rely_aux (listed0 : Array Bool) (hs : List (Nat × Tmp)) (a0 : Act) (w0 : World) (Φ : Nat → Value → World → Prop) (news : List Nat) (hB : relyG md ops listed0 hs = true)
    (hst : ∀ i v w w', Φ i v w → Below w.heap.size w w' → Φ i v w')
    (hstep : ∀ p ∈ hs, ∀ o, ops[p.1]? = some o → ∀ x w, Below w0.heap.size w0 w → (∀ e ∈ o.after, Region.binds md e = true → (hs.map (·.1)).contains e.on = true → Φ e.on (x e.on) w) →
      ∀ K : Act → World → Prop, (∀ v w', Φ p.1 v w' → Below w.heap.size w w' → (p.1 ∈ news → w.heap.size ≤ bk v ∧ bk v < w'.heap.size) → K ((frm a0 hs x).put (some p.2) v) w') → if Region.wanted o (yielded ops (frm a0 hs x).tmps) = true then Oper.wp P o (frm a0 hs x) w K Q else K ((frm a0 hs x).put o.dst undef) w)
    (g : Nat) (hend : ∀ x w, Below w0.heap.size w0 w → (∀ p ∈ hs, Φ p.1 (x p.1) w) → (∀ p ∈ hs, ∀ q ∈ hs, p.1 ∈ news → q.1 ∈ news → p.1 ≠ q.1 → bk (x p.1) ≠ bk (x q.1)) → wpAny P md ops Q g (flagAll listed0 hs) (frm a0 hs x) w) :
    ∀ (m : Nat) (rem : List Nat) (listed : Array Bool) (x : Nat → Value) (w : World), rem.length = m → rem.Nodup → (∀ i ∈ rem, i ∈ hs.map (·.1)) → listed.size = ops.size →
      (∀ j, listed.getD j false = (listed0.getD j false || (decide (j ∈ hs.map (·.1)) && !decide (j ∈ rem)))) →
      (∀ p ∈ hs, p.1 ∉ rem → ∀ o, ops[p.1]? = some o → ∀ e ∈ o.after, Region.binds md e = true → listed.getD e.on false = true) →
      Below w0.heap.size w0 w → (∀ p ∈ hs, p.1 ∉ rem → Φ p.1 (x p.1) w) →
      (∀ p ∈ hs, p.1 ∉ rem → p.1 ∈ news → bk (x p.1) < w.heap.size) →
      (∀ p ∈ hs, ∀ q ∈ hs, p.1 ∉ rem → q.1 ∉ rem → p.1 ∈ news → q.1 ∈ news → p.1 ≠ q.1 → bk (x p.1) ≠ bk (x q.1)) →
      wpAny P md ops Q (m + g) listed (frm a0 hs x) w := by
  simp only [relyG, Bool.and_eq_true, decide_eq_true_eq, List.all_eq_true, Bool.not_eq_true'] at hB
  obtain ⟨⟨⟨⟨hn1, hn2⟩, hsz0⟩, hops⟩, hsink⟩ := hB
  have hop : ∀ p ∈ hs, listed0.getD p.1 true = false ∧ ∃ o, ops[p.1]? = some o ∧ o.dst = some p.2 ∧ ∀ e ∈ o.after, Region.binds md e = true → listed0.getD e.on false = true ∨ (e.on < p.1 ∧ e.on ∈ hs.map (·.1)) := by
    intro p hp
    have h := hops p hp
    refine ⟨h.1, ?_⟩
    have h2 := h.2
    split at h2
    · rename_i o ho
      simp only [Bool.and_eq_true, beq_iff_eq, Array.all_eq_true_iff_forall_mem, Bool.or_eq_true, decide_eq_true_eq, Bool.not_eq_true', List.contains_iff_mem] at h2
      refine ⟨o, ho, h2.1, fun e he hb => ?_⟩
      rcases h2.2 e he with (h3 | h3) | h3
      · rw [hb] at h3; cases h3
      · exact .inl h3
      · exact .inr h3
    · cases h2
  intro m
  induction m with
  | zero =>
    intro rem listed x w hl _ _ hsz hfl _ hbel hΦ _ hnew
    have hr : rem = [] := List.eq_nil_of_length_eq_zero hl
    subst hr
    have hL : listed = flagAll listed0 hs := by
      refine ext_getD (by rw [flagAll_size, hsz, hsz0]) (fun j => ?_)
      rw [hfl j, flagAll_getD hs j listed0 (List.all_eq_true.2 fun p hp => by
        obtain ⟨_, o, ho, _⟩ := hop p hp
        rw [decide_eq_true_eq, hsz0]
        exact (Array.getElem?_eq_some_iff.1 ho).1)]
      simp
    rw [Nat.zero_add, hL]
    exact hend x w hbel (fun p hp => hΦ p hp (by simp)) (fun p hp q hq h1 h2 h3 => hnew p hp q hq (by simp) (by simp) h1 h2 h3)
  | succ m ih =>
    intro rem listed x w hl hnd hsub hsz hfl hcl hbel hΦ hlt hnew
    rw [show m + 1 + g = (m + g) + 1 by omega]
    have hbnd : ∀ p ∈ hs, p.1 < ops.size := fun p hp => by
      obtain ⟨_, o, ho, _⟩ := hop p hp
      exact (Array.getElem?_eq_some_iff.1 ho).1
    have hun : ∀ p ∈ hs, p.1 ∈ rem → listed.getD p.1 true = false := fun p hp hr => by
      rw [getD_flip (by rw [hsz]; exact hbnd p hp), hfl p.1]
      have := (hop p hp).1
      rw [getD_flip (by rw [hsz0]; exact hbnd p hp)] at this
      rw [this]; simp [hr]
    -- the least of rem is ready
    have hne : ∃ i ∈ rem, i ∈ Region.ready md ops listed := by
      have hex : ∃ i ∈ rem, ∀ j ∈ rem, i ≤ j := by
        have : rem ≠ [] := by intro e; rw [e] at hl; cases hl
        clear hl hnd hsub hfl hcl hΦ hlt hnew hun
        induction rem with
        | nil => exact absurd rfl this
        | cons a l ih2 =>
          by_cases hl2 : l = []
          · exact ⟨a, by simp, fun j hj => by rw [hl2] at hj; simp at hj; omega⟩
          · obtain ⟨i, hi, hmin⟩ := ih2 hl2
            rcases Nat.lt_or_ge a i with h | h
            · exact ⟨a, by simp, fun j hj => by rcases List.mem_cons.1 hj with rfl | hj; exact Nat.le_refl _; have := hmin j hj; omega⟩
            · exact ⟨i, by simp [hi], fun j hj => by rcases List.mem_cons.1 hj with rfl | hj; exact h; exact hmin j hj⟩
      obtain ⟨i, hi, hmin⟩ := hex
      obtain ⟨p, hp, rfl⟩ := List.mem_map.1 (hsub i hi)
      obtain ⟨_, o, ho, _, haft⟩ := hop p hp
      refine ⟨p.1, hi, mem_ready.2 ⟨hun p hp hi, o, ho, fun e he hb => ?_⟩⟩
      rw [hfl e.on]
      rcases haft e he hb with h | ⟨h, hin⟩
      · rw [h]; simp
      · have : e.on ∉ rem := fun hr => by have := hmin _ hr; omega
        simp only [List.mem_map] at hin
        simp [this, hin]
    refine ⟨fun h0 => (by obtain ⟨i, _, hi⟩ := hne; rw [h0] at hi; cases hi), fun i hi => ?_⟩
    obtain ⟨hiun, oi, hoi, hall⟩ := mem_ready.1 hi
    have hilt : i < ops.size := (Array.getElem?_eq_some_iff.1 hoi).1
    -- what comes up is one of rem
    have hirem : i ∈ rem := by
      refine Classical.byContradiction fun hno => ?_
      by_cases hids : i ∈ hs.map (·.1)
      · have := hfl i
        rw [getD_flip (by rw [hsz]; exact hilt)] at hiun
        rw [hiun] at this
        simp only [List.mem_map] at hids
        simp [hids, hno] at this
      · have h1 := hsink i (List.mem_range.2 hilt)
        simp only [Bool.or_eq_true, List.contains_iff_mem, List.all_eq_true] at h1
        rcases h1 with (h1 | h1) | h1
        · rw [getD_flip (by rw [hsz0]; exact hilt)] at h1
          have := hfl i
          rw [getD_flip (by rw [hsz]; exact hilt)] at hiun
          rw [hiun, h1] at this
          simp at this
        · exact hids h1
        · obtain ⟨r, hr, _⟩ := hne
          obtain ⟨p, hp, rfl⟩ := List.mem_map.1 (hsub r hr)
          have hpf := hun p hp hr
          have key : ∀ (f j : Nat), (∀ oj, ops[j]? = some oj → ∀ e ∈ oj.after, Region.binds md e = true → listed.getD e.on false = true) → reachB md ops hs f j p.1 = true → False := by
            intro f
            induction f with
            | zero =>
              intro j hj h2
              obtain ⟨oj, hoj, e, he, hb, hon⟩ := Region.waitsFor_spec h2
              have := hj oj hoj e he hb
              rw [hon, getD_both hpf] at this
              cases this
            | succ f ih =>
              intro j hj h2
              simp only [reachB, Bool.or_eq_true, List.any_eq_true, Bool.and_eq_true] at h2
              rcases h2 with h2 | ⟨q, hq, h2, h3⟩
              · obtain ⟨oj, hoj, e, he, hb, hon⟩ := Region.waitsFor_spec h2
                have := hj oj hoj e he hb
                rw [hon, getD_both hpf] at this
                cases this
              · obtain ⟨oj, hoj, e, he, hb, hon⟩ := Region.waitsFor_spec h2
                have hq1 := hj oj hoj e he hb
                rw [hon] at hq1
                have hqr : q.1 ∉ rem := fun h => by
                  have := hun q hq h
                  rw [getD_both this] at hq1
                  cases hq1
                exact ih q.1 (fun ok hok e' he' hb' => hcl q hq hqr ok hok e' he' hb') h3
          exact (key 5 i (fun oj hoj e he hb => by
            have : oj = oi := Option.some.inj (hoj.symm.trans hoi)
            subst this
            exact hall e he hb) (h1 p hp)).elim
    obtain ⟨p, hp, rfl⟩ := List.mem_map.1 (hsub i hirem)
    obtain ⟨_, o, ho, hdst, haft⟩ := hop p hp
    have : o = oi := Option.some.inj (ho.symm.trans hoi)
    subst this
    refine wpOp_step ho (fun K' hK => ?_)
    refine hstep p hp o ho x w hbel (fun e he hb hin => ?_) K' (fun v w' hv hbw hnv => hK _ _ ?_)
    · obtain ⟨q, hq, hqe⟩ := List.mem_map.1 (List.contains_iff_mem.1 hin)
      have h1 := hall e he hb
      have hqr : q.1 ∉ rem := fun h => by
        have := hun q hq h
        rw [← hqe, getD_both this] at h1
        cases h1
      rw [← hqe]
      exact hΦ q hq hqr
    · rw [frm_put hn1 hn2 hp]
      have hxne : ∀ q ∈ hs, q.1 ≠ p.1 → upd x p.1 v q.1 = x q.1 := fun q _ h => upd_ne h
      refine ih (rem.erase p.1) (listed.setIfInBounds p.1 true) (upd x p.1 v) w' (by rw [List.length_erase_of_mem hirem]; omega) (hnd.erase _) (fun j hj => hsub j (List.mem_of_mem_erase hj)) (by simp [hsz]) ?_ ?_ (hbel.trans (hbw.mono hbel.size)) ?_ ?_ ?_
      · intro j
        by_cases e : p.1 = j
        · subst e
          have h1 : ¬ p.1 ∈ rem.erase p.1 := fun h => (hnd.mem_erase_iff.1 h).1 rfl
          have h2 : p.1 ∈ hs.map (·.1) := List.mem_map.2 ⟨p, hp, rfl⟩
          have h3 : (listed.setIfInBounds p.1 true).getD p.1 false = true := by simp [hsz, hbnd p hp]
          rw [h3, decide_eq_true h2, decide_eq_false h1]
          simp
        · have h1 : (j ∈ rem.erase p.1) ↔ j ∈ rem := by rw [hnd.mem_erase_iff]; exact ⟨fun h => h.2, fun h => ⟨fun h' => e h'.symm, h⟩⟩
          rw [getD_set_ne false e, hfl j]
          simp only [h1]
      · intro q hq hqr o' ho' e he hb
        refine getD_set_true ?_
        by_cases e' : q.1 = p.1
        · rw [e'] at ho'
          have : o' = o := Option.some.inj (ho'.symm.trans ho)
          subst this
          exact hall e he hb
        · exact hcl q hq (fun h => hqr (hnd.mem_erase_iff.2 ⟨e', h⟩)) o' ho' e he hb
      · intro q hq hqr
        by_cases e' : q.1 = p.1
        · rw [e', upd_same]; exact hv
        · rw [hxne q hq e']
          exact hst _ _ _ _ (hΦ q hq (fun h => hqr (hnd.mem_erase_iff.2 ⟨e', h⟩))) hbw
      · intro q hq hqr hqn
        by_cases e' : q.1 = p.1
        · rw [e', upd_same]; exact (hnv (e' ▸ hqn)).2
        · rw [hxne q hq e']
          exact Nat.lt_of_lt_of_le (hlt q hq (fun h => hqr (hnd.mem_erase_iff.2 ⟨e', h⟩)) hqn) hbw.size
      · intro q hq r hr hqr hrr hqn hrn hqr'
        by_cases e1 : q.1 = p.1
        · have e2 : r.1 ≠ p.1 := fun h => hqr' (e1.trans h.symm)
          rw [e1, upd_same, hxne r hr e2]
          have h1 := (hnv (e1 ▸ hqn)).1
          have h2 := hlt r hr (fun h => hrr (hnd.mem_erase_iff.2 ⟨e2, h⟩)) hrn
          omega
        · by_cases e2 : r.1 = p.1
          · rw [e2, upd_same, hxne q hq e1]
            have h1 := (hnv (e2 ▸ hrn)).1
            have h2 := hlt q hq (fun h => hqr (hnd.mem_erase_iff.2 ⟨e1, h⟩)) hqn
            omega
          · rw [hxne q hq e1, hxne r hr e2]
            exact hnew q hq r hr (fun h => hqr (hnd.mem_erase_iff.2 ⟨e1, h⟩)) (fun h => hrr (hnd.mem_erase_iff.2 ⟨e2, h⟩)) hqn hrn hqr'
/-- The law, guards let in: from here on, each of the operations hs is looked at once; then the walk goes on with all of them listed. -/
theorem wpAny_relyG (hs : List (Nat × Tmp)) (Φ : Nat → Value → World → Prop) (news : List Nat) {listed0 : Array Bool} {a0 : Act} {w0 : World} {g f : Nat} (hB : relyG md ops listed0 hs = true) (hf : f = hs.length + g)
    (hst : ∀ i v w w', Φ i v w → Below w.heap.size w w' → Φ i v w')
    (hstep : ∀ p ∈ hs, ∀ o, ops[p.1]? = some o → ∀ x w, Below w0.heap.size w0 w → (∀ e ∈ o.after, Region.binds md e = true → (hs.map (·.1)).contains e.on = true → Φ e.on (x e.on) w) →
      ∀ K : Act → World → Prop, (∀ v w', Φ p.1 v w' → Below w.heap.size w w' → (p.1 ∈ news → w.heap.size ≤ bk v ∧ bk v < w'.heap.size) → K ((frm a0 hs x).put (some p.2) v) w') → if Region.wanted o (yielded ops (frm a0 hs x).tmps) = true then Oper.wp P o (frm a0 hs x) w K Q else K ((frm a0 hs x).put o.dst undef) w)
    (hend : ∀ x w, Below w0.heap.size w0 w → (∀ p ∈ hs, Φ p.1 (x p.1) w) → (∀ p ∈ hs, ∀ q ∈ hs, p.1 ∈ news → q.1 ∈ news → p.1 ≠ q.1 → bk (x p.1) ≠ bk (x q.1)) → wpAny P md ops Q g (flagAll listed0 hs) (frm a0 hs x) w) :
    wpAny P md ops Q f listed0 a0 w0 := by
  have hB' := hB
  simp only [relyG, Bool.and_eq_true, decide_eq_true_eq] at hB'
  have hn1 := hB'.1.1.1.1
  obtain ⟨x, hx⟩ := frm_start (a := a0) hn1
  have := rely_aux (Q := Q) listed0 hs a0 w0 Φ news hB hst hstep g hend hs.length (hs.map (·.1)) listed0 x w0 (by simp) hn1 (fun _ h => h) hB'.1.1.2 (fun j => by cases decide (j ∈ hs.map (·.1)) <;> simp)
    (fun p hp h => absurd (List.mem_map.2 ⟨p, hp, rfl⟩) h) (Below.refl _ _) (fun p hp h => absurd (List.mem_map.2 ⟨p, hp, rfl⟩) h) (fun p hp h => absurd (List.mem_map.2 ⟨p, hp, rfl⟩) h) (fun p hp q hq h => absurd (List.mem_map.2 ⟨p, hp, rfl⟩) h)
  rw [hx] at this
  rw [hf]
  exact this
/-- The same, and none of them is under a guard. -/
def relyB (md : Region.Mode) (ops : Array Oper) (listed : Array Bool) (hs : List (Nat × Tmp)) : Bool :=
  relyG md ops listed hs && (hs.all fun p => match ops[p.1]? with
    | some o => o.guard.isNone
    | none => false)
/-- The law: from here on, each of the operations hs is looked at once; then the walk goes on with all of them listed. -/
theorem wpAny_rely (hs : List (Nat × Tmp)) (Φ : Nat → Value → World → Prop) (news : List Nat) {listed0 : Array Bool} {a0 : Act} {w0 : World} {g f : Nat} (hB : relyB md ops listed0 hs = true) (hf : f = hs.length + g)
    (hst : ∀ i v w w', Φ i v w → Below w.heap.size w w' → Φ i v w')
    (hstep : ∀ p ∈ hs, ∀ o, ops[p.1]? = some o → ∀ x w, Below w0.heap.size w0 w → (∀ e ∈ o.after, Region.binds md e = true → (hs.map (·.1)).contains e.on = true → Φ e.on (x e.on) w) →
      ∀ K : Act → World → Prop, (∀ v w', Φ p.1 v w' → Below w.heap.size w w' → (p.1 ∈ news → w.heap.size ≤ bk v ∧ bk v < w'.heap.size) → K ((frm a0 hs x).put (some p.2) v) w') → Oper.wp P o (frm a0 hs x) w K Q)
    (hend : ∀ x w, Below w0.heap.size w0 w → (∀ p ∈ hs, Φ p.1 (x p.1) w) → (∀ p ∈ hs, ∀ q ∈ hs, p.1 ∈ news → q.1 ∈ news → p.1 ≠ q.1 → bk (x p.1) ≠ bk (x q.1)) → wpAny P md ops Q g (flagAll listed0 hs) (frm a0 hs x) w) :
    wpAny P md ops Q f listed0 a0 w0 := by
  simp only [relyB, Bool.and_eq_true, List.all_eq_true] at hB
  refine wpAny_relyG hs Φ news hB.1 hf hst (fun p hp o ho x w h1 h2 K hK => ?_) hend
  have hg := hB.2 p hp
  rw [ho] at hg
  rw [if_pos (by simp [Region.wanted, Option.isNone_iff_eq_none.1 hg])]
  exact hstep p hp o ho x w h1 h2 K hK
end
end Go.Proofs.YtdldffgdipedpaaDoor
