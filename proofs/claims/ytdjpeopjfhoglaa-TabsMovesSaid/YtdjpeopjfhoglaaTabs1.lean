/- What the library's functions on slices of whole numbers that package tabs calls do (BinarySearch, Insert, Delete, DeleteFunc, Clone), on a row of stops in memory of its own. Conditions: the stops are those below a number of at most 132 at which a predicate holds. -/
import Derived.Test.YtdjpeopjfhoglaaTabs0
import Derived.Test.YtdjpeopjfhoglaaRegs
import Derived.Test.YtdjpeopjfhoglaaCodec0
import Derived.Test.YtdjpeopjfhoglaaShelf
import Derived.Shelf.Spec.SlicesInsertGrow
import Derived.Lib.RowBridge
namespace Go.Proofs.Ytdjpeopjfhoglaa
open Go.Shelf Go.ChangeShapes Go.WideShapes Go.RowKit Go.Lib Go.Sort
/-! ### Rows -/
theorem Blk.setCells {g : Nat} {t : TypeId} : ∀ (vs : List Value) (o : Nat) (w : World) (cur : List Value), Blk w g t cur → o + vs.length ≤ cur.length → Blk (w.setCells g o vs) g t (cur.take o ++ vs ++ cur.drop (o + vs.length))
  | [], o, w, cur, h, _ => by
    rw [List.append_nil, List.length_nil, Nat.add_zero, List.take_append_drop]
    exact h
  | v :: r, o, w, cur, h, hl => by
    simp only [List.length_cons] at hl
    have h1 := Blk.setCells r (o + 1) (w.setCell ⟨g, o, none⟩ v) (cur.set o v) (h.set_ o v) (by rw [List.length_set]; omega)
    have e1 : (cur.set o v).take (o + 1) = cur.take o ++ [v] := by
      rw [List.take_succ_eq_append_getElem (by rw [List.length_set]; omega), List.take_set_of_le (Nat.le_refl o), List.getElem_set_self]
    have e2 : (cur.set o v).drop (o + 1 + r.length) = cur.drop (o + (v :: r).length) := by
      rw [List.drop_set_of_lt (by omega), List.length_cons]
      congr 1
      omega
    rw [e1, e2, show cur.take o ++ [v] ++ r ++ cur.drop (o + (v :: r).length) = cur.take o ++ v :: r ++ cur.drop (o + (v :: r).length) by simp] at h1
    exact h1
theorem Blk.newA (w : World) (t : TypeId) (cs : Array Value) (l : List Value) (h : cs.toList = l) : Blk (w.alloc (.cells cs t)) w.heap.size t l := by
  subst h
  simpa using Blk.new w t cs.toList
theorem only_setCells {a : World} {g : Nat} : ∀ (vs : List Value) (o : Nat) {w : World}, a.grownBy w (some g) → a.grownBy (w.setCells g o vs) (some g)
  | [], _, _, h => h
  | v :: r, o, _, h => only_setCells r (o + 1) (only_setCell h rfl v)
theorem only_drewN {a w : World} {row : Option Nat} (h : a.grownBy w row) (k : Nat) : a.grownBy (w.drewN k) row := ⟨h.os, h.tape, h.output, h.size, h.block⟩
theorem own_int {w : World} {base n : Nat} {e : TypeId} {v : Value} {xs : List Value} (h : w.ownsRow base e 1 v n xs) :
    (v = .slice none 0 0 ∧ n = 0) ∨ ∃ g cap cs, v = .slice (some ⟨g, 0, none⟩) n cap ∧ base ≤ g ∧ Blk w g e (xs ++ cs) ∧ cap = n + cs.length ∧ cap ≤ maxLen := by
  rcases h.2 with h0 | ⟨g, cap, cur, rfl, hb, hh, hn', hm, hs, ht⟩
  · exact .inl h0
  · refine .inr ⟨g, cap, cur.toList.drop n, rfl, hb, ?_, ?_, hm⟩
    · rw [Nat.mul_one] at ht
      rw [← ht, List.take_append_drop]
      unfold Blk
      rw [hh]
    · rw [List.length_drop]
      rw [Nat.mul_one] at hs
      have : cur.toList.length = cap := by simpa using hs
      omega
theorem own_of_blk {w : World} {base g n cap : Nat} {e : TypeId} {xs cs : List Value} (hb : base ≤ g) (h : Blk w g e (xs ++ cs)) (hx : xs.length = n) (hc : cap = n + cs.length) (hm : cap ≤ maxLen) :
    w.ownsRow base e 1 (.slice (some ⟨g, 0, none⟩) n cap) n xs := by
  refine ⟨by omega, .inr ⟨g, cap, (xs ++ cs).toArray, rfl, hb, h, by omega, hm, by simp; omega, ?_⟩⟩
  rw [Nat.mul_one, ← hx]
  simp
theorem ints_zi (l : List Nat) : ints .i64 l = (zi l).map (Value.int .i64) := by simp [ints, zi]
theorem wf64 (x : Nat) (h : x ≤ 1000) : (Lit.int .i64 (x : Int)).wf = true := by
  simp [Lit.wf, IntKind.min, IntKind.max, IntKind.signed, IntKind.bits]; omega
theorem own_reads {w : World} {base n c : Nat} {e : TypeId} {A : Option Addr} {l : List Nat} (h : w.ownsRow base e 1 (.slice A n c) n (ints .i64 l)) (hl : ∀ x ∈ l, x ≤ 1000) : Reads .i64 w A n c l := by
  have hlen : l.length = n := by have := h.1; rw [length_ints] at this; omega
  rcases own_int h with ⟨e0, rfl⟩ | ⟨g, cap, cs, e1, _, hb, hc, hm⟩
  · cases e0
    obtain rfl : l = [] := List.eq_nil_of_length_eq_zero hlen
    exact ⟨rfl, Nat.le_refl _, Nat.zero_le _, by simp, by simp⟩
  · cases e1
    refine ⟨hlen, by omega, hm, fun x hx => wf64 x (hl x hx), fun i hi => ⟨⟨g, 0, none⟩, rfl, hb.lt, ?_⟩⟩
    rw [add_head, hb.cell, List.getElem?_append_left (by rw [length_ints]; exact hi)]
    simp [ints, hi]
theorem stp_small {n : Nat} (p : Nat → Bool) (hn : n ≤ 132) : ∀ x ∈ stp n p, x ≤ 1000 := fun x hx => by have := (stp_mem.1 hx).1; omega
/-- A row of a call's own that holds the stops below n. -/
def OwnS (w : World) (base : Nat) (v : Value) (n : Nat) (p : Nat → Bool) : Prop := w.ownsRow base 3 1 v (stp n p).length (ints .i64 (stp n p))
theorem ownS_cells {w : World} {g : Nat} {l : List Nat} {cs : List Value} (h : Blk w g 3 (ints .i64 l ++ cs)) : ∀ j, j < (zi l).length → w.cell? ⟨g, 0 + j, none⟩ = some (.int .i64 ((zi l).getD j 0)) := by
  intro j hj
  rw [zi_length] at hj
  rw [Nat.zero_add, h.cell, List.getElem?_append_left (by rw [length_ints]; exact hj), zi_getD l j hj]
  simp [ints, hj]
/-! ### BinarySearch -/
theorem search_c (v : Value) (base n : Nat) (p : Nat → Bool) (x : Int) (w : World) (h : OwnS w base v n p) (hn : n ≤ 132) :
    Calls Try.prog 22 #[v, .int .i64 x] w fun en w' => en = .returned (.tuple #[.int .i64 (((stp (min x.toNat n) p).length : Nat) : Int), .bool (decide (0 ≤ x ∧ x < n) && p x.toNat)]) ∧ ∃ q, w' = w.drewN q := by
  have hlen := stp_length n p
  rw [← zi_count n p x, ← zi_has n p x]
  rcases own_int h with ⟨rfl, h0⟩ | ⟨g, cap, cs, rfl, _, hb, hc, hm⟩
  · have e0 : stp n p = [] := List.eq_nil_of_length_eq_zero h0
    rw [e0]
    refine (Try.slices_BinarySearch_int_empty none 0 x w).mono ?_
    rintro en w' ⟨rfl, rfl⟩
    exact ⟨rfl, 0, rfl⟩
  · have ht : (zi (stp n p)).take (stp n p).length = zi (stp n p) := List.take_of_length_le (by rw [zi_length]; exact Nat.le_refl _)
    refine (Try.slices_BinarySearch_int g 0 (stp n p).length cap (zi (stp n p)) x w (by rw [zi_length]; exact Nat.le_refl _) (by omega) (ownS_cells hb) (by rw [ht]; exact zi_sorted n p)).mono ?_
    rw [ht]
    exact fun en w' h => h
/-! ### Clone -/
theorem clone_c (v : Value) (base n : Nat) (p : Nat → Bool) (w : World) (h : OwnS w base v n p) (hn : n ≤ 132) :
    Calls Try.prog 20 #[v] w (RowPost w 3 (stp n p).length (ints .i64 (stp n p))) := by
  have hlen := stp_length n p
  rcases own_int h with ⟨rfl, h0⟩ | ⟨g, cap, cs, rfl, _, hb, hc, hm⟩
  · have e0 : stp n p = [] := List.eq_nil_of_length_eq_zero h0
    rw [e0]
    refine (Try.slices_Clone_int_nil 0 0 w).mono ?_
    rintro en w' ⟨rfl, rfl⟩
    exact ⟨_, rfl, World.ownsRow_nil _ _ _ _, Below.refl _ _⟩
  · have ht : (zi (stp n p)).take (stp n p).length = zi (stp n p) := List.take_of_length_le (by rw [zi_length]; exact Nat.le_refl _)
    refine (Try.slices_Clone_int g 0 (stp n p).length cap (zi (stp n p)) w (by rw [zi_length]; exact Nat.le_refl _) (by omega) (ownS_cells hb)).mono ?_
    rintro en w' ⟨v', rfl, ho, _, hbel⟩
    rw [ht, ← ints_zi] at ho
    exact ⟨v', rfl, ho, hbel⟩
/-! ### Delete -/
theorem delete_c (v : Value) (base n c : Nat) (p : Nat → Bool) (w : World) (h : OwnS w base v n p) (hn : n ≤ 132) (hc : c < n) (hp : p c = true) :
    Calls Try.prog 26 #[v, .int .i64 (((stp c p).length : Nat) : Int), .int .i64 ((((stp c p).length + 1 : Nat)) : Int)] w fun en w' =>
      ∃ v', en = .returned v' ∧ OwnS w' base v' n (clrP c p) ∧ w.grownBy w' v.ownBlock ∧ v'.ownBlock = v.ownBlock := by
  have hlen := stp_length n p
  have hi : (stp c p).length + 1 ≤ (stp n p).length := by
    rw [stp_split p (show c ≤ n by omega), stpR_cons p hc, if_pos hp, List.length_append, List.length_cons]
    omega
  have hL := stp_clr hc hp
  generalize hI : (stp c p).length = i at hi hL
  rcases own_int h with ⟨rfl, h0⟩ | ⟨g, cap, cs, rfl, hbg, hb, hcap, hm⟩
  · omega
  · have hzl : (zi (stp n p)).length = (stp n p).length := zi_length _
    have ht : (zi (stp n p)).take (stp n p).length = zi (stp n p) := List.take_of_length_le (by omega)
    refine (Try.slices_Delete_int_cells g 0 (stp n p).length cap i (i + 1) (zi (stp n p)) w (by omega) (by omega) (by unfold maxLen at hm; omega) (by omega) hi (ownS_cells hb) (fun j _ => hb.frozen _)).mono ?_
    rintro en w' ⟨rfl, q, rfl⟩
    have hN : (stp n p).length - (i + 1 - i) = (stp n (clrP c p)).length := by rw [hL, List.length_append, List.length_take, List.length_drop]; omega
    have hE : ((zi (stp n p)).take (stp n p).length).take i ++ ((zi (stp n p)).take (stp n p).length).drop (i + 1) ++ List.replicate (i + 1 - i) 0 = zi (stp n (clrP c p)) ++ [0] := by
      rw [ht, hL, show i + 1 - i = 1 by omega]
      simp [zi]
    rw [hE, hN, List.map_append, ← ints_zi]
    have hb2 := Blk.setCells (ints .i64 (stp n (clrP c p)) ++ [0].map (Value.int .i64)) 0 (w.drewN q) _ (hb.drewN q) (by
      rw [List.length_append, List.length_map, length_ints, List.length_append, length_ints, List.length_singleton]; omega)
    rw [List.take_zero, List.nil_append, Nat.zero_add, List.append_assoc] at hb2
    refine ⟨_, rfl, own_of_blk hbg hb2 (length_ints _ _) ?_ hm, only_setCells _ _ (only_drewN (World.grownBy.refl _ _) q), rfl⟩
    simp only [List.map_cons, List.map_nil, List.length_append, length_ints, List.length_drop, List.length_cons, List.length_nil]
    omega
/-! ### DeleteFunc with the closure of Resize -/
theorem gives_c (m x : Int) (bx : Nat) (W : World) (hc : W.cell? ⟨bx, 0, none⟩ = some (.int .i64 m)) :
    FnGives Try.prog 24 #[.pointer (some ⟨bx, 0, none⟩)] #[.int .i64 x] (.bool (decide (m ≤ x))) W := by
  show Calls Try.prog 24 #[.int .i64 x, .pointer (some ⟨bx, 0, none⟩)] W _
  go_enter Try.func24, Try.ntmps24
  go_wp2
  all_goals (go_ret; exact ⟨by simp_all, 0, rfl⟩)
theorem over_c (m : Int) (bx blk off size : Nat) (w : World) (hB : bx < w.heap.size) (hne : bx ≠ blk) (hc : w.cell? ⟨bx, 0, none⟩ = some (.int .i64 m)) :
    PredOver Try.prog 24 #[.pointer (some ⟨bx, 0, none⟩)] (Value.int .i64) (fun x => decide (m ≤ x)) blk off size w :=
  fun n os dk x _ => gives_c m x bx _ (by
    unfold sortWorld
    rw [cell?_grow _ _ _ (by show bx < (putRow _ _ _ _ _).heap.size; rw [size_putRow]; exact hB), cell?_putRow_other _ _ blk off _ _ (Or.inl hne)]
    exact hc)
set_option maxHeartbeats 800000 in
theorem deleteFunc_nil (c : Nat) (fv : Value) (w : World) : Calls Try.prog 25 #[.slice none 0 c, fv] w fun en w' => en = .returned (.slice none 0 c) ∧ w' = w := by
  have HI := Try.slices_IndexFunc_empty (α := Int) none c fv w
  go_enter Try.func25, Try.ntmps25
  go_wp2_with fail
  refine HI.mono ?_
  rintro en w' ⟨rfl, rfl⟩
  go_wp2
  go_ret
  exact ⟨rfl, rfl⟩
theorem deleteFunc_c (v : Value) (base n m bx : Nat) (p : Nat → Bool) (tb : TypeId) (w : World) (h : OwnS w base v n p) (hn : n ≤ 132) (hx : Blk w bx tb [.int .i64 (m : Int)]) (hne : v.ownBlock ≠ some bx) :
    Calls Try.prog 25 #[v, .func (.func 24) #[] #[.pointer (some ⟨bx, 0, none⟩)]] w fun en w' =>
      ∃ v', en = .returned v' ∧ OwnS w' base v' (min m n) p ∧ w.grownBy w' v.ownBlock ∧ v'.ownBlock = v.ownBlock := by
  have hlen := stp_length n p
  have hL := stp_below (n := n) (m := m) p
  have hcx : w.cell? ⟨bx, 0, none⟩ = some (.int .i64 (m : Int)) := hx.cell 0
  rcases own_int h with ⟨rfl, h0⟩ | ⟨g, cap, cs, rfl, hbg, hb, hcap, hm⟩
  · have e0 : stp n p = [] := List.eq_nil_of_length_eq_zero h0
    refine (deleteFunc_nil 0 _ w).mono ?_
    rintro en w' ⟨rfl, rfl⟩
    refine ⟨_, rfl, ?_, World.grownBy.refl _ _, rfl⟩
    unfold OwnS
    rw [← hL, e0]
    exact World.ownsRow_nil _ _ _ _
  · have hH : Holds (Value.int .i64) w g 0 (zi (stp n p)).toArray := by
      have := holds_of_ints (w := w) (b := g) (off := 0) (n := (zi (stp n p)).length) (zs := zi (stp n p)) (Nat.le_refl _) (ownS_cells hb) (fun j _ => hb.frozen _)
      rwa [List.take_of_length_le (Nat.le_refl _)] at this
    have hg : bx ≠ g := fun e => hne (by rw [e]; rfl)
    have hF : (zi (stp n p)).filter (fun x => !decide ((m : Int) ≤ x)) = zi (stp (min m n) p) := by
      rw [← hL]
      unfold zi
      rw [List.filter_map]
      congr 1
      apply List.filter_congr
      intro a _
      show (!decide ((m : Int) ≤ (a : Int))) = _
      congr 1
      exact decide_eq_decide.2 (by omega)
    have hN : (zi (stp n p)).toArray.size = (stp n p).length := by simp [zi]
    have hle : (stp (min m n) p).length ≤ (stp n p).length := by rw [← hL]; exact List.length_filter_le _ _
    have eg : ∀ args w, (callFunc 24 args).run Try.prog w = .ok (.enter 24 args) w := enters_of Try.func24 (by kernel_rfl) rfl
    have K := Try.slices_DeleteFunc (Value.int .i64) (fun _ => rfl) (fun x => decide ((m : Int) ≤ x)) 24 #[.pointer (some ⟨bx, 0, none⟩)] eg 0 Try.zeroValue3 g 0 cap (zi (stp n p)).toArray w
      (fun W x hB => gives_c m x bx W ((hB.cell (p := ⟨bx, 0, none⟩) hx.lt).trans hcx)) (over_c m bx g 0 _ w hx.lt hg hcx) hH (by rw [hN]; omega) (by rw [hN]; omega)
    rw [show (zi (stp n p)).toArray.toList = zi (stp n p) from rfl, hF, hN, zi_length] at K
    refine K.mono ?_
    rintro en w' ⟨rfl, q, rfl⟩
    rw [putRow_eq_setCells (Value.int .i64) w g 0 (zi (stp n p)).toArray _ q hH (by rw [List.length_append, List.length_replicate, zi_length, hN]; omega), List.map_append, ← ints_zi]
    have hb2 := Blk.setCells (ints .i64 (stp (min m n) p) ++ (List.replicate ((stp n p).length - (stp (min m n) p).length) 0).map (Value.int .i64)) 0 (w.drewN q) _ (hb.drewN q) (by
      rw [List.length_append, List.length_map, List.length_replicate, length_ints, List.length_append, length_ints]; omega)
    rw [List.take_zero, List.nil_append, Nat.zero_add, List.append_assoc] at hb2
    refine ⟨_, rfl, own_of_blk hbg hb2 (length_ints _ _) ?_ hm, only_setCells _ _ (only_drewN (World.grownBy.refl _ _) q), rfl⟩
    simp only [List.length_append, List.length_map, List.length_replicate, length_ints, List.length_drop]
    omega
/-! ### Insert -/
def insRen : Go.Shelf.Ren := ⟨fun | 21 => 23 | 27 => 29 | 28 => 30 | 35 => 33 | 39 => 34 | n => n, fun | 22 => 34 | 3 => 3 | 4 => 4 | 0 => 0 | n => n, fun | n => n⟩
theorem insLays : Go.Proofs.Lays2.n21 Try.prog insRen := {
  mixed := by kernel_rfl
  f21 := Try.func23.trans (congrArg some (by kernel_rfl))
  f27 := Try.func29.trans (congrArg some (by kernel_rfl))
  f28 := Try.func30.trans (congrArg some (by kernel_rfl))
  f35 := Try.func33.trans (congrArg some (by kernel_rfl))
  f39 := Try.func34.trans (congrArg some (by kernel_rfl))
  t0 := Try.underlying0
  a0 := Try.isAgg0
  z0 := Try.sizeOf0
  v0 := Try.zeroValue0
  t3 := Try.underlying3
  a3 := Try.isAgg3
  z3 := Try.sizeOf3
  v3 := Try.zeroValue3
  t4 := Try.underlying4
  a4 := Try.isAgg4
  z4 := Try.sizeOf4
  v4 := Try.zeroValue4
  t22 := Try.underlying34
  a22 := Try.isAgg34
  z22 := Try.sizeOf34
  v22 := Try.zeroValue34
  i3 := by kernel_rfl }
def InsPost (w : World) (base : Nat) (v : Value) (n : Nat) (p : Nat → Bool) (en : Ending) (w' : World) : Prop :=
  ∃ v', en = .returned v' ∧ OwnS w' base v' n p ∧ w.grownBy w' v.ownBlock ∧ (v'.ownBlock = v.ownBlock ∨ v'.ownBlock = some w.heap.size)
theorem zeroCells_len (z : Array Value) (n : Nat) (h : z.size = 1) : (Builtin.zeroCells z n).size = n := by
  simp [Builtin.zeroCells, h]
theorem below_only {w w' : World} {row : Option Nat} (h : Below w.heap.size w w') : w.grownBy w' row := only_of_below h row
theorem insert_c (v : Value) (base n c b : Nat) (p : Nat → Bool) (tb : TypeId) (w : World) (h : OwnS w base v n p) (hbase : base ≤ w.heap.size) (hn : n ≤ 132) (hc : c < n) (hp : p c = false) (hx : Blk w b tb [.int .i64 (c : Int)]) (hne : v.ownBlock ≠ some b) :
    Calls Try.prog 23 #[v, .int .i64 (((stp c p).length : Nat) : Int), .slice (some ⟨b, 0, none⟩) 1 1] w (InsPost w base v n (setP c p)) := by
  have hlen := stp_length n p
  have hi : (stp c p).length ≤ (stp n p).length := by rw [stp_split p (show c ≤ n by omega), List.length_append]; omega
  have hL := stp_set hc hp
  generalize hI : (stp c p).length = i at hi hL
  have hN : (stp n (setP c p)).length = (stp n p).length + 1 := by rw [hL, List.length_append, List.length_cons, List.length_take, List.length_drop]; omega
  have hvs : ∀ j u, [Value.int .i64 (c : Int)][j]? = some u → w.cell? ⟨b, 0 + j, none⟩ = some u := by
    intro j u hu
    rw [Nat.zero_add, hx.cell, hu]
  have h1v : ∀ u ∈ [Value.int .i64 (c : Int)], u.oneCell' = true := by
    intro u hu
    obtain rfl := List.mem_singleton.1 hu
    rfl
  have h1c : ∀ u ∈ ints .i64 (stp n p), u.oneCell' = true := ints_oneCell _ _
  have hE : ints .i64 (stp n (setP c p)) = (ints .i64 (stp n p)).take i ++ .int .i64 (c : Int) :: (ints .i64 (stp n p)).drop i := by
    rw [hL]; simp [ints]
  unfold InsPost OwnS
  rw [hN, hE]
  have hlt : (ints .i64 (stp n p)).length = (stp n p).length := length_ints _ _
  unfold OwnS at h
  generalize ints .i64 (stp n p) = cs at *
  generalize (stp n p).length = N at *
  rcases own_int h with ⟨rfl, rfl⟩ | ⟨g, cap, rest, rfl, hbg, hb, hcap, hm⟩
  · obtain rfl : i = 0 := by omega
    obtain rfl : cs = [] := List.eq_nil_of_length_eq_zero hlt
    refine (Any2.slices_Insert_int_end_grow insLays none 0 0 b 0 1 1 [] [.int .i64 (c : Int)] w (by omega) (by omega) (by omega) (by omega) rfl rfl (fun _ => rfl) (fun a e => by cases e) hvs h1v).mono ?_
    rintro en w' ⟨rfl, rfl⟩
    refine ⟨_, rfl, ?_, below_only ((belowDrewN (Below.refl _ w) 1).alloc (Nat.le_refl _) _), .inr rfl⟩
    have hz := zeroCells_len (Value.int .i64 0).cells (grownCap w (0 + 1) 0 3 - (0 + 1)) rfl
    have hge := grownCap_ge w (0 + 1) 0 3
    refine own_of_blk (cs := (Builtin.zeroCells (Value.int .i64 0).cells (grownCap w (0 + 1) 0 3 - (0 + 1))).toList) hbase ?_ rfl ?_ (grownCap_le_maxLen _ _ _ _ (by decide))
    · exact Blk.newA w.drew 3 _ _ (by simp [show insRen.t 3 = 3 from rfl])
    · show grownCap w (0 + 1) 0 3 = _
      rw [Array.length_toList, hz]
      omega
  · have hcs : ∀ j u, cs[j]? = some u → w.cell? ⟨g, 0 + j, none⟩ = some u := by
      intro j u hu
      have hj : j < cs.length := by
        rcases Nat.lt_or_ge j cs.length with h | h
        · exact h
        · rw [List.getElem?_eq_none h] at hu; cases hu
      rw [Nat.zero_add, hb.cell, List.getElem?_append_left hj, hu]
    have hm' := hm
    unfold maxLen at hm'
    have hgb : b ≠ g := fun e => hne (by rw [e]; rfl)
    by_cases hroom : N + 1 ≤ cap
    · have hsome : ∀ j, j < N + 1 → (w.cell? ⟨g, 0 + j, none⟩).isSome = true := by
        intro j hj
        rw [Nat.zero_add, hb.cell, List.getElem?_eq_getElem (by rw [List.length_append]; omega)]
        rfl
      by_cases hend : i = N
      · subst hend
        refine (Any2.slices_Insert_int_end_room insLays g 0 i cap b 0 1 1 [.int .i64 (c : Int)] w (by omega) hroom (by omega) rfl (fun j hj => by have := hsome (i + j) (by omega); rwa [← Nat.add_assoc] at this) (fun j _ => hb.frozen _) hvs h1v).mono ?_
        rintro en w' ⟨rfl, rfl⟩
        have hb2 := Blk.setCells [.int .i64 (c : Int)] (0 + i) w _ hb (by rw [List.length_append, List.length_singleton]; omega)
        refine ⟨_, rfl, ?_, only_setCells _ _ (World.grownBy.refl _ _), .inl rfl⟩
        rw [List.take_of_length_le (by omega), List.drop_eq_nil_of_le (by omega)]
        refine own_of_blk (cs := rest.drop 1) hbg ?_ (by rw [List.length_append, List.length_singleton, hlt]) (by rw [List.length_drop]; omega) hm
        rw [Nat.zero_add, ← hlt, List.take_left, List.length_singleton] at hb2
        rw [List.drop_append, List.drop_eq_nil_of_le (by omega), List.nil_append, Nat.add_sub_cancel_left] at hb2
        rw [Nat.zero_add, ← hlt]
        exact hb2
      · refine (Any2.slices_Insert_int_shift insLays g 0 N cap i b 0 1 1 cs [.int .i64 (c : Int)] w (by omega) (by omega) hroom (by omega) hgb hlt rfl hcs hsome (fun j _ => hb.frozen _) hvs h1c h1v tb 3 1 cap
          (by unfold World.shape?; rw [hx]; rfl) (by unfold World.shape?; rw [hb]; simp; omega) (by omega) (hx.frozen 0) (hx.frozen 1)).mono ?_
        rintro en w' ⟨rfl, rfl⟩
        have hb2 := Blk.setCells (cs.drop i) (0 + (i + 1)) w.drew _ hb.drew (by rw [List.length_append, List.length_drop]; omega)
        have hb3 := Blk.setCells [.int .i64 (c : Int)] (0 + i) _ _ hb2 (by simp; omega)
        refine ⟨_, rfl, ?_, only_setCells _ _ (only_setCells _ _ (only_drewN (World.grownBy.refl _ _) 1)), .inl rfl⟩
        refine own_of_blk (cs := rest.drop 1) hbg ?_ (by simp; omega) (by rw [List.length_drop]; omega) hm
        have e : List.take (0 + i) (List.take (0 + (i + 1)) (cs ++ rest) ++ List.drop i cs ++ List.drop (0 + (i + 1) + (List.drop i cs).length) (cs ++ rest)) ++ [Value.int .i64 (c : Int)] ++
            List.drop (0 + i + [Value.int .i64 (c : Int)].length) (List.take (0 + (i + 1)) (cs ++ rest) ++ List.drop i cs ++ List.drop (0 + (i + 1) + (List.drop i cs).length) (cs ++ rest)) =
            cs.take i ++ .int .i64 (c : Int) :: cs.drop i ++ rest.drop 1 := by
          have l1 : (List.take (i + 1) (cs ++ rest)).length = i + 1 := by rw [List.length_take, List.length_append]; omega
          rw [Nat.zero_add, Nat.zero_add, List.length_singleton, List.length_drop, show i + 1 + (cs.length - i) = cs.length + 1 by omega]
          rw [List.append_assoc (List.take (i + 1) (cs ++ rest)), List.take_append_of_le_length (by omega), List.take_take, Nat.min_eq_left (by omega), List.take_append_of_le_length (by omega)]
          rw [List.drop_append, l1, Nat.sub_self, List.drop_zero, List.drop_eq_nil_of_le (by omega), List.nil_append]
          rw [List.drop_append, List.drop_eq_nil_of_le (show cs.length ≤ cs.length + 1 by omega), List.nil_append, Nat.add_sub_cancel_left]
          simp
        rw [e] at hb3
        exact hb3
    · by_cases hend : i = N
      · subst hend
        refine (Any2.slices_Insert_int_end_grow insLays (some ⟨g, 0, none⟩) i cap b 0 1 1 cs [.int .i64 (c : Int)] w (by omega) (by omega) (by omega) (by omega) hlt rfl (fun e => by cases e) (fun a e j u hu => by cases e; rw [add_head]; have := hcs j u hu; rwa [Nat.zero_add] at this) hvs h1v).mono ?_
        rintro en w' ⟨rfl, rfl⟩
        refine ⟨_, rfl, ?_, below_only ((belowDrewN (Below.refl _ w) 1).alloc (Nat.le_refl _) _), .inr rfl⟩
        have hz := zeroCells_len (Value.int .i64 0).cells (grownCap w (i + 1) cap 3 - (i + 1)) rfl
        have hge := grownCap_ge w (i + 1) cap 3
        rw [List.take_of_length_le (by omega), List.drop_eq_nil_of_le (by omega)]
        refine own_of_blk (cs := (Builtin.zeroCells (Value.int .i64 0).cells (grownCap w (i + 1) cap 3 - (i + 1))).toList) hbase ?_ (by rw [List.length_append, List.length_singleton, hlt]) ?_ (grownCap_le_maxLen _ _ _ _ (by unfold maxLen; omega))
        · exact Blk.newA w.drew 3 _ _ (by simp [show insRen.t 3 = 3 from rfl])
        · show grownCap w (i + 1) cap 3 = _
          rw [Array.length_toList, hz]
          omega
      · refine (Any2.slices_Insert_int_grow insLays g 0 N cap i b 0 1 1 cs [.int .i64 (c : Int)] w (by omega) (by omega) (by omega) (by omega) (by omega) hlt rfl hcs hvs h1c h1v).mono ?_
        rintro en w' ⟨rfl, rfl⟩
        have hz := zeroCells_len (Value.int .i64 0).cells (grownCap w (N + 1) cap 3 - (N + 1)) rfl
        have hz2 := zeroCells_len (Value.int .i64 0).cells (N + 1 - i) rfl
        have hge := grownCap_ge w (N + 1) cap 3
        have hge2 := grownCap_le_maxLen w (N + 1) cap 3 (by unfold maxLen; omega)
        show ∃ v', Ending.returned (.slice (some ⟨w.heap.size, 0, none⟩) (N + 1) (grownCap w (N + 1) cap 3)) = .returned v' ∧ _
        change ∃ v', _ ∧ World.ownsRow ((((w.alloc (.cells ((cs.take i).toArray ++ Builtin.zeroCells (Value.int .i64 0).cells (N + 1 - i) ++ Builtin.zeroCells (Value.int .i64 0).cells (grownCap w (N + 1) cap 3 - (N + 1))) 3)).drew.setCells w.heap.size i [.int .i64 (c : Int)]).drew).setCells w.heap.size (i + 1) (cs.drop i)) _ _ _ _ _ _ ∧ _
        generalize grownCap w (N + 1) cap 3 = G at *
        generalize hZ : Builtin.zeroCells (Value.int .i64 0).cells (N + 1 - i) = Z at *
        generalize hY : Builtin.zeroCells (Value.int .i64 0).cells (G - (N + 1)) = Y at *
        have hb1 := (Blk.newA w 3 ((cs.take i).toArray ++ Z ++ Y) (cs.take i ++ Z.toList ++ Y.toList) (by simp)).drew
        have hb2 := (Blk.setCells [.int .i64 (c : Int)] i _ _ hb1 (by simp; omega)).drew
        have hb3 := Blk.setCells (cs.drop i) (i + 1) _ _ hb2 (by simp; omega)
        refine ⟨_, rfl, ?_, ?_, .inr rfl⟩
        · refine own_of_blk (cs := Y.toList) hbase ?_ (by simp; omega) (by rw [Array.length_toList, hz]; omega) hge2
          have e : List.take (i + 1) (List.take i (cs.take i ++ Z.toList ++ Y.toList) ++ [Value.int .i64 (c : Int)] ++ List.drop (i + [Value.int .i64 (c : Int)].length) (cs.take i ++ Z.toList ++ Y.toList)) ++ List.drop i cs ++
              List.drop (i + 1 + (List.drop i cs).length) (List.take i (cs.take i ++ Z.toList ++ Y.toList) ++ [Value.int .i64 (c : Int)] ++ List.drop (i + [Value.int .i64 (c : Int)].length) (cs.take i ++ Z.toList ++ Y.toList)) =
              cs.take i ++ .int .i64 (c : Int) :: cs.drop i ++ Y.toList := by
            have l0 : (cs.take i).length = i := by rw [List.length_take]; omega
            have l1 : (List.take i (cs.take i ++ Z.toList ++ Y.toList)) = cs.take i := by rw [List.append_assoc, List.take_append_of_le_length (by omega), List.take_of_length_le (by omega)]
            have l2 : (cs.take i ++ [Value.int .i64 (c : Int)]).length = i + 1 := by rw [List.length_append, l0, List.length_singleton]
            have l3 : (cs.take i ++ Z.toList).length = N + 1 := by rw [List.length_append, l0, Array.length_toList, hz2]; omega
            rw [l1]
            generalize cs.take i = T at l0 l2 l3 ⊢
            have hA : List.take (i + 1) (T ++ [Value.int .i64 (c : Int)] ++ List.drop (i + [Value.int .i64 (c : Int)].length) (T ++ Z.toList ++ Y.toList)) = T ++ [Value.int .i64 (c : Int)] := by
              rw [List.take_append_of_le_length (by omega), List.take_of_length_le (by omega)]
            have hB : List.drop (i + 1 + (List.drop i cs).length) (T ++ [Value.int .i64 (c : Int)] ++ List.drop (i + [Value.int .i64 (c : Int)].length) (T ++ Z.toList ++ Y.toList)) = Y.toList := by
              rw [List.drop_append (l₁ := T ++ [Value.int .i64 (c : Int)]), l2, List.drop_eq_nil_of_le (by omega), List.nil_append, List.drop_drop, List.length_singleton, List.length_drop, show i + 1 + (i + 1 + (cs.length - i) - (i + 1)) = N + 1 by omega,
                List.drop_append (l₁ := T ++ Z.toList), l3, Nat.sub_self, List.drop_zero, List.drop_eq_nil_of_le (by omega), List.nil_append]
            rw [hA, hB]
            simp
          rw [e] at hb3
          exact hb3
        · refine below_only ?_
          refine below_setCells (Nat.le_refl _) _ _ _ (belowDrewN (below_setCells (Nat.le_refl _) _ _ _ (belowDrewN ((Below.refl _ w).alloc (Nat.le_refl _) _) 1)) 1)
end Go.Proofs.Ytdjpeopjfhoglaa
