/- What the reference of package tabs returns (New, Next, Back, Resize on rows of bools), as walks through the translated text. Conditions: a row of at most 132 columns. -/
import Derived.Test.YtdjpeopjfhoglaaTabs4
namespace Go.Proofs.Ytdjpeopjfhoglaa
open Go.ChangeShapes Go.WideShapes Go.RowKit
/-! ### Rows of bools -/
def bools (n : Nat) (p : Nat → Bool) : List Value := (List.range n).map fun i => Value.bool (p i)
theorem length_bools (n : Nat) (p : Nat → Bool) : (bools n p).length = n := by simp [bools]
theorem bools_at {n i : Nat} (p : Nat → Bool) (h : i < n) : (bools n p)[i]? = some (.bool (p i)) := by simp [bools, h]
theorem bools_succ (n : Nat) (p : Nat → Bool) : bools (n + 1) p = bools n p ++ [.bool (p n)] := by simp [bools, List.range_succ]
theorem bools_congr {n : Nat} {p q : Nat → Bool} (h : ∀ i, i < n → p i = q i) : bools n p = bools n q := List.map_congr_left fun i hi => by rw [h i (List.mem_range.1 hi)]
theorem bools_one (n : Nat) (p : Nat → Bool) : ∀ u ∈ bools n p, u.oneCell' = true := by
  intro u hu
  obtain ⟨x, _, rfl⟩ := List.mem_map.1 hu
  rfl
/-- The slice '.slice A n c' reads, place by place, as p says. -/
structure ReadsB (w : World) (A : Option Addr) (n c : Nat) (p : Nat → Bool) : Prop where
  room : n ≤ c
  cap : c ≤ maxLen
  cell : ∀ i, i < n → ∃ ad, A = some ad ∧ ad.block < w.heap.size ∧ w.cell? (ad.add i) = some (.bool (p i))
theorem ReadsB.keep {w w' : World} {A : Option Addr} {n c : Nat} {p : Nat → Bool} (h : ReadsB w A n c p) (hb : Below w.heap.size w w') : ReadsB w' A n c p :=
  ⟨h.room, h.cap, fun i hi => by
    obtain ⟨ad, e, hlt, hc⟩ := h.cell i hi
    exact ⟨ad, e, Nat.lt_of_lt_of_le hlt hb.size, (hb.cell (by rw [block_add]; exact hlt)).trans hc⟩⟩
theorem ReadsB.of_heap {w w' : World} {A : Option Addr} {n c : Nat} {p : Nat → Bool} (h : ReadsB w A n c p) (e : w'.heap = w.heap) : ReadsB w' A n c p :=
  ⟨h.room, h.cap, fun i hi => by
    obtain ⟨ad, e1, hlt, hc⟩ := h.cell i hi
    exact ⟨ad, e1, by rw [e]; exact hlt, by rw [← hc]; exact World.cell?_of_block (by rw [e])⟩⟩
theorem ReadsB.chg {F : Nat → Prop} {w w' : World} {A : Option Addr} {n c : Nat} {p : Nat → Bool} (h : ReadsB w A n c p) (k : Chg F w w') (hn : ∀ ad, A = some ad → ¬ F ad.block) : ReadsB w' A n c p :=
  ⟨h.room, h.cap, fun i hi => by
    obtain ⟨ad, e, hlt, hc⟩ := h.cell i hi
    refine ⟨ad, e, Nat.lt_of_lt_of_le hlt k.size, ?_⟩
    rw [← hc]
    exact World.cell?_of_block (k.block _ (by rw [block_add]; exact hlt) (by rw [block_add]; exact hn ad e))⟩
theorem ReadsB.congr {w : World} {A : Option Addr} {n c : Nat} {p q : Nat → Bool} (h : ReadsB w A n c p) (e : ∀ i, i < n → p i = q i) : ReadsB w A n c q :=
  ⟨h.room, h.cap, fun i hi => by rw [← e i hi]; exact h.cell i hi⟩
theorem own_readsB {w : World} {base n c : Nat} {e : TypeId} {A : Option Addr} {p : Nat → Bool} (h : w.ownsRow base e 1 (.slice A n c) n (bools n p)) : ReadsB w A n c p := by
  rcases own_int h with ⟨e0, rfl⟩ | ⟨g, cap, cs, e1, _, hb, hc, hm⟩
  · cases e0
    exact ⟨Nat.le_refl _, Nat.zero_le _, fun i hi => absurd hi (Nat.not_lt_zero _)⟩
  · cases e1
    refine ⟨by omega, hm, fun i hi => ⟨⟨g, 0, none⟩, rfl, hb.lt, ?_⟩⟩
    rw [add_head, hb.cell, List.getElem?_append_left (by rw [length_bools]; exact hi), bools_at p hi]
/-- append of one value onto a row of the call's own. -/
theorem wpList_appV {P : Program} {w : World} {ops : Array Oper} {rest : List Oper} {o : Oper} {a : Act} {Q : Exit → Act → World → Prop} (hgd : o.guard = none) (s x : Operand) (t : TypeId)
    (ho : o.op = .call { callee := .builtin .append, args := #[s, x], argTypes := #[t, t] })
    (base : Nat) (e : TypeId) (i : TypeInfo) (z : Value) (bytes : Nat) (ht : P.underlying t = some (.slice e)) (hi : P.info? e = some i) (hz : i.zero = some z)
    (hsize : i.size = 1) (hby : i.bytes = bytes) (hzs : z.cells.size = 1)
    (v : Value) (n : Nat) (xs : List Value) (hs : a.eval s = v) (hown : w.ownsRow base e 1 v n xs)
    (u : Value) (h1 : u.oneCell' = true) (g : Nat) (tb : TypeId) (hx : a.eval x = .slice (some ⟨g, 0, none⟩) 1 1) (hb : Blk w g tb [u])
    (h63 : n + 1 ≤ maxLen) (hbytes : (n + 1) * bytes ≤ 140737488355328) (hbase : base ≤ w.heap.size)
    (h : ∀ A c w', w'.ownsRow base e 1 (.slice A (n + 1) c) (n + 1) (xs ++ [u]) → w.grownBy w' v.ownBlock → wpList P ops Q rest (a.put o.dst (.slice A (n + 1) c)) w') :
    wpList P ops Q (o :: rest) a w := by
  refine wpList_append_own_at w hgd s x t ho base e i z 1 bytes ht hi hz hsize hby hzs (by decide) v n xs hs hown ⟨g, 0, none⟩ 1 1 [u] hx rfl hb.all (fun y hy => by obtain rfl := List.mem_singleton.1 hy; exact h1) h63 hbytes hbase ?_
  intro v' w' h2 h3 _ h5
  obtain ⟨A, c, rfl⟩ := own_form h2
  exact h A c w' h2 h3
theorem infoB : (Try.prog.info? 4).map (fun i => (i.zero, i.size, i.bytes)) = some (some (.bool false), 1, 1) := by kernel_rfl
theorem rem8 (j : Nat) : (j : Int).tmod 8 = ((j % 8 : Nat) : Int) := by rw [Int.tmod_eq_emod_of_nonneg (by omega)]; omega
/-! ### New -/
set_option maxRecDepth 100000 in
set_option maxHeartbeats 1600000 in
theorem refNew_c (n : Nat) (w : World) (hn : n ≤ 132) : Calls Try.prog 8 #[.int .i64 (n : Int)] w (RowPost w 4 n (bools n newP)) := by
  obtain ⟨i0, hi, hz0, hz1, hz2⟩ := info_parts infoB
  go_enter Try.func8, Try.ntmps8
  go_wp2
  go_loopw [3, 4] (fun v i wr => ∃ j : Nat, j ≤ n ∧ i = .int .i64 j ∧ Hid (Mine w wr 4 v j (bools j newP))) (fun _ i _ => n - (intOf i).toNat)
  case atStart => exact ⟨0, Nat.zero_le _, rfl, Lib.hid ⟨World.ownsRow_nil _ _ _ _, Below.refl _ _⟩⟩
  case round =>
    obtain ⟨j, hj, rfl, HM⟩ := hrel
    obtain ⟨V, c, rfl⟩ := own_form HM.out.1
    by_cases hlt : j < n
    · have hlt2 : (j : Int) < (n : Int) := by omega
      have HSZ := Lib.hid HM.out.2.size
      obtain ⟨r, hr⟩ : ∃ r : Nat, j % 8 = r := ⟨_, rfl⟩
      have hrem := rem8 j
      rw [hr] at hrem
      have fin : ∀ b : Bool, b = newP j → ∀ A' c' w', w'.ownsRow w.heap.size 4 1 (.slice A' (j + 1) c') (j + 1) (bools j newP ++ [.bool b]) → (wr.alloc (.cells #[.bool b] 4)).grownBy w' (Value.slice V j c).ownBlock → Hid (Mine w w' 4 (.slice A' (j + 1) c') (j + 1) (bools (j + 1) newP)) := by
        intro b hb A' c' w' h1 h2
        rw [bools_succ, ← hb]
        exact mine_grown HM.out _ h1 h2
      have HFin := Lib.hid fin
      clear fin
      by_cases h0 : j = 0
      · have hd : decide ((0 : Int) < (j : Int)) = false := by simp; omega
        have hdN : decide (0 < j) = false := by simp; omega
        have hnew : Hid (false = newP j) := by show false = newP j; symm; unfold newP; rw [decide_eq_false_iff_not]; omega
        have H0 := Lib.hid h0
        clear h0 hr
        go_wp2_with (at_builtin; refine wpList_appV rfl (.tmp 10) (.tmp 18) 28 rfl w.heap.size 4 i0 (.bool false) 1 Try.underlying28 hi hz0 hz1 hz2 rfl _ j _ rfl (mine_below HM.out (belAlloc _ _)).1 (.bool false) rfl wr.heap.size 4 rfl (Blk.new wr _ [.bool false]) (by unfold maxLen; omega) (by omega) (Nat.le_trans HSZ.out (belAlloc _ _).size) ?_; intro A' c' w' h1 h2; have HM' := HFin.out false hnew.out A' c' w' h1 h2; clear h1 h2)
        go_roundw
        case rel => exact ⟨j + 1, by omega, by go_num, HM'⟩
        case measure => simp [intOf]; omega
      · have hd : decide ((0 : Int) < (j : Int)) = true := by simp; omega
        have hdN : decide (0 < j) = true := by simp; omega
        by_cases hr0 : r = 0
        · subst hr0
          have hnew : Hid (true = newP j) := by show true = newP j; symm; unfold newP; rw [decide_eq_true_eq]; omega
          clear hr h0
          go_wp2_with (at_builtin; refine wpList_appV rfl (.tmp 10) (.tmp 18) 28 rfl w.heap.size 4 i0 (.bool false) 1 Try.underlying28 hi hz0 hz1 hz2 rfl _ j _ rfl (mine_below HM.out (belAlloc _ _)).1 (.bool true) rfl wr.heap.size 4 rfl (Blk.new wr _ [.bool true]) (by unfold maxLen; omega) (by omega) (Nat.le_trans HSZ.out (belAlloc _ _).size) ?_; intro A' c' w' h1 h2; have HM' := HFin.out true hnew.out A' c' w' h1 h2; clear h1 h2)
          go_roundw
          case rel => exact ⟨j + 1, by omega, by go_num, HM'⟩
          case measure => simp [intOf]; omega
        · have hr1 : ((r : Int) == 0) = false := by simpa using hr0
          have hnew : Hid (false = newP j) := by show false = newP j; symm; unfold newP; rw [decide_eq_false_iff_not]; omega
          clear hr h0
          go_wp2_with (at_builtin; refine wpList_appV rfl (.tmp 10) (.tmp 18) 28 rfl w.heap.size 4 i0 (.bool false) 1 Try.underlying28 hi hz0 hz1 hz2 rfl _ j _ rfl (mine_below HM.out (belAlloc _ _)).1 (.bool false) rfl wr.heap.size 4 rfl (Blk.new wr _ [.bool false]) (by unfold maxLen; omega) (by omega) (Nat.le_trans HSZ.out (belAlloc _ _).size) ?_; intro A' c' w' h1 h2; have HM' := HFin.out false hnew.out A' c' w' h1 h2; clear h1 h2)
          go_roundw
          case rel => exact ⟨j + 1, by omega, by go_num, HM'⟩
          case measure => simp [intOf]; omega
    · obtain rfl : j = n := by omega
      go_wp2
      go_ret
      exact ⟨_, rfl, HM.out⟩
/-! ### Resize -/
set_option maxRecDepth 100000 in
set_option maxHeartbeats 1600000 in
theorem refResize_c (A : Option Addr) (n0 k : Nat) (p : Nat → Bool) (n : Nat) (w : World) (h : ReadsB w A n0 k p) (hn0 : n0 ≤ 132) (hn : n ≤ 132) :
    Calls Try.prog 19 #[.slice A n0 k, .int .i64 (n : Int)] w (RowPost w 4 n (bools n (sizeP n0 p))) := by
  obtain ⟨i0, hi, hz0, hz1, hz2⟩ := info_parts infoB
  have H := Lib.hid h
  clear h
  go_enter Try.func19, Try.ntmps19
  go_wp2
  go_loopw [5, 6] (fun v i wr => ∃ j : Nat, j ≤ n ∧ i = .int .i64 j ∧ Hid (Mine w wr 4 v j (bools j (sizeP n0 p)))) (fun _ i _ => n - (intOf i).toNat)
  case atStart => exact ⟨0, Nat.zero_le _, rfl, Lib.hid ⟨World.ownsRow_nil _ _ _ _, Below.refl _ _⟩⟩
  case round =>
    obtain ⟨j, hj, rfl, HM⟩ := hrel
    obtain ⟨V, c, rfl⟩ := own_form HM.out.1
    by_cases hlt : j < n
    · have hlt2 : (j : Int) < (n : Int) := by omega
      have HSZ := Lib.hid HM.out.2.size
      have fin : ∀ b : Bool, b = sizeP n0 p j → ∀ A' c' w', w'.ownsRow w.heap.size 4 1 (.slice A' (j + 1) c') (j + 1) (bools j (sizeP n0 p) ++ [.bool b]) → (wr.alloc (.cells #[.bool b] 4)).grownBy w' (Value.slice V j c).ownBlock → Hid (Mine w w' 4 (.slice A' (j + 1) c') (j + 1) (bools (j + 1) (sizeP n0 p))) := by
        intro b hb A' c' w' h1 h2
        rw [bools_succ, ← hb]
        exact mine_grown HM.out _ h1 h2
      have HFin := Lib.hid fin
      clear fin
      by_cases hold : j < n0
      · have hold2 : (j : Int) < (n0 : Int) := by omega
        have hj0 : (0 : Int) ≤ (j : Int) := by omega
        obtain ⟨ad, rfl, _, hcell⟩ := (H.out.keep HM.out.2).cell j hold
        obtain ⟨b, hb⟩ : ∃ b, Hid (p j = b) := ⟨_, rfl⟩
        rw [hb.out] at hcell
        have hnew : Hid (b = sizeP n0 p j) := by show b = _; unfold sizeP; rw [if_pos hold]; exact hb.out.symm
        go_wp2_with (at_builtin; refine wpList_appV rfl (.tmp 16) (.tmp 21) 28 rfl w.heap.size 4 i0 (.bool false) 1 Try.underlying28 hi hz0 hz1 hz2 rfl _ j _ rfl (mine_below HM.out (belAlloc _ _)).1 (.bool b) rfl wr.heap.size 4 rfl (Blk.new wr _ [.bool b]) (by unfold maxLen; omega) (by omega) (Nat.le_trans HSZ.out (belAlloc _ _).size) ?_; intro A' c' w' h1 h2; have HM' := HFin.out b hnew.out A' c' w' h1 h2; clear h1 h2)
        go_roundw
        case rel => exact ⟨j + 1, by omega, by go_num, HM'⟩
        case measure => simp [intOf]; omega
      · have hold2 : ¬ (j : Int) < (n0 : Int) := by omega
        obtain ⟨r, hr⟩ : ∃ r : Nat, j % 8 = r := ⟨_, rfl⟩
        have hrem := rem8 j
        rw [hr] at hrem
        have hs : Hid (sizeP n0 p j = decide (0 < j ∧ r = 0)) := by show _ = _; unfold sizeP; rw [if_neg hold, hr]
        have HR := Lib.hid hr
        clear hr
        by_cases h0 : j = 0
        · have hd : decide ((0 : Int) < (j : Int)) = false := by simp; omega
          have hdN : decide (0 < j) = false := by simp; omega
          have hnew : Hid (false = sizeP n0 p j) := by show false = _; rw [hs.out]; symm; rw [decide_eq_false_iff_not]; omega
          have H0 := Lib.hid h0
          clear h0
          go_wp2_with (at_builtin; refine wpList_appV rfl (.tmp 23) (.tmp 31) 28 rfl w.heap.size 4 i0 (.bool false) 1 Try.underlying28 hi hz0 hz1 hz2 rfl _ j _ rfl (mine_below HM.out (belAlloc _ _)).1 (.bool false) rfl wr.heap.size 4 rfl (Blk.new wr _ [.bool false]) (by unfold maxLen; omega) (by omega) (Nat.le_trans HSZ.out (belAlloc _ _).size) ?_; intro A' c' w' h1 h2; have HM' := HFin.out false hnew.out A' c' w' h1 h2; clear h1 h2)
          go_roundw
          case rel => exact ⟨j + 1, by omega, by go_num, HM'⟩
          case measure => simp [intOf]; omega
        · have hd : decide ((0 : Int) < (j : Int)) = true := by simp; omega
          have hdN : decide (0 < j) = true := by simp; omega
          by_cases hr0 : r = 0
          · subst hr0
            have hnew : Hid (true = sizeP n0 p j) := by show true = _; rw [hs.out]; symm; rw [decide_eq_true_eq]; omega
            clear h0
            go_wp2_with (at_builtin; refine wpList_appV rfl (.tmp 23) (.tmp 31) 28 rfl w.heap.size 4 i0 (.bool false) 1 Try.underlying28 hi hz0 hz1 hz2 rfl _ j _ rfl (mine_below HM.out (belAlloc _ _)).1 (.bool true) rfl wr.heap.size 4 rfl (Blk.new wr _ [.bool true]) (by unfold maxLen; omega) (by omega) (Nat.le_trans HSZ.out (belAlloc _ _).size) ?_; intro A' c' w' h1 h2; have HM' := HFin.out true hnew.out A' c' w' h1 h2; clear h1 h2)
            go_roundw
            case rel => exact ⟨j + 1, by omega, by go_num, HM'⟩
            case measure => simp [intOf]; omega
          · have hr1 : ((r : Int) == 0) = false := by simpa using hr0
            have hnew : Hid (false = sizeP n0 p j) := by show false = _; rw [hs.out]; symm; rw [decide_eq_false_iff_not]; omega
            clear h0
            go_wp2_with (at_builtin; refine wpList_appV rfl (.tmp 23) (.tmp 31) 28 rfl w.heap.size 4 i0 (.bool false) 1 Try.underlying28 hi hz0 hz1 hz2 rfl _ j _ rfl (mine_below HM.out (belAlloc _ _)).1 (.bool false) rfl wr.heap.size 4 rfl (Blk.new wr _ [.bool false]) (by unfold maxLen; omega) (by omega) (Nat.le_trans HSZ.out (belAlloc _ _).size) ?_; intro A' c' w' h1 h2; have HM' := HFin.out false hnew.out A' c' w' h1 h2; clear h1 h2)
            go_roundw
            case rel => exact ⟨j + 1, by omega, by go_num, HM'⟩
            case measure => simp [intOf]; omega
    · obtain rfl : j = n := by omega
      go_wp2
      go_ret
      exact ⟨_, rfl, HM.out⟩
/-! ### Next -/
theorem stpR_split {a b c : Nat} (p : Nat → Bool) (h : a ≤ b) (h2 : b ≤ c) : stpR a c p = stpR a b p ++ stpR b c p := by
  have h1 := stp_split p (show a ≤ c by omega)
  rw [stp_split p h2, stp_split p h, List.append_assoc] at h1
  exact (List.append_cancel_left h1).symm
theorem stpR_miss {a j : Nat} {p : Nat → Bool} (h : stpR a j p = []) (ha : a ≤ j) (hp : p j = false) : stpR a (j + 1) p = [] := by
  rw [stpR_split p ha (Nat.le_succ j), h, stpR_cons p (Nat.lt_succ_self j), if_neg (by rw [hp]; decide), stpR_nil p (Nat.le_refl _)]
  rfl
theorem nx_hit {n c j : Nat} {p : Nat → Bool} (h : stpR (c + 1) j p = []) (hc : c + 1 ≤ j) (hj : j < n) (hp : p j = true) : nxP n p c = j := by
  unfold nxP
  rw [stpR_split p hc (Nat.le_of_lt hj), h, stpR_cons p hj, if_pos hp]
  rfl
theorem nx_end {n c : Nat} {p : Nat → Bool} (h : stpR (c + 1) n p = []) : nxP n p c = n - 1 := by
  unfold nxP
  rw [h]
  rfl
set_option maxHeartbeats 1600000 in
theorem refNext_c (A : Option Addr) (n k : Nat) (p : Nat → Bool) (c : Nat) (w : World) (h : ReadsB w A n k p) (hn : n ≤ 132) (hc : c < n) :
    Calls Try.prog 11 #[.slice A n k, .int .i64 (c : Int)] w fun en w' => en = .returned (.int .i64 ((nxP n p c : Nat) : Int)) ∧ w = w' := by
  have H := Lib.hid h
  obtain ⟨X, HX⟩ : ∃ X, Hid (nxP n p c = X) := ⟨_, rfl⟩
  rw [HX.out]
  clear h
  go_enter Try.func11, Try.ntmps11
  go_wp2
  go_loopw [5] (fun i wr => ∃ j : Nat, i = .int .i64 (j : Int) ∧ Hid (c + 1 ≤ j ∧ j ≤ n ∧ stpR (c + 1) j p = []) ∧ w = wr) (fun i _ => n - (intOf i).toNat)
  case atStart => exact ⟨c + 1, by go_num, Lib.hid ⟨Nat.le_refl _, hc, stpR_nil p (Nat.le_refl _)⟩, by trivial⟩
  case round =>
    obtain ⟨j, rfl, HJ, rfl⟩ := hrel
    by_cases hlt : j < n
    · have hlt2 : (j : Int) < (n : Int) := by omega
      have hj0 : (0 : Int) ≤ (j : Int) := by omega
      obtain ⟨ad, rfl, _, hcell⟩ := H.out.cell j hlt
      cases hp : p j with
      | true =>
        rw [hp] at hcell
        have HP := Lib.hid hp
        clear hp
        go_wp2
        go_ret
        refine ⟨?_, rfl⟩
        rw [← HX.out, nx_hit HJ.out.2.2 HJ.out.1 hlt HP.out]
        rfl
      | false =>
        rw [hp] at hcell
        have HP := Lib.hid hp
        clear hp
        go_wp2
        go_roundw
        case rel => exact ⟨j + 1, by go_num, Lib.hid ⟨by have := HJ.out.1; omega, hlt, stpR_miss HJ.out.2.2 HJ.out.1 HP.out⟩, by trivial⟩
        case measure => simp [intOf]; omega
    · have hjn : j = n := by have := HJ.out.2.1; omega
      have hlt2 : ¬ (j : Int) < (n : Int) := by omega
      have e : Hid (X = n - 1) := by
        show X = n - 1
        rw [← HX.out]
        exact nx_end (by rw [← hjn]; exact HJ.out.2.2)
      clear hjn
      go_wp2
      go_ret
      refine ⟨?_, rfl⟩
      rw [e.out, show ((n - 1 : Nat) : Int) = (n : Int) - 1 by omega]
      rfl
/-! ### Back -/
theorem bk_hit {c j : Nat} {p : Nat → Bool} (h : stpR (j + 1) c p = []) (hj : j < c) (hp : p j = true) : bkP p c = j := by
  unfold bkP
  rw [stp_split p (Nat.le_of_lt hj), stpR_cons p hj, if_pos hp, h, List.getLastD_concat]
theorem bk_end {c j : Nat} {p : Nat → Bool} (h : stpR j c p = []) (hj : j ≤ c) (h1 : j ≤ 1) : bkP p c = 0 := by
  unfold bkP
  rw [stp_split p hj, h, List.append_nil]
  rcases Nat.lt_or_ge 0 j with h0 | h0
  · obtain rfl : j = 1 := by omega
    rw [show (1 : Nat) = 0 + 1 from rfl, stp_succ, stp_zero]
    split <;> rfl
  · obtain rfl : j = 0 := by omega
    rfl
theorem stpR_miss' {c j : Nat} {p : Nat → Bool} (h : stpR (j + 1) c p = []) (hj : j < c) (hp : p j = false) : stpR j c p = [] := by
  rw [stpR_cons p hj, if_neg (by rw [hp]; decide), h]
set_option maxHeartbeats 1600000 in
theorem refBack_c (A : Option Addr) (n k : Nat) (p : Nat → Bool) (c : Nat) (w : World) (h : ReadsB w A n k p) (hn : n ≤ 132) (hc : c < n) :
    Calls Try.prog 12 #[.slice A n k, .int .i64 (c : Int)] w fun en w' => en = .returned (.int .i64 ((bkP p c : Nat) : Int)) ∧ w = w' := by
  have H := Lib.hid h
  obtain ⟨X, HX⟩ : ∃ X, Hid (bkP p c = X) := ⟨_, rfl⟩
  rw [HX.out]
  clear h
  go_enter Try.func12, Try.ntmps12
  go_wp2
  go_loopw [5] (fun i wr => ∃ (i' : Int) (j : Nat), i = .int .i64 i' ∧ i' = (j : Int) - 1 ∧ Hid (j ≤ c ∧ stpR j c p = []) ∧ w = wr) (fun i _ => (intOf i + 1).toNat)
  case atStart => exact ⟨(c : Int) - 1, c, by go_num, rfl, Lib.hid ⟨Nat.le_refl _, stpR_nil p (Nat.le_refl _)⟩, by trivial⟩
  case round =>
    obtain ⟨i', j, rfl, hi', HJ, rfl⟩ := hrel
    by_cases hlt : 0 < i'
    · obtain ⟨m, rfl⟩ : ∃ m : Nat, i' = m := ⟨i'.toNat, by omega⟩
      obtain rfl : j = m + 1 := by omega
      have hmc : m < c := by have := HJ.out.1; omega
      have hmn : (m : Int) < (n : Int) := by omega
      have hj0 : (0 : Int) ≤ (m : Int) := by omega
      obtain ⟨ad, rfl, _, hcell⟩ := H.out.cell m (by omega)
      clear hi'
      cases hp : p m with
      | true =>
        rw [hp] at hcell
        have HP := Lib.hid hp
        clear hp
        go_wp2
        go_ret
        refine ⟨?_, rfl⟩
        rw [← HX.out, bk_hit HJ.out.2 hmc HP.out]
        rfl
      | false =>
        rw [hp] at hcell
        have HP := Lib.hid hp
        clear hp
        go_wp2
        go_roundw
        case rel => exact ⟨(m : Int) - 1, m, by go_num, rfl, Lib.hid ⟨Nat.le_of_lt hmc, stpR_miss' HJ.out.2 hmc HP.out⟩, by trivial⟩
        case measure => simp [intOf]
    · have e : Hid (X = 0) := by
        show X = 0
        rw [← HX.out]
        exact bk_end HJ.out.2 HJ.out.1 (by omega)
      clear hi'
      go_wp2
      go_ret
      refine ⟨?_, rfl⟩
      rw [e.out]
      rfl
end Go.Proofs.Ytdjpeopjfhoglaa
