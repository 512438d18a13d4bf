/- What Of of package label and of the reference batonref04 return, for every name and numbers, as a walk through the translated text. Conditions: the numbers read as a list; at most 2^40 bytes and numbers. -/
import Derived.Test.YtjacfihpjolddaaDoorLabel2
import Derived.Lib.AppendStr
import Derived.ChangeKeysEq
namespace Go.Proofs.YtjacfihpjolddaaDoor
open Go.ChangeShapes Go.WideShapes Go.RowKit
/-- The slice value '.slice A n c' reads as the integers l, signs let in. -/
structure ReadsZ (k : IntKind) (w : World) (A : Option Addr) (n c : Nat) (l : List Int) : Prop where
  len : l.length = n
  room : n ≤ c
  cap : c ≤ maxLen
  wf : ∀ x ∈ l, (Lit.int k x).wf = true
  cell : ∀ i, (h : i < l.length) → ∃ ad, A = some ad ∧ ad.block < w.heap.size ∧ w.cell? (ad.add i) = some (.int k l[i])
section
variable {k : IntKind} {w w' : World} {A : Option Addr} {n c : Nat} {l : List Int}
theorem ReadsZ.keep (h : ReadsZ k w A n c l) (hb : Below w.heap.size w w') : ReadsZ k w' A n c l :=
  ⟨h.len, h.room, h.cap, h.wf, fun i hi => by
    obtain ⟨ad, e, hlt, hc⟩ := h.cell i hi
    exact ⟨ad, e, Nat.lt_of_lt_of_le hlt hb.size, (hb.cell (by rw [block_add]; exact hlt)).trans hc⟩⟩
theorem ReadsZ.of_heap (h : ReadsZ k w A n c l) (e : w'.heap = w.heap) : ReadsZ k w' A n c l :=
  ⟨h.len, h.room, h.cap, h.wf, fun i hi => by
    obtain ⟨ad, ea, hlt, hc⟩ := h.cell i hi
    exact ⟨ad, ea, by rw [e]; exact hlt, by rw [← hc]; exact World.cell?_of_block (by rw [e])⟩⟩
end
theorem infoInt : (Tryd.prog.info? 3).map (fun i => (i.zero, i.size, i.bytes)) = some (some (.int .i64 0), 1, 8) := by kernel_rfl
theorem readsZ_blk {w : World} {g : Nat} {t : TypeId} {x y : Int} (h : Blk w g t [.int .i64 x, .int .i64 y]) (hx : (Lit.int .i64 x).wf = true) (hy : (Lit.int .i64 y).wf = true) : ReadsZ .i64 w (some ⟨g, 0, none⟩) 2 2 [x, y] := by
  refine ⟨rfl, Nat.le_refl _, by decide, ?_, fun i hi => ⟨_, rfl, h.lt, ?_⟩⟩
  · intro z hz
    rcases List.mem_cons.1 hz with rfl | hz
    · exact hx
    · rcases List.mem_cons.1 hz with rfl | hz
      · exact hy
      · cases hz
  · match i, hi with
    | 0, _ => exact h.all 0 _ rfl
    | 1, _ => exact h.all 1 _ rfl
theorem eq_two {P : Program} (W : World) {t e : TypeId} {i : TypeInfo} (hu : P.underlying t = some (.array 2 e)) (hi : P.info? e = some i) (hc : P.cellsOf e = 1) (he : P.underlying e = some (.int .i64)) (a b x y : Int) :
    (Op.equalIn 10000 t (.agg [.int .i64 a, .int .i64 b].toArray) (.agg [.int .i64 x, .int .i64 y].toArray)).run P W = .ok (decide (a = x ∧ b = y)) W := by
  rw [run_equalIn_array W 9999 _ _ hu hi, hc]
  have r2 : List.range 2 = [0, 1] := rfl
  have p : ∀ (u v : Value) (j : Nat) (k : Int), [u, v][j]? = some (.int .i64 k) → (part e [u, v].toArray j).run P W = .ok (.int .i64 k) W := by
    intro u v j k h
    have : [u, v].toArray[j]? = some (.int .i64 k) := by simpa using h
    simp [part, isAgg, run_underlying he, this]
  have q0 : (Op.equalIn 9999 e (.int .i64 a) (.int .i64 x)).run P W = .ok (a == x) W := run_equalIn_int (P := P) W 9998 e .i64 .i64 a x he
  have q1 : (Op.equalIn 9999 e (.int .i64 b) (.int .i64 y)).run P W = .ok (b == y) W := run_equalIn_int (P := P) W 9998 e .i64 .i64 b y he
  rw [r2]
  simp only [Op.eqItems, Sem.run_bind, Nat.mul_one, p _ _ 0 a rfl, p _ _ 0 x rfl, q0, Result.andThen_ok]
  have z1 := p (.int .i64 a) (.int .i64 b) 1 b rfl
  have z2 := p (.int .i64 x) (.int .i64 y) 1 y rfl
  by_cases h0 : a = x
  · rw [beq_iff_eq.2 h0, if_neg (by simp)]
    simp only [Sem.run_bind, z1, z2, q1, Result.andThen_ok]
    by_cases h1 : b = y
    · rw [beq_iff_eq.2 h1, decide_eq_true ⟨h0, h1⟩, if_neg (by simp)]
      simp
    · rw [beq_eq_false_iff_ne.2 h1, decide_eq_false (fun h => h1 h.2), if_pos (by simp)]
      simp
  · rw [beq_eq_false_iff_ne.2 h0, decide_eq_false (fun h => h0 h.1)]
    simp
/-- A string's bytes. -/
def strL (s : ByteArray) : List Nat := s.data.toList.map UInt8.toNat
theorem length_strL (s : ByteArray) : (strL s).length = s.size := by
  rw [strL, List.length_map, Array.length_toList]; rfl
theorem strL_cells (s : ByteArray) : Lib.strCells s = ints .u8 (strL s) := by
  rw [Lib.strCells, ints, strL, List.map_map]; rfl
theorem strL_lt (s : ByteArray) : ∀ x ∈ strL s, x < 256 := by
  intro x hx
  obtain ⟨b, _, rfl⟩ := List.mem_map.1 hx
  exact b.toNat_lt
theorem strL_get (s : ByteArray) (i : Nat) (h : i < s.size) (h' : i < (strL s).length) : (strL s)[i] = (s[i]'h).toNat := by
  simp only [strL, List.getElem_map, Array.getElem_toList]; rfl
/-- 2^63 + z modulo 2^64. -/
def numN (z : Int) : Nat := ((9223372036854775808 + z) % 18446744073709551616).toNat
theorem numN_lt (z : Int) : numN z < 256 ^ 8 := by unfold numN; omega
theorem numN_int (z : Int) : IntKind.u64.wrap (9223372036854775808 + IntKind.u64.wrap z) = (numN z : Int) := by rw [IntKind.wrap_u64, IntKind.wrap_u64]; unfold numN; omega
theorem numN_int2 (z : Int) : IntKind.u64.wrap (IntKind.u64.wrap z + 9223372036854775808) = (numN z : Int) := by rw [IntKind.wrap_u64, IntKind.wrap_u64]; unfold numN; omega
theorem numN_inj (x y : Int) (hx : (Lit.int .i64 x).wf = true) (hy : (Lit.int .i64 y).wf = true) (h : numN x = numN y) : x = y := by
  have h1 := range_i64 x hx
  have h2 := range_i64 y hy
  unfold numN at h
  omega
/-- Of. -/
def ofL (s : List Nat) (ns : List Int) : List Nat := s ++ 0 :: ns.flatMap fun z => putL (numN z) 8
def ofTo (s : List Nat) (ns : List Int) (j : Nat) : List Nat := s ++ 0 :: (ns.take j).flatMap fun z => putL (numN z) 8
theorem ofTo_end (s : List Nat) (ns : List Int) (n : Nat) (h : ns.length = n) : ofTo s ns n = ofL s ns := by rw [ofTo, ofL, List.take_of_length_le (by omega)]
theorem ofTo_zero (s : List Nat) (ns : List Int) : ofTo s ns 0 = s ++ [0] := by simp [ofTo]
theorem ofTo_succ (s : List Nat) (ns : List Int) (j : Nat) (h : j < ns.length) : ofTo s ns (j + 1) = ofTo s ns j ++ putL (numN ns[j]) 8 := by
  rw [ofTo, List.take_succ_eq_append_getElem h, List.flatMap_append, ofTo]; simp
theorem length_ofTo (s : List Nat) (ns : List Int) (j : Nat) (h : j ≤ ns.length) : (ofTo s ns j).length = s.length + 1 + 8 * j := by
  induction j with
  | zero => rw [ofTo_zero]; simp
  | succ j ih => rw [ofTo_succ s ns j h, List.length_append, ih (by omega), length_putL]; omega
theorem length_ofL (s : List Nat) (ns : List Int) : (ofL s ns).length = s.length + 1 + 8 * ns.length := by
  rw [← ofTo_end s ns _ rfl, length_ofTo s ns _ (Nat.le_refl _)]
theorem ofL_lt (s : List Nat) (ns : List Int) (h : ∀ x ∈ s, x < 256) : ∀ x ∈ ofL s ns, x < 256 := by
  intro x hx
  rcases List.mem_append.1 hx with hx | hx
  · exact h x hx
  · rcases List.mem_cons.1 hx with rfl | hx
    · decide
    · obtain ⟨z, _, hx⟩ := List.mem_flatMap.1 hx
      exact putL_lt _ _ x hx
theorem putL_succ (N n : Nat) : putL N (n + 1) = putL (N / 256) n ++ [N % 256] := by
  apply List.ext_getElem
  · simp [length_putL]
  · intro i h1 h2
    rw [length_putL] at h1
    rw [putL_get, List.getElem_append]
    split
    · rename_i h
      rw [length_putL] at h
      rw [putL_get, Nat.div_div_eq_div_mul, ← Nat.pow_succ', show n + 1 - 1 - i = (n - 1 - i).succ from by omega]
    · rename_i h
      rw [length_putL] at h
      have : i = n := by omega
      subst this
      simp
theorem be_putL : ∀ n N : Nat, N < 256 ^ n → be (putL N n) = N
  | 0, N, h => by
    have : N = 0 := by simpa using h
    subst this
    rfl
  | n + 1, N, h => by
    rw [putL_succ, be_snoc, be_putL n (N / 256) (by rw [Nat.pow_succ] at h; omega)]
    omega
theorem ofL_inj2 (s : List Nat) (a b x y : Int) (ha : (Lit.int .i64 a).wf = true) (hb : (Lit.int .i64 b).wf = true) (hx : (Lit.int .i64 x).wf = true) (hy : (Lit.int .i64 y).wf = true) :
    ofL s [a, b] = ofL s [x, y] ↔ a = x ∧ b = y := by
  constructor
  · intro h
    have h1 := (List.cons.inj (List.append_cancel_left h)).2
    simp only [List.flatMap_cons, List.flatMap_nil, List.append_nil] at h1
    obtain ⟨h2, h3⟩ := List.append_inj h1 (by rw [length_putL, length_putL])
    refine ⟨numN_inj a x ha hx ?_, numN_inj b y hb hy ?_⟩
    · rw [← be_putL 8 (numN a) (numN_lt a), h2, be_putL 8 _ (numN_lt x)]
    · rw [← be_putL 8 (numN b) (numN_lt b), h3, be_putL 8 _ (numN_lt y)]
  · rintro ⟨rfl, rfl⟩; rfl
set_option maxRecDepth 100000 in
set_option maxHeartbeats 3200000 in
theorem of_c (s : ByteArray) (A : Option Addr) (n c : Nat) (ns : List Int) (w : World) (hr : ReadsZ .i64 w A n c ns) (hs : s.size ≤ 1099511627776) (hn : n ≤ 1099511627776) :
    Calls Tryd.prog 18 #[.string s, .slice A n c] w fun e w' => ∃ v, e = .returned v ∧ Mine w w' 5 v (ofL (strL s) ns).length (ints .u8 (ofL (strL s) ns)) := by
  obtain ⟨i0, hi, hz0, hz1, hz2⟩ := info_parts infoU8
  have HL := Lib.hid hr.len
  have HSL := Lib.hid (length_strL s)
  obtain ⟨q, hq⟩ : ∃ q, Hid (s.size + 1 + 8 * n = q) := ⟨_, rfl⟩
  have b2 : i0.bytes * q ≤ 281474976710656 := by rw [hz2, ← hq.out]; omega
  have b3 : q ≤ maxLen := by rw [← hq.out]; unfold maxLen; omega
  have hqi : (s.size : Int) + 1 + 8 * (n : Int) = (q : Int) := by have := hq.out; omega
  go_enter Tryd.func18, Tryd.ntmps18
  go_upto_region 2 with (at_make; refine wpList_make_own _ rfl (.const (.int .i64 0)) (.tmp 16) 32 rfl w.heap.size 5 i0 (.int .u8 0) 1 Tryd.underlying32 hi hz0 hz1 .i64 .i64 _ q rfl rfl (by omega) b2 b3 (Nat.le_refl _) ?_; intro w1 hown hgrow)
  have HM : Hid (Mine w w1 5 (.slice (some ⟨w.heap.size, 0, none⟩) 0 q) 0 []) := by
    refine ⟨by simpa using hown, (Below.refl _ _).grown hgrow (Nat.le_refl _) (by simp)⟩
  have hbs1 := HM.out.2.size
  clear hown hgrow b2 b3
  go_upto_region 3 with (at_builtin; refine Lib.wpList_append_own_string _ rfl (.tmp 18) (.tmp 19) 32 9 rfl w.heap.size 5 i0 Tryd.underlying32 Tryd.underlying9 hi hz0 hz1 hz2 (.slice (some ⟨w.heap.size, 0, none⟩) 0 q) 0 [] rfl HM.out.1 s rfl (by unfold maxLen; omega) (by omega) hbs1 ?_; intro v2 w2 hown2 hgrow2 hiff2; obtain ⟨A2, c2, rfl⟩ := own_form hown2)
  have hm2 := mine_grown0 HM.out hown2 hgrow2
  rw [Nat.zero_add, List.nil_append, strL_cells] at hm2
  have HM2 := Lib.hid hm2
  have hbs2 := hm2.2.size
  clear hown2 hgrow2 hiff2 HM hm2 hbs1
  go_upto_region 4 with (at_builtin; refine wpList_append_own_at _ rfl (.tmp 21) (.tmp 22) 32 rfl w.heap.size 5 i0 (.int .u8 0) 1 1 Tryd.underlying32 hi hz0 hz1 hz2 rfl (by decide) (.slice A2 s.size c2) s.size _ rfl (HM2.out.1.alloc _) ⟨w2.heap.size, 0, none⟩ 1 1 _ rfl rfl (cells_new _ _ _) (by simp [Value.oneCell']) (by unfold maxLen; omega) (by omega) (by simp; omega) ?_; intro v3 w3 hown3 hgrow3 hiff3 hat3; obtain ⟨A3, c3, rfl⟩ := own_form hown3)
  have hm3 : Mine w w3 5 (.slice A3 (s.size + 1) c3) (s.size + 1) (ints .u8 (ofTo (strL s) ns 0)) := by
    rw [ofTo_zero, ints_append]; exact mine_grown HM2.out _ hown3 hgrow3
  have HM3 := Lib.hid hm3
  clear hown3 hgrow3 hiff3 hat3 HM2 hm3 hbs2 hq hqi
  go_wp2_with fail
  go_loopw [5, 26] (fun v i wr => ∃ k N cB : Nat, ∃ B, k ≤ n ∧ i = .int .i64 k ∧ v = .slice B N cB ∧ Hid (N = s.size + 1 + 8 * k) ∧ Mine w wr 5 (.slice B N cB) N (ints .u8 (ofTo (strL s) ns k))) (fun _ i _ => n - (intOf i).toNat)
  case atStart => exact ⟨0, s.size + 1, c3, A3, Nat.zero_le _, rfl, rfl, rfl, HM3.out⟩
  case round =>
    clear HM3
    obtain ⟨k, N, cB, B, hk, rfl, rfl, hN, hmine⟩ := hrel
    by_cases hlt : k < n
    · have hkl : k < ns.length := by rw [HL.out]; exact hlt
      obtain ⟨ad, rfl, hadlt, hcell⟩ := hr.cell k hkl
      have hcellr := (hmine.2.cell (p := ad.add k) (by rw [block_add]; exact hadlt)).trans hcell
      have hst := ofTo_succ (strL s) ns k hkl
      have hNb : N ≤ 9895604649985 := by have := hN.out; omega
      generalize ns[k] = z at *
      have HST := Lib.hid hst
      have HM := Lib.hid hmine
      have hlt2 : (k : Int) < (n : Int) := by omega
      clear hst hmine hcell
      go_wp2_with fail
      rw [numN_int]
      refine (put_ok (numN z) 8 _ (by decide) (by decide) (numN_lt z)).mono ?_
      rintro e w4 ⟨rfl, hown4, hb4⟩
      have hm4 := mine_below HM.out hb4
      obtain ⟨A4, c4, e4, hr4⟩ := Reads.of_own hown4 (fun x hx => wf_u8.2 (putL_lt _ _ x hx))
      cases e4
      have HM4 := Lib.hid hm4
      have HR4 := Lib.hid hr4
      have hbs4 := hm4.2.size
      clear hm4 hr4 hown4 hb4 HM
      go_wp2_with (at_builtin; refine wpList_app rfl (.tmp 37) (.tmp 38) 32 rfl w.heap.size 5 i0 (.int .u8 0) 1 Tryd.underlying32 hi hz0 hz1 hz2 rfl (.slice B N cB) N (ints .u8 (ofTo (strL s) ns k)) rfl HM4.out.1 .u8 (some ⟨wr.heap.size, 0, none⟩) 8 8 (putL (numN z) 8) rfl HR4.out (by unfold maxLen; omega) (by omega) hbs4 ?_; intro v5 w5 hown5 hgrow5; obtain ⟨A5, c5, rfl⟩ := own_form hown5)
      have hm5 := mine_grown0 HM4.out hown5 hgrow5
      rw [← ints_append, ← HST.out] at hm5
      have HM5 := Lib.hid hm5
      clear hown5 hgrow5 hm5 HM4
      go_roundw
      case rel => exact ⟨k + 1, N + 8, c5, A5, by omega, by go_num, rfl, by have := hN.out; show _ = _; omega, HM5.out⟩
      case measure => simp [intOf]; omega
    · have hkn : k = n := by omega
      subst hkn
      rw [ofTo_end _ _ _ HL.out] at hmine
      have HM := Lib.hid hmine
      clear hmine
      go_wp2
      go_ret
      exact ⟨_, rfl, by rw [length_ofL, HSL.out, HL.out, ← hN.out]; exact HM.out⟩
/-- The last k of the eight bytes of N. -/
def lastL (N k : Nat) : List Nat := (putL N 8).drop (8 - k)
theorem lastL_zero (N : Nat) : lastL N 0 = [] := by rw [lastL, List.drop_of_length_le (by rw [length_putL]; omega)]
theorem lastL_all (N : Nat) : lastL N 8 = putL N 8 := rfl
theorem lastL_succ (N k : Nat) (h : k < 8) : lastL N (k + 1) = (N / 256 ^ k % 256) :: lastL N k := by
  rw [lastL, List.drop_eq_getElem_cons (by rw [length_putL]; omega), putL_get, lastL]
  congr 2
  · congr 2; congr 1; omega
  · omega
theorem length_lastL (N k : Nat) (h : k ≤ 8) : (lastL N k).length = k := by rw [lastL, List.length_drop, length_putL]; omega
theorem lastL_lt (N k : Nat) : ∀ x ∈ lastL N k, x < 256 := fun x hx => putL_lt _ _ x (List.mem_of_mem_drop hx)
set_option maxRecDepth 100000 in
set_option maxHeartbeats 3200000 in
theorem refOf_c (s : ByteArray) (A : Option Addr) (n c : Nat) (ns : List Int) (w : World) (hr : ReadsZ .i64 w A n c ns) (hs : s.size ≤ 1099511627776) (hn : n ≤ 1099511627776) :
    Calls Tryd.prog 12 #[.string s, .slice A n c] w fun e w' => ∃ v, e = .returned v ∧ Mine w w' 5 v (ofL (strL s) ns).length (ints .u8 (ofL (strL s) ns)) := by
  obtain ⟨i0, hi, hz0, hz1, hz2⟩ := info_parts infoU8
  have HL := Lib.hid hr.len
  have HSL := Lib.hid (length_strL s)
  go_enter Tryd.func12, Tryd.ntmps12
  go_wp2_with fail
  go_loopw [5, 6] (fun v i wr => ∃ k cB : Nat, ∃ B, k ≤ s.size ∧ i = .int .i64 k ∧ v = .slice B k cB ∧ Mine w wr 5 (.slice B k cB) k (ints .u8 ((strL s).take k))) (fun _ i _ => s.size - (intOf i).toNat)
  case atStart => exact ⟨0, 0, none, Nat.zero_le _, rfl, rfl, World.ownsRow_nil _ _ _ _, Below.refl _ _⟩
  case round =>
    obtain ⟨k, cB, B, hk, rfl, rfl, hmine⟩ := hrel
    by_cases hlt : k < s.size
    · have hkl : k < (strL s).length := by rw [HSL.out]; exact hlt
      have hst : (strL s).take (k + 1) = (strL s).take k ++ [(s[k]'hlt).toNat] := by rw [List.take_succ_eq_append_getElem hkl, strL_get s k hlt]
      have hlt2 : (k : Int) < (s.size : Int) := by omega
      have HST := Lib.hid hst
      have HM := Lib.hid hmine
      have hbs := hmine.2.size
      clear hst hmine
      go_wp2_with (at_builtin; refine wpList_append_own_at _ rfl (.tmp 17) (.tmp 21) 32 rfl w.heap.size 5 i0 (.int .u8 0) 1 1 Tryd.underlying32 hi hz0 hz1 hz2 rfl (by decide) (.slice B k cB) k _ rfl (HM.out.1.alloc _) ⟨wr.heap.size, 0, none⟩ 1 1 _ rfl rfl (cells_new _ _ _) (by simp [Value.oneCell']) (by unfold maxLen; omega) (by omega) (by simp; omega) ?_; intro v3 w3 hown3 hgrow3 hiff3 hat3; obtain ⟨A3, c3, rfl⟩ := own_form hown3)
      have hm3 : Mine w w3 5 (.slice A3 (k + 1) c3) (k + 1) (ints .u8 ((strL s).take (k + 1))) := by
        rw [HST.out, ints_append]; exact mine_grown HM.out _ hown3 hgrow3
      have HM3 := Lib.hid hm3
      clear hown3 hgrow3 hiff3 hat3 hm3 HM
      go_roundw
      case rel => exact ⟨k + 1, c3, A3, by omega, by go_num, rfl, HM3.out⟩
      case measure => simp [intOf]; omega
    · have hkn : s.size = k := by omega
      rw [List.take_of_length_le (by rw [HSL.out]; omega)] at hmine
      have HM := Lib.hid hmine
      have hbs := hmine.2.size
      clear hmine
      go_upto_region 7 with (at_builtin; refine wpList_append_own_at _ rfl (.tmp 23) (.tmp 24) 32 rfl w.heap.size 5 i0 (.int .u8 0) 1 1 Tryd.underlying32 hi hz0 hz1 hz2 rfl (by decide) (.slice B k cB) k _ rfl (HM.out.1.alloc _) ⟨wr.heap.size, 0, none⟩ 1 1 _ rfl rfl (cells_new _ _ _) (by simp [Value.oneCell']) (by unfold maxLen; omega) (by omega) (by simp; omega) ?_; intro v3 w3 hown3 hgrow3 hiff3 hat3; obtain ⟨A3, c3, rfl⟩ := own_form hown3)
      have hm3 : Mine w w3 5 (.slice A3 (k + 1) c3) (k + 1) (ints .u8 (ofTo (strL s) ns 0)) := by
        rw [ofTo_zero, ints_append]; exact mine_grown HM.out _ hown3 hgrow3
      have HM3 := Lib.hid hm3
      clear hown3 hgrow3 hiff3 hat3 hm3 HM
      go_wp2_with fail
      clear hbs hk hlt
      go_loopw [5, 7] (fun v i wr => ∃ j N cB : Nat, ∃ B, j ≤ n ∧ i = .int .i64 j ∧ v = .slice B N cB ∧ Hid (N = k + 1 + 8 * j) ∧ Mine w wr 5 (.slice B N cB) N (ints .u8 (ofTo (strL s) ns j))) (fun _ i _ => n - (intOf i).toNat)
      case atStart => exact ⟨0, k + 1, c3, A3, Nat.zero_le _, rfl, rfl, rfl, HM3.out⟩
      case round =>
        clear HM3
        obtain ⟨j, N, cO, O, hj, rfl, rfl, hN, hmine⟩ := hrel
        by_cases hlt : j < n
        · have hjl : j < ns.length := by rw [HL.out]; exact hlt
          obtain ⟨ad, rfl, hadlt, hcell⟩ := hr.cell j hjl
          have hcellr := (hmine.2.cell (p := ad.add j) (by rw [block_add]; exact hadlt)).trans hcell
          have hst := ofTo_succ (strL s) ns j hjl
          have hNb : N ≤ 9895604649985 := by have := hN.out; omega
          generalize ns[j] = z at *
          have hM := numN_int2 z
          have hMlt : numN z < 18446744073709551616 := numN_lt z
          generalize numN z = M at *
          have HST := Lib.hid hst
          have HM := Lib.hid hmine
          have hlt2 : (j : Int) < (n : Int) := by omega
          clear hst hmine hcell
          go_wp2_with fail
          generalize wr = wo at *
          clear hcellr
          go_loopw [8, 9, 10] (fun xv lv kv wi => ∃ t q cL : Nat, ∃ L, t ≤ 8 ∧ kv = .int .i64 t ∧ xv = .int .u64 q ∧ q < 18446744073709551616 ∧ Hid (M / 256 ^ t = q) ∧ lv = .slice L t cL ∧ Mine wo wi 5 (.slice L t cL) t (ints .u8 (lastL M t))) (fun _ _ kv _ => 8 - (intOf kv).toNat)
          case atStart => exact ⟨0, M, 0, none, by omega, rfl, rfl, hMlt, by show _ = _; simp, rfl, ⟨by rw [lastL_zero]; rfl, .inl ⟨rfl, rfl⟩⟩, Below.refl _ _⟩
          case round =>
            obtain ⟨t, q, cL, L, ht, rfl, rfl, hq, hQ, rfl, hm⟩ := hrel
            by_cases hlt3 : t < 8
            · have hst3 := lastL_succ M t hlt3
              rw [hQ.out] at hst3
              have HST3 := Lib.hid hst3
              have hd8 : decide ((t : Int) < 8) = true := by simp; omega
              obtain ⟨L', cL', e', hrl⟩ := Reads.of_own hm.1 (fun x hx => wf_u8.2 (lastL_lt _ _ x hx))
              cases e'
              have hbi := hm.2.size
              have HRL := Lib.hid hrl
              have HMI := Lib.hid hm
              have hq256 : (q : Int) % 256 < 256 := by omega
              clear hst3 hm hrl
              go_upto_region 16 with (at_builtin; refine wpList_app rfl (.tmp 45) (.tmp 46) 32 rfl wo.heap.size 5 i0 (.int .u8 0) 1 Tryd.underlying32 hi hz0 hz1 hz2 rfl (.slice (some ⟨wr.heap.size, 0, none⟩) 1 1) 1 _ rfl (blk_own (Blk.new _ _ [_]) rfl hbi (by decide)) .u8 L t cL (lastL M t) rfl (HRL.out.keep ((Below.refl _ _).alloc (Nat.le_refl _) _)) (by unfold maxLen; omega) (by omega) (by simp; omega) ?_; intro v5 w5 hown5 hgrow5; obtain ⟨L5, c5, rfl⟩ := own_form hown5)
              rw [Nat.add_comm 1 t] at hown5 ⊢
              have hm5 : Mine wo w5 5 (.slice L5 (t + 1) c5) (t + 1) (ints .u8 (lastL M (t + 1))) := by
                refine ⟨?_, (HMI.out.2.alloc hbi _).grown hgrow5 (by simp; omega) ?_⟩
                · rw [HST3.out]
                  have e1 : ints .u8 ((q % 256) :: lastL M t) = [Value.int .u8 ((q : Int) % 256)] ++ ints .u8 (lastL M t) := by simp [ints]
                  rw [e1]
                  exact hown5
                · intro g hg
                  have : wr.heap.size = g := Option.some.inj hg
                  omega
              have HM5 := Lib.hid hm5
              have HQ5 : Hid (M / 256 ^ (t + 1) = q / 256) := by show _ = _; rw [Nat.pow_succ, ← Nat.div_div_eq_div_mul, hQ.out]
              clear hown5 hgrow5 hm5 HMI HRL
              go_wp2
              go_roundw
              case rel => exact ⟨t + 1, q / 256, c5, L5, by omega, by go_num, by go_num, by omega, HQ5, rfl, HM5.out⟩
              case measure => simp [intOf]; omega
            · have ht8 : t = 8 := by omega
              subst ht8
              obtain ⟨L', cL', e', hrl⟩ := Reads.of_own hm.1 (fun x hx => wf_u8.2 (lastL_lt _ _ x hx))
              cases e'
              rw [lastL_all] at hrl
              have hmo := mine_below HM.out hm.2
              have hbo := hmo.2.size
              have HRL := Lib.hid hrl
              have HMO := Lib.hid hmo
              clear hm hrl hmo HM
              go_wp2_with (at_builtin; refine wpList_app rfl (.tmp 50) (.tmp 51) 32 rfl w.heap.size 5 i0 (.int .u8 0) 1 Tryd.underlying32 hi hz0 hz1 hz2 rfl (.slice O N cO) N (ints .u8 (ofTo (strL s) ns j)) rfl HMO.out.1 .u8 L 8 cL (putL M 8) rfl HRL.out (by unfold maxLen; omega) (by omega) hbo ?_; intro v5 w5 hown5 hgrow5; obtain ⟨L5, c5, rfl⟩ := own_form hown5)
              have hm5 := mine_grown0 HMO.out hown5 hgrow5
              rw [← ints_append, ← HST.out] at hm5
              have HM5 := Lib.hid hm5
              clear hown5 hgrow5 hm5 HMO HRL
              go_roundw
              case rel => exact ⟨j + 1, N + 8, c5, L5, by omega, by go_num, rfl, by have := hN.out; show _ = _; omega, HM5.out⟩
              case measure => simp [intOf]; omega
        · have hjn : j = n := by omega
          subst hjn
          rw [ofTo_end _ _ _ HL.out] at hmine
          have HM := Lib.hid hmine
          clear hmine
          go_wp2
          go_ret
          exact ⟨_, rfl, by rw [length_ofL, HSL.out, HL.out, hkn, ← hN.out]; exact HM.out⟩
end Go.Proofs.YtjacfihpjolddaaDoor
