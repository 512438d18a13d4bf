/- What the function Rounds of package sha returns, for every argument, as a walk through the translated text. Conditions: the block reads as bytes; the table of the rounds' constants holds what the program lays there. -/
import Derived.Test.YtjacfihpjolddaaDoorSha1
import Derived.Laws.ResultCell
namespace Go.Proofs.YtjacfihpjolddaaDoor
open Go.ChangeShapes Go.WideShapes Go.RowKit

/-- The table of the constants lies as the program's text lays it. -/
def KT (w : World) : Prop := ∀ i, i < 64 → w.cell? ⟨0, i, none⟩ = some (.int .u32 ((kW.getD i 0).toNat : Int))
theorem KT.lt {w : World} (h : KT w) : 0 < w.heap.size := block_lt_of_cell (h 0 (by decide))
theorem KT.below {w w' : World} (h : KT w) (hb : Below w.heap.size w w') : KT w' := fun i hi => (hb.cell (p := ⟨0, i, none⟩) h.lt).trans (h i hi)
theorem KT.only {w w' : World} {g : Nat} (h : KT w) (hb : w.grownBy w' (some g)) (hg : 0 < g) : KT w' := fun i hi =>
  (World.cell?_of_block (hb.block _ h.lt (fun e => by injection e with e; exact absurd e (Nat.ne_of_lt hg)))).trans (h i hi)
theorem results_cell_row2 {P : Program} {fn : Func} {p u : Tmp} {ty : TypeId} (h : fn.results = #[.cell p ty, .tmp u]) (tmps : Array Value) (w : World) (g : Nat) (t : TypeId) (cs : Array Value) (fr : Nat × Nat) (d : TypeDesc) (x : Value)
    (hp : tmps.getD p undef = .pointer (some ⟨g, 0, none⟩)) (hu' : tmps.getD u undef = x) (hg : w.heap[g]? = some (.cells cs t fr))
    (hu : P.underlying ty = some d) (hd : (match d with | .struct _ | .array _ _ => true | _ => false) = true) (hi : (P.info? ty).map (·.size) = some cs.size) :
    (results fn tmps).run P w = .ok (.tuple #[.agg cs, x]) w := by
  rw [results_cell_tmp h, hp, hu']
  simp [asAddr, Result.andThen, run_loadVar_row w g t ty cs fr d hg hu hd hi]
def zero8 : List Value := ints .u32 (List.replicate 8 0)
theorem length_zero8 : zero8.length = 8 := by simp [zero8, ints]

set_option maxHeartbeats 800000 in
theorem rounds_size (h : List (BitVec 32)) (A : Option Addr) (n c : Nat) (w : World) (hh : h.length = 8) (hn : n ≠ 64) :
    Calls Tryd.prog 37 #[.agg (u32s h).toArray, .slice A n c] w fun en w' => en = .returned (.tuple #[.agg (u32s h).toArray, .int .i64 22]) ∧ Below w.heap.size w w' := by
  have hne : ((n : Int) != 64) = true := by rw [bne_iff_ne]; omega
  have HH := Lib.hid hh
  clear hh hn
  go_enter Tryd.func37, Tryd.ntmps37
  go_upto_region 2 with (fail)
  refine name_wp (fun w2 => Blk w2 w.heap.size 63 (u32s h) ∧ Blk w2 (w.heap.size + 1) 63 zero8 ∧ Below w.heap.size w w2) ⟨(Blk.new _ _ _).alloc _, ?_, ?_⟩ ?_
  · have := Blk.new (w.alloc (.cells (u32s h).toArray 63)) 63 zero8
    rw [World.size_alloc] at this
    exact this
  · exact ((Below.refl _ _).alloc (Nat.le_refl _) _).alloc (by simp) _
  rintro w2 ⟨hb1, hb2, hbel⟩
  have HB1 := Lib.hid hb1
  have HB2 := Lib.hid hb2
  clear hb1 hb2
  refine wp_region_lit ?_
  refine wpList_load_at rfl 63 (.tmp 2) rfl ⟨w.heap.size, 0, none⟩ rfl _ _ HB1.out.all Tryd.underlying63 rfl (by rw [length_u32s, HH.out]; kernel_rfl) ?_
  refine wpList_store_at rfl rfl 63 (.tmp 4) (.tmp 13) rfl (w.heap.size + 1) 0 rfl _ rfl _ _ HB2.out (by rw [length_u32s, HH.out, length_zero8]; decide) (ints_oneCell _ _) (by rw [length_u32s, HH.out]; kernel_rfl) ?_
  intro w7 hb7 hg7
  have hbel7 := below_of_only hbel hg7 hbel.size (Nat.le_succ _)
  rw [splice_all _ _ (by rw [length_u32s, HH.out, length_zero8])] at hb7
  have HB7 := Lib.hid hb7
  clear hb7 hg7 HB1 HB2 hbel
  go_wp2
  refine bodyPost_ret (v := .tuple #[.agg (u32s h).toArray, .int .i64 22]) ?_ rfl ⟨rfl, hbel7⟩
  exact results_cell_row2 rfl _ _ (w.heap.size + 1) _ _ _ _ _ rfl rfl HB7.out Tryd.underlying63 rfl (by rw [List.size_toArray, length_u32s, HH.out]; kernel_rfl)

theorem list8 {α : Type} (l : List α) (h : l.length = 8) : ∃ a b c d e f g z, l = [a, b, c, d, e, f, g, z] := by
  match l, h with
  | [a, b, c, d, e, f, g, z], _ => exact ⟨a, b, c, d, e, f, g, z, rfl⟩
theorem u32s_at (l : List (BitVec 32)) (k : Nat) (h : k < l.length) : (u32s l)[k]? = some (.int .u32 ((l.getD k 0).toNat : Int)) := by
  simp [u32s, ints, List.getD_eq_getElem?_getD, h]
/-- h while v is being added to it: j words are done. -/
def addTo (h v : List (BitVec 32)) (j : Nat) : List (BitVec 32) := (addW h v).take j ++ h.drop j
theorem length_addTo (h v : List (BitVec 32)) (j n : Nat) (hh : h.length = n) (hv : v.length = n) (hj : j ≤ n) : (addTo h v j).length = n := by
  simp [addTo, addW, hh, hv]; omega
theorem addTo_zero (h v : List (BitVec 32)) : addTo h v 0 = h := by simp [addTo]
theorem addTo_end (h v : List (BitVec 32)) (n : Nat) (hh : h.length = n) (hv : v.length = n) : addTo h v n = addW h v := by
  rw [addTo, List.drop_eq_nil_of_le (by omega), List.append_nil, List.take_of_length_le (by simp [addW, hh, hv])]
theorem addTo_at (h v : List (BitVec 32)) (j n : Nat) (hh : h.length = n) (hv : v.length = n) (hj : j < n) : (addTo h v j).getD j 0 = h.getD j 0 := by
  rw [addTo, List.getD_eq_getElem?_getD, List.getElem?_append_right (by simp [addW]; omega), List.getElem?_drop, List.getD_eq_getElem?_getD]
  congr 2
  simp [addW, hh, hv]; omega
theorem addTo_set (h v : List (BitVec 32)) (j n : Nat) (hh : h.length = n) (hv : v.length = n) (hj : j < n) : (u32s (addTo h v j)).set j (.int .u32 ((h.getD j 0 + v.getD j 0).toNat : Int)) = u32s (addTo h v (j + 1)) := by
  have hl : ((addW h v).take j).length = j := by simp [addW, hh, hv]; omega
  have e1 : h.drop j = h.getD j 0 :: h.drop (j + 1) := by
    rw [List.drop_eq_getElem_cons (by omega)]; simp [List.getD_eq_getElem?_getD, show j < h.length by omega]
  have e2 : (addW h v).take (j + 1) = (addW h v).take j ++ [h.getD j 0 + v.getD j 0] := by
    rw [List.take_succ_eq_append_getElem (by simp [addW, hh, hv]; omega)]
    congr 1
    simp [addW, List.getD_eq_getElem?_getD, show j < h.length by omega, show j < v.length by omega]
  have e3 : (addTo h v j).set j (h.getD j 0 + v.getD j 0) = addTo h v (j + 1) := by
    rw [addTo, addTo, e2, e1, List.set_append_right _ _ (by omega), hl, Nat.sub_self]
    simp
  rw [← e3]
  simp [u32s, ints, List.map_set]
set_option maxRecDepth 100000 in
set_option maxHeartbeats 1600000 in
theorem rounds_ok (h : List (BitVec 32)) (A : Option Addr) (c : Nat) (l : List Nat) (w : World) (hh : h.length = 8) (hr : Reads .u8 w A 64 c l) (hk : KT w) :
    Calls Tryd.prog 37 #[.agg (u32s h).toArray, .slice A 64 c] w fun en w' => en = .returned (.tuple #[.agg (u32s (roundsW h l)).toArray, .int .i64 0]) ∧ Below w.heap.size w w' := by
  obtain ⟨ws, hws⟩ : ∃ ws, Hid (schedN (blockW l) 48 = ws) := ⟨_, rfl⟩
  have hwl : Hid (ws.length = 64) := by show _ = _; rw [← hws.out, length_schedN, length_blockW]
  have HH := Lib.hid hh
  have HK := Lib.hid hk
  clear hh hk
  go_enter Tryd.func37, Tryd.ntmps37
  go_wp2_with fail
  refine name_Calls (fun w2 => Blk w2 w.heap.size 63 (u32s h) ∧ Blk w2 (w.heap.size + 1) 63 zero8 ∧ Below w.heap.size w w2 ∧ w2.heap.size = w.heap.size + 2) ⟨(Blk.new _ _ _).alloc _, ?_, ?_, ?_⟩ ?_
  · have := Blk.new (w.alloc (.cells (u32s h).toArray 63)) 63 zero8
    rw [World.size_alloc] at this
    exact this
  · exact ((Below.refl _ _).alloc (Nat.le_refl _) _).alloc (by simp) _
  · simp
  rintro w2 ⟨hb1, hb2, hbel, hs2⟩
  refine (schedule_c A c l _ (hr.keep hbel)).mono ?_
  rintro en w3 ⟨rfl, hbel3⟩
  rw [hws.out]
  have HB1 := Lib.hid (hb1.below hbel3 (by omega))
  have HB2 := Lib.hid (hb2.below hbel3 (by omega))
  have hs3 : w.heap.size + 2 ≤ w3.heap.size := by have := hbel3.size; omega
  have hbw3 := hbel.trans (hbel3.mono hbel.size)
  clear hb1 hb2 hbel hbel3 hs2 hr
  go_upto_region 4 with ((with_reducible refine at_store 71 ?_); refine wpList_store_at (o := ⟨none, .store 71 (.tmp 6) (.tmp 15), _, _, _, _⟩) rfl rfl 71 (.tmp 6) (.tmp 15) rfl w3.heap.size 0 rfl _ rfl zero64 71 (Blk.new _ _ zero64) (by rw [length_u32s, hwl.out, length_zero64]; decide) (ints_oneCell _ _) (by rw [length_u32s, hwl.out]; kernel_rfl) ?_; intro w4 hb4 hg4)
  have hB4 := hb4
  rw [splice_all _ _ (by rw [length_u32s, hwl.out, length_zero64])] at hB4
  have hbw4 := below_of_only (hbw3.alloc hbw3.size _) hg4 (by simp; omega) (by omega)
  have HB1' := Lib.hid ((HB1.out.alloc _).grown hg4 (by simp; omega))
  have HB2' := Lib.hid ((HB2.out.alloc _).grown hg4 (by simp; omega))
  have hs4 : w3.heap.size + 1 ≤ w4.heap.size := by have := hg4.size; simp at this; omega
  have HB4 := Lib.hid hB4
  generalize w3.heap.size = g4 at *
  clear hb4 hB4 hg4 HB1 HB2 hbw3
  refine wp_region_lit ?_
  refine wpList_load_at rfl 63 (.tmp 2) rfl ⟨w.heap.size, 0, none⟩ rfl _ _ HB1'.out.all Tryd.underlying63 rfl (by rw [length_u32s, HH.out]; kernel_rfl) ?_
  go_upto_region 5 with ((with_reducible refine at_store 63 ?_); refine wpList_store_at (o := ⟨none, .store 63 (.tmp 7) (.tmp 16), _, _, _, _⟩) rfl rfl 63 (.tmp 7) (.tmp 16) rfl w4.heap.size 0 rfl _ rfl zero8 63 (Blk.new _ _ zero8) (by rw [length_u32s, HH.out, length_zero8]; decide) (ints_oneCell _ _) (by rw [length_u32s, HH.out]; kernel_rfl) ?_; intro w5 hb5 hg5)
  rw [splice_all _ _ (by rw [length_u32s, HH.out, length_zero8])] at hb5
  have hbw5 := below_of_only (hbw4.alloc hbw4.size _) hg5 (by simp; omega) (by omega)
  have HB1 := Lib.hid ((HB1'.out.alloc _).grown hg5 (by simp; omega))
  have HB2 := Lib.hid ((HB2'.out.alloc _).grown hg5 (by simp; omega))
  have HB4' := Lib.hid ((HB4.out.alloc _).grown hg5 (by simp; omega))
  have hs5 : w4.heap.size + 1 ≤ w5.heap.size := by have := hg5.size; simp at this; omega
  generalize w4.heap.size = g5 at *
  have HB5 := Lib.hid hb5
  clear hb5 HB1' HB2' HB4 hg5 hbw4
  go_wp2_with fail
  go_loopw [17] (fun i wr => ∃ k : Nat, k ≤ 64 ∧ i = .int .i64 k ∧ Blk wr w.heap.size 63 (u32s h) ∧ Blk wr (w.heap.size + 1) 63 zero8 ∧ Blk wr g4 71 (u32s ws) ∧ Blk wr g5 63 (u32s (stW h ws k)) ∧ Below w.heap.size w wr) (fun i _ => 64 - (intOf i).toNat)
  case atStart => exact ⟨0, Nat.zero_le _, rfl, HB1.out, HB2.out, HB4'.out, HB5.out, hbw5⟩
  case round =>
    clear HB1 HB2 HB4' HB5 hbw5 hs5
    obtain ⟨k, hk, rfl, hb1, hb2, hb4, hb5, hbel⟩ := hrel
    by_cases hlt : k < 64
    · have hst : stW h ws (k + 1) = roundW (stW h ws k) (kW.getD k 0 + ws.getD k 0) := rfl
      obtain ⟨a, b, c', d, e, f, g, z, h8⟩ := list8 (stW h ws k) (by rw [length_stW]; exact HH.out)
      rw [h8] at hb5 hst
      rw [u32s8] at hb5
      have HST := Lib.hid hst
      clear h8 hst
      have v0 : wr.cell? ⟨g5, 0, none⟩ = some (.int .u32 (a.toNat : Int)) := hb5.cell 0
      have v1 : wr.cell? ⟨g5, 1, none⟩ = some (.int .u32 (b.toNat : Int)) := hb5.cell 1
      have v2 : wr.cell? ⟨g5, 2, none⟩ = some (.int .u32 (c'.toNat : Int)) := hb5.cell 2
      have v3 : wr.cell? ⟨g5, 3, none⟩ = some (.int .u32 (d.toNat : Int)) := hb5.cell 3
      have v4 : wr.cell? ⟨g5, 4, none⟩ = some (.int .u32 (e.toNat : Int)) := hb5.cell 4
      have v5 : wr.cell? ⟨g5, 5, none⟩ = some (.int .u32 (f.toNat : Int)) := hb5.cell 5
      have v6 : wr.cell? ⟨g5, 6, none⟩ = some (.int .u32 (g.toNat : Int)) := hb5.cell 6
      have v7 : wr.cell? ⟨g5, 7, none⟩ = some (.int .u32 (z.toNat : Int)) := hb5.cell 7
      have ck := HK.out.below hbel k hlt
      have cw := (hb4.cell k).trans (u32s_at ws k (by rw [hwl.out]; exact hlt))
      generalize kW.getD k 0 = kk at *
      generalize ws.getD k 0 = wk at *
      have HB1 := Lib.hid hb1
      have HB2 := Lib.hid hb2
      have HB4 := Lib.hid hb4
      have HB5 := Lib.hid hb5
      clear hb1 hb2 hb4 hb5
      have hlt2 : (k : Int) < 64 := by omega
      go_upto_region 8 with (fail)
      go_still_tail 8, (by kernel_rfl)
      rw [IntKind.wrap_u32, badd]
      generalize kk + wk = kw at *
      refine name_wpList (fun w6 => w6.heap = wr.heap ∧ Below w.heap.size w w6) ⟨rfl, hbel.drew⟩ ?_
      rintro w6 ⟨hheap, hbel6⟩
      have hb1 := HB1.out.of_heap hheap
      have hb2 := HB2.out.of_heap hheap
      have hb4 := HB4.out.of_heap hheap
      have hb5 := HB5.out.of_heap hheap
      clear hheap HB1 HB2 HB4 HB5 v0 v1 v2 v3 v4 v5 v6 v7 ck cw hbel
      go_wp2_with fail
      refine (round_c a b c' d e f g z kw _).mono ?_
      rintro en w7 ⟨rfl, hbel7⟩
      rw [← HST.out]
      have hl8 : Hid ((stW h ws (k + 1)).length = 8) := by show _ = _; rw [length_stW, HH.out]
      have HB1 := Lib.hid (hb1.below hbel7 hb1.lt)
      have HB2 := Lib.hid (hb2.below hbel7 hb2.lt)
      have HB4 := Lib.hid (hb4.below hbel7 hb4.lt)
      have HB5 := Lib.hid (hb5.below hbel7 hb5.lt)
      have hbw7 := hbel6.trans (hbel7.mono hbel6.size)
      generalize hste : stW h ws (k + 1) = st at *
      have HSTe := Lib.hid hste
      clear hste
      clear hb1 hb2 hb4 hb5 hbel7 hbel6
      go_upto_region 9 with ((with_reducible refine at_store 63 ?_); refine wpList_store_at (o := ⟨none, .store 63 (.tmp 7) (.tmp 28), _, _, _, _⟩) rfl rfl 63 (.tmp 7) (.tmp 28) rfl g5 0 rfl (u32s st) rfl _ 63 HB5.out (by rw [length_u32s, hl8.out]; simp only [List.length_cons, List.length_nil]; decide) (ints_oneCell _ _) (by rw [length_u32s, hl8.out]; kernel_rfl) ?_; intro w8 hb8 hg8)
      rw [splice_all _ _ (by rw [length_u32s, hl8.out]; simp only [List.length_cons, List.length_nil])] at hb8
      have hbw8 := below_of_only hbw7 hg8 hbw7.size (by omega)
      have hb1 := HB1.out.grown hg8 (by simp; omega)
      have hb2 := HB2.out.grown hg8 (by simp; omega)
      have hb4 := HB4.out.grown hg8 (by simp; omega)
      have HB1' := Lib.hid hb1
      have HB2' := Lib.hid hb2
      have HB4' := Lib.hid hb4
      have HB8 := Lib.hid hb8
      clear HB1 HB2 HB4 HB5 hg8 hb1 hb2 hb4 hb8
      go_wp2
      go_roundw
      case rel => exact ⟨k + 1, by omega, by go_num, HB1'.out, HB2'.out, HB4'.out, by rw [HSTe.out]; exact HB8.out, hbw8⟩
      case measure => simp [intOf]; omega
    · have hk64 : k = 64 := by omega
      subst hk64
      have hlv : Hid ((stW h ws 64).length = 8) := by show _ = _; rw [length_stW, HH.out]
      have HF : Hid (roundsW h l = addW h (stW h ws 64)) := by show _ = _; rw [roundsW, hws.out]
      generalize stW h ws 64 = v at *
      have HB1 : Hid (Blk wr w.heap.size 63 (u32s (addTo h v 0))) := by rw [addTo_zero]; exact hb1
      have HB2 := Lib.hid hb2
      have HB5 := Lib.hid hb5
      clear hb1 hb2 hb4 hb5 hws hwl
      go_wp2_with fail
      go_loopw [30] (fun i wr => ∃ j : Nat, j ≤ 8 ∧ i = .int .i64 j ∧ Blk wr w.heap.size 63 (u32s (addTo h v j)) ∧ Blk wr (w.heap.size + 1) 63 zero8 ∧ Blk wr g5 63 (u32s v) ∧ Below w.heap.size w wr) (fun i _ => 8 - (intOf i).toNat)
      case atStart => exact ⟨0, Nat.zero_le _, rfl, HB1.out, HB2.out, HB5.out, hbel⟩
      case round =>
        clear HB1 HB2 HB5 hbel
        obtain ⟨j, hj, rfl, hb1, hb2, hb5, hbel⟩ := hrel
        by_cases hlt : j < 8
        · have c1 := (hb1.cell j).trans (u32s_at _ j (by rw [length_addTo h v j 8 HH.out hlv.out hj]; exact hlt))
          rw [addTo_at h v j 8 HH.out hlv.out hlt] at c1
          have f1 := hb1.frozen j
          have c5 := (hb5.cell j).trans (u32s_at _ j (by rw [hlv.out]; exact hlt))
          have hset := addTo_set h v j 8 HH.out hlv.out hlt
          generalize h.getD j 0 = x at *
          generalize v.getD j 0 = y at *
          have HSET := Lib.hid hset
          have HB1 := Lib.hid hb1
          have HB2 := Lib.hid hb2
          have HB5 := Lib.hid hb5
          clear hb1 hb2 hb5 hset
          have hlt2 : (j : Int) < 8 := by omega
          go_upto_region 13 with (fail)
          go_region
          go_wp2
          go_roundw
          case rel =>
            simp only [badd]
            refine ⟨j + 1, by omega, by go_num, ?_, ?_, ?_, ?_⟩
            · rw [← HSET.out]
              exact (HB1.out.set_ _ _).drew
            · exact (HB2.out.far (by simp) _).drew
            · exact (HB5.out.far (by simp; omega) _).drew
            · exact (hbel.setCell (Nat.le_refl _) _).drew
          case measure => simp [intOf]; omega
        · have hj8 : j = 8 := by omega
          subst hj8
          rw [addTo_end h v 8 HH.out hlv.out, ← HF.out] at hb1
          have hl8 : Hid ((roundsW h l).length = 8) := by show _ = _; rw [length_roundsW, HH.out]
          have HB1 := Lib.hid hb1
          have HB2 := Lib.hid hb2
          clear hb1 hb2 hb5
          go_upto_region 15 with (fail)
          refine wp_region_lit ?_
          refine wpList_load_at rfl 63 (.tmp 2) rfl ⟨w.heap.size, 0, none⟩ rfl _ _ HB1.out.all Tryd.underlying63 rfl (by rw [length_u32s, hl8.out]; kernel_rfl) ?_
          refine wpList_store_at rfl rfl 63 (.tmp 4) (.tmp 42) rfl (w.heap.size + 1) 0 rfl _ rfl _ _ HB2.out (by rw [length_u32s, hl8.out, length_zero8]; decide) (ints_oneCell _ _) (by rw [length_u32s, hl8.out]; kernel_rfl) ?_
          intro w9 hb9 hg9
          have hbel9 := below_of_only hbel hg9 hbel.size (Nat.le_succ _)
          rw [splice_all _ _ (by rw [length_u32s, hl8.out, length_zero8])] at hb9
          have HB9 := Lib.hid hb9
          clear hb9 hg9 HB1 HB2 hbel
          go_wp2
          refine bodyPost_ret (v := .tuple #[.agg (u32s (roundsW h l)).toArray, .int .i64 0]) ?_ rfl ⟨rfl, hbel9⟩
          exact results_cell_row2 rfl _ _ (w.heap.size + 1) _ _ _ _ _ rfl rfl HB9.out Tryd.underlying63 rfl (by rw [List.size_toArray, length_u32s, hl8.out]; kernel_rfl)
end Go.Proofs.YtjacfihpjolddaaDoor
