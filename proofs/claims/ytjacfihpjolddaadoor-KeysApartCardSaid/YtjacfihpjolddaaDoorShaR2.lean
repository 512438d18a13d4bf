/- What the function Rounds of the reference batonref02 returns, for any eight words and any block of 64 bytes, as a walk through the translated text. Conditions: the words and the block read as lists. -/
import Derived.Test.YtjacfihpjolddaaDoorShaR1
import Derived.Test.YtjacfihpjolddaaDoorSha2
import Derived.Deep.AppendLies
namespace Go.Proofs.YtjacfihpjolddaaDoor
open Go.ChangeShapes Go.WideShapes Go.RowKit

theorem u32s_snoc (l : List (BitVec 32)) (x : BitVec 32) : u32s l ++ [.int .u32 (x.toNat : Int)] = u32s (l ++ [x]) := by simp [u32s, ints]
theorem u32s_take_succ (l : List (BitVec 32)) (j : Nat) (h : j < l.length) : u32s (l.take j) ++ [.int .u32 ((l.getD j 0).toNat : Int)] = u32s (l.take (j + 1)) := by
  have e : l.getD j 0 = l[j] := by simp [List.getD_eq_getElem?_getD, h]
  rw [e, u32s_snoc, ← List.take_succ_eq_append_getElem h]
theorem blockW_at (l : List Nat) (j : Nat) (h : j < 16) : (blockW l).getD j 0 = BitVec.ofNat 32 (be ((l.drop (4 * j)).take 4)) := by
  simp [blockW, List.getD_eq_getElem?_getD, h]
theorem mine_cell {w wr : World} {e : TypeId} {g c n : Nat} {ws : List (BitVec 32)} (h : Mine w wr e (.slice (some ⟨g, 0, none⟩) n c) n (u32s ws)) (i : Nat) (hi : i < ws.length) : wr.cell? ⟨g, i, none⟩ = some (.int .u32 ((ws.getD i 0).toNat : Int)) := by
  have := h.1.cells (g := g) rfl i _ (u32s_at ws i hi)
  rwa [add_head] at this

theorem bnotw (a : BitVec 32) : ((4294967295 : Int) - (a.toNat : Int)) % 4294967296 = ((~~~a).toNat : Int) := by
  rw [bnot]; have := (~~~a).isLt; omega
theorem st_step (h ws : List (BitVec 32)) (k : Nat) (a b c d e f g z kk wk : BitVec 32) (hs : stW h ws k = [a, b, c, d, e, f, g, z]) (hk : kW.getD k 0 = kk) (hw : ws.getD k 0 = wk) :
    stW h ws (k + 1) = [tW e f g z (kk + wk) + uW a b c, a, b, c, d + tW e f g z (kk + wk), e, f, g] := by
  rw [stW, hs, hk, hw, roundW_eq]
set_option maxRecDepth 100000 in
set_option maxHeartbeats 3200000 in
theorem refRounds_c (h : List (BitVec 32)) (H A : Option Addr) (hc c : Nat) (l : List Nat) (w : World) (hh : Reads .u32 w H 8 hc (h.map BitVec.toNat)) (hr : Reads .u8 w A 64 c l) :
    Calls Tryd.prog 25 #[.slice H 8 hc, .slice A 64 c] w (RowPost w 53 8 (u32s (roundsW h l))) := by
  obtain ⟨i0, hi, hz0, hz1, hz2⟩ := info_parts infoU32
  have Hl := Lib.hid hr.len
  have hroom := hr.room
  obtain ⟨ad, rfl, hadlt, hcel⟩ := hr.cell 0 (by rw [hr.len]; decide)
  clear hcel
  have HH8 : Hid (h.length = 8) := by show _ = _; have := hh.len; simpa using this
  have HLT : Hid (∀ x ∈ l, x < 256) := fun x hx => wf_u8.1 (hr.wf x hx)
  go_enter Tryd.func25, Tryd.ntmps25
  go_wp2_with fail
  go_loopw [5, 6] (fun v i wr => ∃ j c : Nat, ∃ B, j ≤ 16 ∧ i = .int .i64 j ∧ v = .slice B j c ∧ Mine w wr 53 (.slice B j c) j (u32s ((blockW l).take j))) (fun _ i _ => 16 - (intOf i).toNat)
  case atStart => exact ⟨0, 0, none, by omega, rfl, rfl, ⟨by simp [u32s, ints], .inl ⟨rfl, rfl⟩⟩, Below.refl _ _⟩
  case round =>
    obtain ⟨j, cb, B, hj, rfl, rfl, hmine⟩ := hrel
    by_cases hlt : j < 16
    · obtain ⟨q, hq⟩ : ∃ q, Hid (4 * j = q) := ⟨_, rfl⟩
      have hqb : q + 4 ≤ 64 := by have := hq.out; omega
      have hrs := (hr.keep hmine.2).sub q 4 hqb
      have hb4 : be ((l.drop q).take 4) < 4294967296 := wf_drop4 l HLT.out q
      have hW := u32s_take_succ (blockW l) j (by rw [length_blockW]; exact hlt)
      rw [blockW_at l j hlt, hq.out, BitVec.toNat_ofNat, Nat.mod_eq_of_lt hb4] at hW
      have HW := Lib.hid hW
      have HRS := Lib.hid hrs
      have HM := Lib.hid hmine
      clear hW hrs hmine
      have e1 : 4 * (j : Int) = (q : Int) := by have := hq.out; omega
      go_wp2_with fail
      refine (refGet_c _ _ _ _ _ HRS.out).mono ?_
      rintro en w' ⟨rfl, rfl⟩
      generalize be ((l.drop q).take 4) = x at *
      rw [Nat.mod_eq_of_lt (show x < 18446744073709551616 by omega)]
      go_wp2_with (at_builtin; refine wpList_append_own_at _ rfl (.tmp 28) (.tmp 38) 50 rfl w.heap.size 53 i0 (.int .u32 0) 1 4 Tryd.underlying50 hi hz0 hz1 hz2 rfl (by decide) _ j _ rfl (HM.out.1.alloc _) ⟨wr.heap.size, 0, none⟩ 1 1 _ rfl rfl (cells_new _ _ _) (by simp [Value.oneCell']) (by unfold maxLen; omega) (by omega) (by have := HM.out.2.size; simp; omega) ?_; intro v2 w2 hown2 hgrow2 hiff2 hat2)
      obtain ⟨A3, c3, rfl⟩ := own_form hown2
      have hm2 := mine_grown HM.out _ hown2 hgrow2
      rw [show (#[Value.int .u32 (x : Int)] : Array Value).toList = [.int .u32 (x : Int)] from rfl, HW.out] at hm2
      go_roundw
      case rel => exact ⟨j + 1, c3, A3, by omega, by go_num, rfl, hm2⟩
      case measure => simp [intOf]; omega
    · have hj16 : j = 16 := by omega
      subst hj16
      have HM : Hid (Mine w wr 53 (.slice B 16 cb) 16 (u32s (schedN (blockW l) (16 - 16)))) := by
        show Mine _ _ _ _ _ _
        rwa [List.take_of_length_le (by rw [length_blockW]; decide)] at hmine
      clear hmine
      go_wp2_with fail
      rw [show ((16 : Nat) : Int) = (16 : Int) from rfl]
      go_loopw [5, 7] (fun v i wr => ∃ k c g : Nat, 16 ≤ k ∧ k ≤ 64 ∧ i = .int .i64 k ∧ v = .slice (some ⟨g, 0, none⟩) k c ∧ Mine w wr 53 (.slice (some ⟨g, 0, none⟩) k c) k (u32s (schedN (blockW l) (k - 16)))) (fun _ i _ => 64 - (intOf i).toNat)
      case atStart =>
        obtain ⟨g, c', e, _, _⟩ := mine_pos HM.out (by decide)
        cases e
        exact ⟨16, cb, g, by omega, by omega, rfl, rfl, HM.out⟩
      case round =>
        clear HM
        obtain ⟨k, ck, g, hk1, hk2, rfl, rfl, hmine⟩ := hrel
        by_cases hlt : k < 64
        · have hlen : (schedN (blockW l) (k - 16)).length = k := by rw [length_schedN, length_blockW]; omega
          have c15 := mine_cell hmine (k - 15) (by omega)
          have c2 := mine_cell hmine (k - 2) (by omega)
          have c16 := mine_cell hmine (k - 16) (by omega)
          have c7 := mine_cell hmine (k - 7) (by omega)
          have hN := nextW_eq (schedN (blockW l) (k - 16)) k hlen _ _ _ _ rfl rfl rfl rfl
          have hsc : schedN (blockW l) (k + 1 - 16) = schedN (blockW l) (k - 16) ++ [nextW (schedN (blockW l) (k - 16))] := by
            rw [show k + 1 - 16 = (k - 16) + 1 by omega]; rfl
          rw [hN] at hsc
          generalize (schedN (blockW l) (k - 16)).getD (k - 15) 0 = x15 at *
          generalize (schedN (blockW l) (k - 16)).getD (k - 2) 0 = x2 at *
          generalize (schedN (blockW l) (k - 16)).getD (k - 16) 0 = x16 at *
          generalize (schedN (blockW l) (k - 16)).getD (k - 7) 0 = x7 at *
          have HSC := Lib.hid hsc
          have HM := Lib.hid hmine
          clear hN hsc hlen hmine
          obtain ⟨r7, h7⟩ : ∃ q, Hid (rotW x15 7 = q) := ⟨_, rfl⟩
          obtain ⟨r18, h18⟩ : ∃ q, Hid (rotW x15 18 = q) := ⟨_, rfl⟩
          obtain ⟨r17, h17⟩ : ∃ q, Hid (rotW x2 17 = q) := ⟨_, rfl⟩
          obtain ⟨r19, h19⟩ : ∃ q, Hid (rotW x2 19 = q) := ⟨_, rfl⟩
          obtain ⟨s3, h3⟩ : ∃ q, Hid (x15 >>> 3 = q) := ⟨_, rfl⟩
          obtain ⟨s10, h10⟩ : ∃ q, Hid (x2 >>> 10 = q) := ⟨_, rfl⟩
          have i15 : IntKind.i64.wrap ((k : Int) - 15) = (k : Int) - 15 := IntWalk.i64_in _ (by omega)
          have i2 : IntKind.i64.wrap ((k : Int) - 2) = (k : Int) - 2 := IntWalk.i64_in _ (by omega)
          have i16 : IntKind.i64.wrap ((k : Int) - 16) = (k : Int) - 16 := IntWalk.i64_in _ (by omega)
          have i7 : IntKind.i64.wrap ((k : Int) - 7) = (k : Int) - 7 := IntWalk.i64_in _ (by omega)
          have t15 : ((k : Int) - 15).toNat = k - 15 := by omega
          have t2 : ((k : Int) - 2).toNat = k - 2 := by omega
          have t16 : ((k : Int) - 16).toNat = k - 16 := by omega
          have t7 : ((k : Int) - 7).toNat = k - 7 := by omega
          have p15 : 0 ≤ (k : Int) - 15 := by omega
          have p2 : 0 ≤ (k : Int) - 2 := by omega
          have p16 : 0 ≤ (k : Int) - 16 := by omega
          have p7 : 0 ≤ (k : Int) - 7 := by omega
          have q15 : (k : Int) - 15 < (k : Int) := by omega
          have q2 : (k : Int) - 2 < (k : Int) := by omega
          have q16 : (k : Int) - 16 < (k : Int) := by omega
          have q7 : (k : Int) - 7 < (k : Int) := by omega
          go_wp2_with fail
          go_quiet (fail)
          go_wp2_with fail
          refine (refRotW_c x15 r7 _ 7 _ rfl (by decide) h7).mono ?_
          rintro en w' ⟨rfl, m1, rfl⟩
          go_wp2_with fail
          refine (refRotW_c x15 r18 _ 18 _ rfl (by decide) h18).mono ?_
          rintro en w' ⟨rfl, m2, rfl⟩
          go_wp2_with fail
          refine (shr_c x15 s3 _ 3 _ rfl (by decide) h3).mono ?_
          rintro en w' ⟨rfl, rfl⟩
          go_wp2_with fail
          refine (refRotW_c x2 r17 _ 17 _ rfl (by decide) h17).mono ?_
          rintro en w' ⟨rfl, m3, rfl⟩
          go_wp2_with fail
          refine (refRotW_c x2 r19 _ 19 _ rfl (by decide) h19).mono ?_
          rintro en w' ⟨rfl, m4, rfl⟩
          go_wp2_with fail
          refine (shr_c x2 s10 _ 10 _ rfl (by decide) h10).mono ?_
          rintro en w' ⟨rfl, rfl⟩
          go_upto_region 12 with (fail)
          simp only [bxor]
          rw [show r7 ^^^ r18 ^^^ s3 = sig0 x15 from by rw [← h7.out, ← h18.out, ← h3.out]; rfl, show r17 ^^^ r19 ^^^ s10 = sig1 x2 from by rw [← h17.out, ← h19.out, ← h10.out]; rfl]
          clear h7 h18 h17 h19 h3 h10 i15 i2 t15 t2 p15 p2 q15 q2 c15 c2
          generalize sig0 x15 = s0 at *
          generalize sig1 x2 = s1 at *
          refine name_wp (fun w5 => w5.heap = wr.heap ∧ Mine w w5 53 (.slice (some ⟨g, 0, none⟩) k ck) k (u32s (schedN (blockW l) (k - 16)))) ⟨rfl, mine_drewN HM.out _⟩ ?_
          rintro w5 ⟨hheap, hm5⟩
          have d16 : w5.cell? ⟨g, k - 16, none⟩ = some (.int .u32 (x16.toNat : Int)) := by rw [← c16]; exact World.cell?_of_block (by rw [hheap])
          have d7 : w5.cell? ⟨g, k - 7, none⟩ = some (.int .u32 (x7.toNat : Int)) := by rw [← c7]; exact World.cell?_of_block (by rw [hheap])
          have HM5 := Lib.hid hm5
          have z16 : (16 : Int) ≤ (k : Int) := by omega
          have z7 : (7 : Int) ≤ (k : Int) := by omega
          clear hm5 c16 c7 hheap HM
          go_region_law (refine step_append_lies _ rfl (.tmp 70) (.tmp 86) 50 rfl w.heap.size 53 i0 (.int .u32 0) 1 4 Tryd.underlying50 hi hz0 hz1 hz2 rfl (by decide) _ k _ rfl (HM5.out.1.drew.alloc _) ⟨w5.heap.size, 0, none⟩ 1 1 _ rfl rfl (cells_new _ _ _) (by simp [Value.oneCell']) (by decide) (by unfold maxLen; omega) (by omega) (by have := HM5.out.2.size; simp; omega) _ rfl ?_; intro g2 c2 w6 hown6 hgrow6 hat6 hlt6)
          all_goals
            have hm6 := mine_grown (wr := w5.drew) ⟨HM5.out.1.drew, HM5.out.2.drew⟩ _ hown6 hgrow6
            clear hown6 hgrow6 hat6
            simp only [IntKind.wrap_u32, badd, u32s_snoc] at hm6
            rw [← HSC.out] at hm6
            have HM6 := Lib.hid hm6
            clear hm6
            go_wp2
            go_roundw
            case rel => exact ⟨k + 1, c2, g2, by omega, by omega, by go_num, rfl, HM6.out⟩
            case measure => simp [intOf]; omega
        · have hk64 : k = 64 := by omega
          subst hk64
          have HM : Hid (Mine w wr 53 (.slice (some ⟨g, 0, none⟩) 64 ck) 64 (u32s (schedN (blockW l) 48))) := hmine
          clear hmine
          obtain ⟨ws, hws⟩ : ∃ ws, Hid (schedN (blockW l) 48 = ws) := ⟨_, rfl⟩
          rw [hws.out] at HM
          have hwl : Hid (ws.length = 64) := by show _ = _; rw [← hws.out, length_schedN, length_blockW]
          have hh2 := hh.keep HM.out.2
          obtain ⟨a0, b0, c0, d0, e0, f0, g0, z0, h8⟩ := list8 h HH8.out
          subst h8
          obtain ⟨hd, rfl, _, v0⟩ := hh2.cell 0 (by simp)
          obtain ⟨hd', e1, _, v1⟩ := hh2.cell 1 (by simp)
          cases e1
          obtain ⟨hd', e1, _, v2⟩ := hh2.cell 2 (by simp)
          cases e1
          obtain ⟨hd', e1, _, v3⟩ := hh2.cell 3 (by simp)
          cases e1
          obtain ⟨hd', e1, _, v4⟩ := hh2.cell 4 (by simp)
          cases e1
          obtain ⟨hd', e1, _, v5⟩ := hh2.cell 5 (by simp)
          cases e1
          obtain ⟨hd', e1, _, v6⟩ := hh2.cell 6 (by simp)
          cases e1
          obtain ⟨hd', e1, _, v7⟩ := hh2.cell 7 (by simp)
          cases e1
          simp only [List.map_cons, List.getElem_cons_zero, List.getElem_cons_succ] at v0 v1 v2 v3 v4 v5 v6 v7
          have v0' : wr.cell? hd = some (.int .u32 (a0.toNat : Int)) := by rw [← v0]; rfl
          have y1 : wr.cell? ⟨hd.block, hd.off + 1, none⟩ = some (.int .u32 (b0.toNat : Int)) := v1
          have y2 : wr.cell? ⟨hd.block, hd.off + 2, none⟩ = some (.int .u32 (c0.toNat : Int)) := v2
          have y3 : wr.cell? ⟨hd.block, hd.off + 3, none⟩ = some (.int .u32 (d0.toNat : Int)) := v3
          have y4 : wr.cell? ⟨hd.block, hd.off + 4, none⟩ = some (.int .u32 (e0.toNat : Int)) := v4
          have y5 : wr.cell? ⟨hd.block, hd.off + 5, none⟩ = some (.int .u32 (f0.toNat : Int)) := v5
          have y6 : wr.cell? ⟨hd.block, hd.off + 6, none⟩ = some (.int .u32 (g0.toNat : Int)) := v6
          have y7 : wr.cell? ⟨hd.block, hd.off + 7, none⟩ = some (.int .u32 (z0.toNat : Int)) := v7
          clear v0 v1 v2 v3 v4 v5 v6 v7
          have HH2 := Lib.hid hh2
          clear hh2 hh hr
          go_upto_region 13 with (fail)
          go_quiet (fail)
          go_upto_region 14 with (fail)
          rw [show ((64 : Nat) : Int) = (64 : Int) from rfl]
          refine name_wp (fun w4 => w4.heap = wr.heap ∧ Mine w w4 53 (.slice (some ⟨g, 0, none⟩) 64 ck) 64 (u32s ws)) ⟨rfl, mine_drewN HM.out _⟩ ?_
          rintro w4 ⟨hheap, hm4⟩
          have HH4 := Lib.hid (HH2.out.of_heap hheap)
          have HM4 := Lib.hid hm4
          clear hm4 HM HH2 v0' y1 y2 y3 y4 y5 y6 y7 hheap
          go_wp2_with fail
          refine (refK_c _).mono ?_
          rintro en w5 ⟨rfl, hbk, hbel5⟩
          have hm5 := mine_below HM4.out hbel5
          have HH5 := Lib.hid (HH4.out.keep hbel5)
          have HBK := Lib.hid hbk
          have HM5 := Lib.hid hm5
          generalize w4.heap.size = gk at *
          clear hm5 hbk hbel5 HH4 HM4
          go_wp2_with fail
          go_loopw [12, 13, 14, 15, 16, 17, 18, 19, 21] (fun a b c d e f g z i wr => ∃ k q : Nat, ∃ x0 x1 x2 x3 x4 x5 x6 x7 : BitVec 32, k ≤ 64 ∧ i = .int .i64 k ∧ a = .int .u32 (x0.toNat : Int) ∧ b = .int .u32 (x1.toNat : Int) ∧ c = .int .u32 (x2.toNat : Int) ∧ d = .int .u32 (x3.toNat : Int) ∧ e = .int .u32 (x4.toNat : Int) ∧ f = .int .u32 (x5.toNat : Int) ∧ g = .int .u32 (x6.toNat : Int) ∧ z = .int .u32 (x7.toNat : Int) ∧ Hid (stW [a0, b0, c0, d0, e0, f0, g0, z0] ws k = [x0, x1, x2, x3, x4, x5, x6, x7]) ∧ wr = w5.drewN q) (fun _ _ _ _ _ _ _ _ i _ => 64 - (intOf i).toNat)
          case atStart => exact ⟨0, 0, a0, b0, c0, d0, e0, f0, g0, z0, by omega, rfl, rfl, rfl, rfl, rfl, rfl, rfl, rfl, rfl, rfl, rfl⟩
          case round =>
            obtain ⟨k, q, x0, x1, x2, x3, x4, x5, x6, x7, hk, rfl, rfl, rfl, rfl, rfl, rfl, rfl, rfl, rfl, hst, hwr⟩ := hrel
            by_cases hlt : k < 64
            · have ck := (HBK.out.cell k).trans (u32s_at kW k (by rw [length_kW]; exact hlt))
              have cw := mine_cell HM5.out k (by rw [hwl.out]; exact hlt)
              have hss := st_step _ ws k x0 x1 x2 x3 x4 x5 x6 x7 _ _ hst.out rfl rfl
              generalize kW.getD k 0 = kk at *
              generalize ws.getD k 0 = wk at *
              have dk : wr.cell? ⟨gk, k, none⟩ = some (.int .u32 (kk.toNat : Int)) := by rw [hwr]; exact ck
              have dw : wr.cell? ⟨g, k, none⟩ = some (.int .u32 (wk.toNat : Int)) := by rw [hwr]; exact cw
              have HWR := Lib.hid hwr
              have HSS := Lib.hid hss
              clear hwr hss ck cw
              obtain ⟨r1, h1⟩ : ∃ q, Hid (rotW x4 6 ^^^ rotW x4 11 ^^^ rotW x4 25 = q) := ⟨_, rfl⟩
              obtain ⟨r0, h0⟩ : ∃ q, Hid (rotW x0 2 ^^^ rotW x0 13 ^^^ rotW x0 22 = q) := ⟨_, rfl⟩
              have hlt2 : (k : Int) < 64 := by omega
              have hk0 : 0 ≤ (k : Int) := by omega
              go_upto_region 18 with (fail)
              go_quiet ((go_at_call 35; exact Calls.quiet_of (rots_c x4 r1 _ _ _ 6 11 25 _ rfl rfl rfl (by decide) (by decide) (by decide) h1)))
              go_upto_region 19 with (fail)
              simp only [bnot, bxor, band, badd4, badd]
              rw [show x7 + r1 + (x4 &&& x5 ^^^ ~~~x4 &&& x6) + kk + wk = tW x4 x5 x6 x7 (kk + wk) from by rw [tW, ← BitVec.add_assoc, ← h1.out]; rfl]
              generalize tW x4 x5 x6 x7 (kk + wk) = t at *
              go_wp2_with fail
              refine (rots_c x0 r0 _ _ _ 2 13 22 _ rfl rfl rfl (by decide) (by decide) (by decide) h0).mono ?_
              rintro en w' ⟨rfl, m2, rfl⟩
              go_upto_region 20 with (fail)
              simp only [bxor, band, badd]
              rw [show r0 + (x0 &&& x1 ^^^ x0 &&& x2 ^^^ x1 &&& x2) = uW x0 x1 x2 from by rw [← h0.out]; rfl]
              generalize uW x0 x1 x2 = u at *
              obtain ⟨t3, ht3⟩ : ∃ q, Hid (x3 + t = q) := ⟨_, rfl⟩
              obtain ⟨tu, htu⟩ : ∃ q, Hid (t + u = q) := ⟨_, rfl⟩
              go_wp2
              simp only [badd, ht3.out, htu.out]
              go_roundw
              case rel =>
                refine ⟨k + 1, q + (nq + m2), tu, x0, x1, x2, t3, x4, x5, x6, by omega, by go_num, rfl, rfl, rfl, rfl, rfl, rfl, rfl, rfl, ?_, ?_⟩
                · show _ = _
                  rw [HSS.out, ht3.out, htu.out]
                · rw [HWR.out, World.drewN_drewN]
              case measure => simp [intOf]; omega
            · have hk64 : k = 64 := by omega
              subst hk64
              have HF : Hid (roundsW [a0, b0, c0, d0, e0, f0, g0, z0] l = [a0 + x0, b0 + x1, c0 + x2, d0 + x3, e0 + x4, f0 + x5, g0 + x6, z0 + x7]) := by
                show _ = _
                rw [roundsW, hws.out, hst.out]
                simp only [addW, List.zipWith_cons_cons, List.zipWith_nil_right]
              have hh6 := HH5.out
              obtain ⟨hd', e1, _, v0⟩ := hh6.cell 0 (by simp)
              cases e1
              obtain ⟨hd', e1, _, v1⟩ := hh6.cell 1 (by simp)
              cases e1
              obtain ⟨hd', e1, _, v2⟩ := hh6.cell 2 (by simp)
              cases e1
              obtain ⟨hd', e1, _, v3⟩ := hh6.cell 3 (by simp)
              cases e1
              obtain ⟨hd', e1, _, v4⟩ := hh6.cell 4 (by simp)
              cases e1
              obtain ⟨hd', e1, _, v5⟩ := hh6.cell 5 (by simp)
              cases e1
              obtain ⟨hd', e1, _, v6⟩ := hh6.cell 6 (by simp)
              cases e1
              obtain ⟨hd', e1, _, v7⟩ := hh6.cell 7 (by simp)
              cases e1
              simp only [List.map_cons, List.getElem_cons_zero, List.getElem_cons_succ] at v0 v1 v2 v3 v4 v5 v6 v7
              have y0 : wr.cell? hd = some (.int .u32 (a0.toNat : Int)) := by rw [hwr]; exact v0
              have y1 : wr.cell? ⟨hd.block, hd.off + 1, none⟩ = some (.int .u32 (b0.toNat : Int)) := by rw [hwr]; exact v1
              have y2 : wr.cell? ⟨hd.block, hd.off + 2, none⟩ = some (.int .u32 (c0.toNat : Int)) := by rw [hwr]; exact v2
              have y3 : wr.cell? ⟨hd.block, hd.off + 3, none⟩ = some (.int .u32 (d0.toNat : Int)) := by rw [hwr]; exact v3
              have y4 : wr.cell? ⟨hd.block, hd.off + 4, none⟩ = some (.int .u32 (e0.toNat : Int)) := by rw [hwr]; exact v4
              have y5 : wr.cell? ⟨hd.block, hd.off + 5, none⟩ = some (.int .u32 (f0.toNat : Int)) := by rw [hwr]; exact v5
              have y6 : wr.cell? ⟨hd.block, hd.off + 6, none⟩ = some (.int .u32 (g0.toNat : Int)) := by rw [hwr]; exact v6
              have y7 : wr.cell? ⟨hd.block, hd.off + 7, none⟩ = some (.int .u32 (z0.toNat : Int)) := by rw [hwr]; exact v7
              have hbel : Below w.heap.size w wr := by rw [hwr]; exact belowDrewN HM5.out.2 _
              clear v0 v1 v2 v3 v4 v5 v6 v7 hh6 hwr
              go_wp2_with fail
              go_still_tail 40, (by kernel_rfl)
              simp only [IntKind.wrap_u32, badd]
              refine name_wpList (fun w6 => Below w.heap.size w w6) hbel.drew ?_
              rintro w6 hbel6
              go_wp2
              go_ret
              rw [HF.out]
              refine ⟨_, rfl, ?_, hbel6.alloc hbel6.size _⟩
              rw [u32s8]
              exact blk_own (Blk.new _ _ _) rfl hbel6.size (by decide)
end Go.Proofs.YtjacfihpjolddaaDoor
