/- What Join of package label and of the reference batonref04 return, for every list of parts, as a walk through the translated text. Conditions: the parts read as a list of lists; at most 64 of at most 2^20 bytes, or more than 64. -/
import Derived.Test.YteaebicggjmfdaaLabel1
namespace Go.Proofs.Yteaebicggjmfdaa
open Go.ChangeShapes Go.WideShapes Go.RowKit
theorem mine_grown0 {w wr w' : World} {e : TypeId} {v v' : Value} {n m : Nat} {xs ys : List Value} (h : Mine w wr e v n xs) (ho : w'.ownsRow w.heap.size e 1 v' m ys) (hg : wr.grownBy w' v.ownBlock) : Mine w w' e v' m ys :=
  ⟨ho, h.2.grown hg h.2.size (own_base h.1)⟩
/-- The text while it is made: j parts are done. -/
def joinTo (ls : List (List Nat)) (j : Nat) : List Nat := ls.length % 256 :: bodyL (ls.take j)
theorem joinTo_end (ls : List (List Nat)) (n : Nat) (h : ls.length = n) : joinTo ls n = joinL ls := by rw [joinTo, joinL, List.take_of_length_le (by omega)]
theorem joinTo_succ (ls : List (List Nat)) (j : Nat) (h : j < ls.length) : joinTo ls (j + 1) = joinTo ls j ++ bytes4 ls[j].length ++ ls[j] := by
  rw [joinTo, bodyL_succ ls j h, joinTo, List.cons_append, List.cons_append]
theorem joinTo_le (ls : List (List Nat)) (j : Nat) : (joinTo ls j).length ≤ 1 + (bodyL ls).length := by
  have := bodyL_take_le ls j
  rw [joinTo, List.length_cons]; omega
theorem joinTo_zero (ls : List (List Nat)) : joinTo ls 0 = [ls.length % 256] := by simp [joinTo, bodyL]
theorem join_full (A : Option Addr) (n c : Nat) (w : World) (hn : 64 < n) :
    Calls Try.prog 8 #[.slice A n c] w fun e w' => e = .returned (.tuple #[.slice none 0 0, .int .i64 2]) ∧ w = w' := by
  have hd : decide ((64 : Int) < (n : Int)) = true := by simp; omega
  go_enter Try.func8, Try.ntmps8
  go_wp2
  go_ret2
  exact ⟨rfl, rfl⟩
set_option maxRecDepth 100000 in
set_option maxHeartbeats 3200000 in
theorem join_c (A : Option Addr) (n c : Nat) (ls : List (List Nat)) (w : World) (hr : ReadsAll .u8 w A n c ls) (hn : n ≤ 64) (hs : ∀ l ∈ ls, l.length ≤ 1048576) :
    Calls Try.prog 8 #[.slice A n c] w fun e w' => ∃ v, e = .returned (.tuple #[v, .int .i64 0]) ∧ Mine w w' 5 v (joinL ls).length (ints .u8 (joinL ls)) := by
  obtain ⟨i0, hi, hz0, hz1, hz2⟩ := info_parts infoU8
  have hd : decide ((64 : Int) < (n : Int)) = false := by simp; omega
  have HL := Lib.hid hr.len
  have HS := Lib.hid hs
  have hB : (bodyL ls).length ≤ 67109120 := by
    have h1 := bodyL_len ls 1048576 hs
    rw [hr.len] at h1
    omega
  have HB := Lib.hid hB
  clear hs hB
  go_enter Try.func8, Try.ntmps8
  go_wp2
  go_loop [4, 17] (fun s i => ∃ j q : Nat, j ≤ n ∧ i = .int .i64 j ∧ s = .int .i64 q ∧ q ≤ 67109121 ∧ Hid ((joinTo ls j).length = q)) (fun _ i => n - (intOf i).toNat)
  case atStart => exact ⟨0, 1, Nat.zero_le _, rfl, rfl, by omega, by show _ = _; rw [joinTo_zero]; rfl⟩
  case round =>
    obtain ⟨j, q, hj, rfl, rfl, hq, hQ⟩ := hrel
    by_cases hlt : j < n
    · have hjl : j < ls.length := by rw [HL.out]; exact hlt
      obtain ⟨ad, R, m, cr, rfl, _, hcell, hrow⟩ := hr.row j hjl
      have hm : m ≤ 1048576 := by rw [← hrow.len]; exact HS.out _ (List.getElem_mem _)
      have hd2 : decide ((1048576 : Int) < (m : Int)) = false := by simp; omega
      have hQ2 : Hid ((joinTo ls (j + 1)).length = q + (4 + m)) := by
        show _ = _
        rw [joinTo_succ ls j hjl, List.length_append, List.length_append, length_bytes4, hrow.len, hQ.out]; omega
      have hq2 : q + (4 + m) ≤ 67109121 := by rw [← hQ2.out]; have := joinTo_le ls (j + 1); have := HB.out; omega
      clear hrow
      have hlt2 : (j : Int) < (n : Int) := by omega
      go_wp2
      go_round
      case rel => exact ⟨j + 1, q + (4 + m), by omega, by go_num, by go_num, hq2, hQ2⟩
      case measure => simp [intOf]; omega
    · have hjn : n = j := by omega
      subst hjn
      have b2 : i0.bytes * q ≤ 281474976710656 := by rw [hz2]; omega
      have b3 : q ≤ maxLen := by unfold maxLen; omega
      go_upto_region 12 with (at_make; refine wpList_make_own _ rfl (.const (.int .i64 0)) (.tmp 30) 25 rfl w.heap.size 5 i0 (.int .u8 0) 1 Try.underlying25 hi hz0 hz1 .i64 .i64 _ q rfl rfl (by omega) b2 b3 (Nat.le_refl _) ?_; intro w1 hown hgrow)
      have HM : Hid (Mine w w1 5 (.slice (some ⟨w.heap.size, 0, none⟩) 0 q) 0 []) := by
        refine ⟨by simpa using hown, (Below.refl _ _).grown hgrow (Nat.le_refl _) (by simp)⟩
      clear hown hgrow b2 b3
      go_upto_region 13 with (at_builtin; refine wpList_append_own_at _ rfl (.tmp 32) (.tmp 36) 25 rfl w.heap.size 5 i0 (.int .u8 0) 1 1 Try.underlying25 hi hz0 hz1 hz2 rfl (by decide) (.slice (some ⟨w.heap.size, 0, none⟩) 0 q) 0 [] rfl (HM.out.1.alloc _) ⟨w1.heap.size, 0, none⟩ 1 1 _ rfl rfl (cells_new _ _ _) (by simp [Value.oneCell']) (by unfold maxLen; omega) (by omega) (by have := HM.out.2.size; simp; omega) ?_; intro v2 w2 hown2 hgrow2 hiff2 hat2)
      have hm2 := mine_grown HM.out _ hown2 hgrow2
      clear hown2 hgrow2 hiff2 hat2 HM hQ hq
      have hm3 : Mine w w2 5 v2 (joinTo ls 0).length (ints .u8 (joinTo ls 0)) := by
        rw [joinTo_zero, HL.out, Nat.mod_eq_of_lt (by omega)]; exact hm2
      rw [joinTo_zero, List.length_singleton] at hm3
      obtain ⟨A2, c2, rfl⟩ := own_form hm3.1
      rw [← joinTo_zero] at hm3
      have HM3 := Lib.hid hm3
      clear hm2 hm3
      go_wp2_with fail
      go_loopw [7, 40] (fun v i wr => ∃ k N cB : Nat, ∃ B, k ≤ n ∧ i = .int .i64 k ∧ v = .slice B N cB ∧ Hid ((joinTo ls k).length = N) ∧ Mine w wr 5 (.slice B N cB) N (ints .u8 (joinTo ls k))) (fun _ i _ => n - (intOf i).toNat)
      case atStart => exact ⟨0, 1, c2, A2, Nat.zero_le _, rfl, rfl, by show _ = _; rw [joinTo_zero]; rfl, HM3.out⟩
      case round =>
        clear HM3
        obtain ⟨k, N, cB, B, hk, rfl, rfl, hN, hmine⟩ := hrel
        by_cases hlt : k < n
        · have hkl : k < ls.length := by rw [HL.out]; exact hlt
          obtain ⟨ad, R, m, cr, rfl, hadlt, hcell, hrow⟩ := hr.row k hkl
          have hcellr := (hmine.2.cell (p := ad.add k) (by rw [block_add]; exact hadlt)).trans hcell
          have hm : m ≤ 1048576 := by rw [← hrow.len]; exact HS.out _ (List.getElem_mem _)
          have hst := joinTo_succ ls k hkl
          have hrl := hrow.len
          have hN2 : Hid ((joinTo ls (k + 1)).length = N + 4 + m) := by
            show _ = _
            rw [hst, List.length_append, List.length_append, length_bytes4, hrl, hN.out]
          have hle : N + 4 + m ≤ 67109121 := by rw [← hN2.out]; have := joinTo_le ls (k + 1); have := HB.out; omega
          rw [hrl] at hst
          generalize ls[k] = l at *
          have HST := Lib.hid hst
          have HROW := Lib.hid hrow
          have HM := Lib.hid hmine
          clear hst hrow hmine hrl hcell
          have hlt2 : (k : Int) < (n : Int) := by omega
          go_wp2_with fail
          refine (put_ok m 4 _ (by decide) (by decide) (by show m < 256 ^ 4; omega)).mono ?_
          rintro e w3 ⟨rfl, hown3, hb3⟩
          have hm3 := mine_below HM.out hb3
          obtain ⟨A3, c3, e3, hr3⟩ := Reads.of_own hown3 (fun x hx => wf_u8.2 (putL_lt _ _ x hx))
          cases e3
          rw [putL4] at hr3
          have HM3 := Lib.hid hm3
          have HR3 := Lib.hid hr3
          have hbs3 := hm3.2.size
          clear hm3 hr3 hown3 hb3 HM
          go_upto_region 18 with (at_builtin; refine wpList_app rfl (.tmp 51) (.tmp 52) 25 rfl w.heap.size 5 i0 (.int .u8 0) 1 Try.underlying25 hi hz0 hz1 hz2 rfl (.slice B N cB) N (ints .u8 (joinTo ls k)) rfl HM3.out.1 .u8 (some ⟨wr.heap.size, 0, none⟩) 4 4 (bytes4 m) rfl HR3.out (by unfold maxLen; omega) (by omega) hbs3 ?_; intro v4 w4 hown4 hgrow4)
          have hm4 := mine_grown0 HM3.out hown4 hgrow4
          obtain ⟨A4, c4, rfl⟩ := own_form hm4.1
          have HM4 := Lib.hid hm4
          have hbs4 := hm4.2.size
          clear hown4 hgrow4 hm4 HM3 HR3 hbs3
          go_wp2_with (at_builtin; refine wpList_app rfl (.tmp 54) (.tmp 55) 25 rfl w.heap.size 5 i0 (.int .u8 0) 1 Try.underlying25 hi hz0 hz1 hz2 rfl (.slice A4 (N + 4) c4) (N + 4) _ rfl HM4.out.1 .u8 R m cr l rfl (HROW.out.keep HM4.out.2) (by unfold maxLen; omega) (by omega) hbs4 ?_; intro v5 w5 hown5 hgrow5)
          have hm5 := mine_grown0 HM4.out hown5 hgrow5
          obtain ⟨A5, c5, rfl⟩ := own_form hm5.1
          rw [← ints_append, ← ints_append, ← HST.out] at hm5
          have HM5 := Lib.hid hm5
          clear hown5 hgrow5 hm5 HM4
          go_roundw
          case rel => exact ⟨k + 1, N + 4 + m, c5, A5, by omega, by go_num, rfl, hN2, HM5.out⟩
          case measure => simp [intOf]; omega
        · have hkn : k = n := by omega
          subst hkn
          rw [joinTo_end _ _ HL.out] at hmine hN
          have HM := Lib.hid hmine
          clear hmine
          go_wp2
          go_ret2
          exact ⟨_, rfl, by rw [hN.out]; exact HM.out⟩
set_option maxRecDepth 100000 in
set_option maxHeartbeats 3200000 in
theorem refJoin_c (A : Option Addr) (n c : Nat) (ls : List (List Nat)) (w : World) (hr : ReadsAll .u8 w A n c ls) (hn : n ≤ 64) (hs : ∀ l ∈ ls, l.length ≤ 1048576) :
    Calls Try.prog 11 #[.slice A n c] w fun e w' => ∃ v, e = .returned v ∧ Mine w w' 5 v (joinL ls).length (ints .u8 (joinL ls)) := by
  obtain ⟨i0, hi, hz0, hz1, hz2⟩ := info_parts infoU8
  have HL := Lib.hid hr.len
  have HS := Lib.hid hs
  have hB : (bodyL ls).length ≤ 67109120 := by
    have h1 := bodyL_len ls 1048576 hs
    rw [hr.len] at h1
    omega
  have HB := Lib.hid hB
  clear hs hB
  go_enter Try.func11, Try.ntmps11
  go_upto_region 2 with (fail)
  refine name_wp (fun w1 => Mine w w1 5 (.slice (some ⟨w.heap.size, 0, none⟩) 1 1) 1 (ints .u8 (joinTo ls 0))) ⟨?_, (Below.refl _ _).alloc (Nat.le_refl _) _⟩ ?_
  · rw [joinTo_zero, HL.out, Nat.mod_eq_of_lt (by omega)]
    exact blk_own (Blk.new _ _ _) rfl (Nat.le_refl _) (by decide)
  intro w1 hm1
  have HM1 := Lib.hid hm1
  clear hm1
  go_wp2_with fail
  go_loopw [3, 4] (fun v i wr => ∃ k N cB : Nat, ∃ B, k ≤ n ∧ i = .int .i64 k ∧ v = .slice B N cB ∧ Hid ((joinTo ls k).length = N) ∧ Mine w wr 5 (.slice B N cB) N (ints .u8 (joinTo ls k))) (fun _ i _ => n - (intOf i).toNat)
  case atStart => exact ⟨0, 1, 1, _, Nat.zero_le _, rfl, rfl, by show _ = _; rw [joinTo_zero]; rfl, HM1.out⟩
  case round =>
    clear HM1
    obtain ⟨k, N, cB, B, hk, rfl, rfl, hN, hmine⟩ := hrel
    by_cases hlt : k < n
    · have hkl : k < ls.length := by rw [HL.out]; exact hlt
      obtain ⟨ad, R, m, cr, rfl, hadlt, hcell, hrow⟩ := hr.row k hkl
      have hcellr := (hmine.2.cell (p := ad.add k) (by rw [block_add]; exact hadlt)).trans hcell
      have hm : m ≤ 1048576 := by rw [← hrow.len]; exact HS.out _ (List.getElem_mem _)
      have hst := joinTo_succ ls k hkl
      have hrl := hrow.len
      have hN2 : Hid ((joinTo ls (k + 1)).length = N + 4 + m) := by
        show _ = _
        rw [hst, List.length_append, List.length_append, length_bytes4, hrl, hN.out]
      have hle : N + 4 + m ≤ 67109121 := by rw [← hN2.out]; have := joinTo_le ls (k + 1); have := HB.out; omega
      rw [hrl] at hst
      generalize ls[k] = l at *
      have HST := Lib.hid hst
      have HROW := Lib.hid hrow
      have HM := Lib.hid hmine
      have HC := Lib.hid hcell
      have HA := Lib.hid hadlt
      have HN : Hid ([Value.int .u8 ((m : Int) / 16777216), Value.int .u8 ((m : Int) / 65536), Value.int .u8 ((m : Int) / 256 % 256), Value.int .u8 ((m : Int) % 256)] = ints .u8 (bytes4 m)) := by
        simp only [Hid, ints, bytes4, List.map, List.cons.injEq, Value.int.injEq, true_and, and_true]
        omega
      have hbs := hmine.2.size
      clear hst hrow hmine hrl hcell hadlt
      have hlt2 : (k : Int) < (n : Int) := by omega
      go_upto_region 7 with (at_builtin; refine wpList_append_own_at _ rfl (.tmp 21) (.tmp 33) 25 rfl w.heap.size 5 i0 (.int .u8 0) 1 1 Try.underlying25 hi hz0 hz1 hz2 rfl (by decide) (.slice B N cB) N _ rfl (HM.out.1.alloc _) ⟨wr.heap.size, 0, none⟩ 4 4 _ rfl rfl (cells_new _ _ _) (by simp [Value.oneCell']) (by unfold maxLen; omega) (by omega) (by simp; omega) ?_; intro v3 w3 hown3 hgrow3 hiff3 hat3)
      have hm3 := mine_grown HM.out _ hown3 hgrow3
      clear hown3 hgrow3 hiff3 hat3
      rw [show (#[Value.int .u8 ((m : Int) / 16777216), Value.int .u8 ((m : Int) / 65536), Value.int .u8 ((m : Int) / 256 % 256), Value.int .u8 ((m : Int) % 256)] : Array Value).toList = ints .u8 (bytes4 m) from HN.out, ← ints_append] at hm3
      obtain ⟨A3, c3, rfl⟩ := own_form hm3.1
      have hcell3 := (hm3.2.cell (p := ad.add k) (by rw [block_add]; exact HA.out)).trans HC.out
      have HM3 := Lib.hid hm3
      have hbs3 := hm3.2.size
      clear hm3 HM hcellr hbs
      go_wp2_with (at_builtin; refine wpList_app rfl (.tmp 35) (.tmp 39) 25 rfl w.heap.size 5 i0 (.int .u8 0) 1 Try.underlying25 hi hz0 hz1 hz2 rfl (.slice A3 (N + 4) c3) (N + 4) _ rfl HM3.out.1 .u8 R m cr l rfl (HROW.out.keep HM3.out.2) (by unfold maxLen; omega) (by omega) hbs3 ?_; intro v5 w5 hown5 hgrow5)
      have hm5 := mine_grown0 HM3.out hown5 hgrow5
      obtain ⟨A5, c5, rfl⟩ := own_form hm5.1
      rw [← ints_append, ← HST.out] at hm5
      have HM5 := Lib.hid hm5
      clear hown5 hgrow5 hm5 HM3
      go_roundw
      case rel => exact ⟨k + 1, N + 4 + m, c5, A5, by omega, by go_num, rfl, hN2, HM5.out⟩
      case measure => simp [intOf]; omega
    · have hkn : k = n := by omega
      subst hkn
      rw [joinTo_end _ _ HL.out] at hmine hN
      have HM := Lib.hid hmine
      clear hmine
      go_wp2
      go_ret
      exact ⟨_, rfl, by rw [hN.out]; exact HM.out⟩
end Go.Proofs.Yteaebicggjmfdaa
