/- What the function Sum of the reference batonref02 returns, for every message, as a walk through the translated text: the digest. Conditions: the message reads as a list of at most 2^30 bytes. -/
import Derived.Test.YtjacfihpjolddaaDoorShaR2
namespace Go.Proofs.YtjacfihpjolddaaDoor
open Go.ChangeShapes Go.WideShapes Go.RowKit

def sumAll (l : List Nat) : List Nat := l ++ padN l.length
theorem length_sumAll (l : List Nat) : ∃ K, (sumAll l).length = 64 * K ∧ K = (l.length + (padN l.length).length) / 64 := by
  refine ⟨_, ?_, rfl⟩
  rw [sumAll, List.length_append, length_padN]; omega
theorem digestN_eq (l : List Nat) (K : Nat) (h : K = (l.length + (padN l.length).length) / 64) : digestN l = ((blocksW (sumAll l) K).map BitVec.toNat).flatMap bytes4 := by
  rw [digestN, h]; rfl
theorem flat_take_succ (ws : List Nat) (j : Nat) (h : j < ws.length) (x : Nat) (hx : ws[j] = x) : (ws.take j).flatMap bytes4 ++ bytes4 x = (ws.take (j + 1)).flatMap bytes4 := by
  rw [List.take_succ_eq_append_getElem h, List.flatMap_append, hx]; simp

set_option maxRecDepth 100000 in
set_option maxHeartbeats 3200000 in
theorem refSum_c (A : Option Addr) (n c : Nat) (l : List Nat) (w : World) (hr : Reads .u8 w A n c l) (hn : n ≤ 1073741824) :
    Calls Tryd.prog 19 #[.slice A n c] w (RowPost w 5 32 (ints .u8 (digestN l))) := by
  obtain ⟨i0, hi, hz0, hz1, hz2⟩ := info_parts infoU8
  have HLL := Lib.hid hr.len
  have HLT : Hid (∀ x ∈ l, x < 256) := fun x hx => wf_u8.1 (hr.wf x hx)
  obtain ⟨L, hL⟩ : ∃ L, Hid (L = 9 + (119 - n % 64) % 64) := ⟨_, rfl⟩
  have hLb : L ≤ 72 := by have := hL.out; omega
  go_enter Tryd.func19, Tryd.ntmps19
  go_wp2_with (at_builtin; refine wpList_app rfl (.tmp 9) (.tmp 10) 32 rfl w.heap.size 5 i0 (.int .u8 0) 1 Tryd.underlying32 hi hz0 hz1 hz2 rfl (.slice (some ⟨w.heap.size, 0, none⟩) 0 0) 0 [] rfl (blk_own (Blk.new _ _ []) rfl (Nat.le_refl _) (by decide)) .u8 A n c l rfl (hr.keep ((Below.refl _ _).alloc (Nat.le_refl _) _)) (by unfold maxLen; omega) (by omega) (by simp) ?_; intro v1 w1 hown1 hgrow1)
  have hm1 : Mine w w1 5 v1 n (ints .u8 l) := ⟨by simpa using hown1, ((Below.refl _ _).alloc (Nat.le_refl _) _).grown hgrow1 (by simp) (by intro k hk; simp [Value.ownBlock] at hk; omega)⟩
  clear hown1 hgrow1
  refine (refPad_c n L _ (by omega) hL).mono ?_
  rintro en w2 ⟨v2, rfl, hm2⟩
  obtain ⟨A2, c2, rfl, hr2⟩ := Reads.of_own hm2.1 (fun x hx => wf_u8.2 (padN_lt _ x hx))
  have hm12 := mine_below hm1 hm2.2
  have HM12 := Lib.hid hm12
  have HR2 := Lib.hid hr2
  clear hm1 hm12 hm2 hr2
  go_wp2_with (at_builtin; refine wpList_app rfl (.tmp 11) (.tmp 14) 32 rfl w.heap.size 5 i0 (.int .u8 0) 1 Tryd.underlying32 hi hz0 hz1 hz2 rfl v1 n (ints .u8 l) rfl HM12.out.1 .u8 A2 L c2 (padN n) rfl HR2.out (by unfold maxLen; omega) (by omega) HM12.out.2.size ?_; intro v3 w3 hown3 hgrow3)
  have hbel3 : Below w.heap.size w w3 := HM12.out.2.grown hgrow3 HM12.out.2.size (own_base HM12.out.1)
  obtain ⟨K, hK, hKd⟩ := length_sumAll l
  have hLK : n + L = 64 * K := by
    rw [← hK, sumAll, List.length_append, length_padN, HLL.out, hL.out]
  have hall : ints .u8 l ++ ints .u8 (padN n) = ints .u8 (sumAll l) := by rw [← ints_append, sumAll, HLL.out]
  rw [hall] at hown3
  have hltall : ∀ x ∈ sumAll l, x < 256 := by
    intro x hx
    rcases List.mem_append.1 hx with h | h
    · exact HLT.out x h
    · exact padN_lt _ x h
  obtain ⟨B, cB, rfl, hrB⟩ := Reads.of_own hown3 (fun x hx => wf_u8.2 (hltall x hx))
  have HKD := Lib.hid (digestN_eq l K hKd)
  obtain ⟨T, hT⟩ : ∃ T, Hid (n + L = T) := ⟨_, rfl⟩
  rw [hT.out] at hrB
  have HLK : Hid (T = 64 * K) := by show _ = _; rw [← hT.out]; exact hLK
  have hTb : T ≤ 1073741896 := by have := hT.out; omega
  have HRB := Lib.hid hrB
  generalize sumAll l = al at *
  clear hown3 hgrow3 HM12 HR2 hall hltall hK hKd hLK hrB hr
  go_wp2_with fail
  refine (refFirst_c _).mono ?_
  rintro en w4 ⟨rfl, hb4, hbel4⟩
  have hr4 := reads_u32 hb4 length_firstW (by decide)
  have HRB4 := Lib.hid (HRB.out.keep hbel4)
  have hbelw4 := hbel3.trans (hbel4.mono hbel3.size)
  generalize w3.heap.size = g3 at *
  have HR4 := Lib.hid hr4
  clear hr4 hb4 hbel4 HRB hbel3
  go_wp2_with fail
  rw [hT.out]
  have hcB := HRB4.out.room
  go_loopw [4, 5] (fun v i wr => ∃ j q c : Nat, ∃ V, j ≤ K ∧ Hid (64 * j = q) ∧ i = .int .i64 q ∧ v = .slice V 8 c ∧ Reads .u32 wr V 8 c ((blocksW al j).map BitVec.toNat) ∧ Below w4.heap.size w4 wr) (fun _ i _ => T - (intOf i).toNat)
  case atStart => exact ⟨0, 0, 8, _, Nat.zero_le _, rfl, rfl, rfl, HR4.out, Below.refl _ _⟩
  case round =>
    clear HR4
    obtain ⟨j, q, cv, V, hj, hq, rfl, rfl, hrv, hbel⟩ := hrel
    by_cases hlt : j < K
    · have hqT : q + 64 ≤ T := by have := hq.out; have := HLK.out; omega
      have hrB5 := HRB4.out.keep hbel
      obtain ⟨bd, rfl, hbd, hcel⟩ := hrB5.cell q (by rw [hrB5.len]; omega)
      clear hcel
      have hsub := hrB5.sub q 64 hqT
      have hbl : blocksW al (j + 1) = roundsW (blocksW al j) ((al.drop q).take 64) := by rw [blocksW, hq.out]
      have HBL := Lib.hid hbl
      have HSUB := Lib.hid hsub
      have HRV := Lib.hid hrv
      clear hbl hsub hrv hrB5
      go_wp2_with fail
      refine (refRounds_c (blocksW al j) _ _ _ _ ((al.drop q).take 64) _ HRV.out HSUB.out).mono ?_
      rintro en w5 ⟨v5, rfl, hm5⟩
      rw [← HBL.out] at hm5
      obtain ⟨V5, c5, rfl, hr5⟩ := Reads.of_own hm5.1 (fun x hx => by obtain ⟨y, _, rfl⟩ := List.mem_map.1 hx; exact wf_u32.2 y.isLt)
      have hbel5 := hbel.trans (hm5.2.mono hbel.size)
      have HR5 := Lib.hid hr5
      clear hm5 hr5 HBL HSUB HRV
      go_wp2
      go_roundw
      case rel => exact ⟨j + 1, q + 64, c5, V5, by omega, by have := hq.out; show _ = _; omega, by go_num, rfl, HR5.out, hbel5⟩
      case measure => simp [intOf]; omega
    · have hjK : j = K := by omega
      subst hjK
      have hqT : q = T := by have := hq.out; have := HLK.out; omega
      have hnl : ¬ q < T := by omega
      have hwl : (blocksW al j).length = 8 := length_blocksW _ _
      obtain ⟨ws, hws⟩ : ∃ ws, Hid ((blocksW al j).map BitVec.toNat = ws) := ⟨_, rfl⟩
      rw [hws.out] at hrv
      have HDG : Hid (digestN l = ws.flatMap bytes4) := by show _ = _; rw [HKD.out, hws.out]
      have HWL : Hid (ws.length = 8) := by show _ = _; rw [← hws.out, List.length_map]; exact hwl
      have HQT := Lib.hid hqT
      have HRV := Lib.hid hrv
      have hbelw := hbelw4.trans (hbel.mono hbelw4.size)
      clear hqT hrv hwl hws hbel hbelw4 HRB4 HKD
      go_wp2_with fail
      generalize wr = wo at *
      go_loopw [6, 7] (fun v i wr => ∃ j q c : Nat, ∃ B, j ≤ 8 ∧ Hid (4 * j = q) ∧ i = .int .i64 j ∧ v = .slice B q c ∧ Mine wo wr 5 (.slice B q c) q (ints .u8 ((ws.take j).flatMap bytes4))) (fun _ i _ => 8 - (intOf i).toNat)
      case atStart => exact ⟨0, 0, 0, none, by omega, rfl, rfl, rfl, ⟨by simp [ints], .inl ⟨rfl, rfl⟩⟩, Below.refl _ _⟩
      case round =>
        obtain ⟨j2, q2, cb, B2, hj2, hq2, rfl, rfl, hmine⟩ := hrel
        by_cases hlt : j2 < 8
        · have hrv := HRV.out.keep hmine.2
          have hjl : j2 < ws.length := by rw [HWL.out]; exact hlt
          obtain ⟨vd, rfl, _, hcv⟩ := hrv.cell j2 hjl
          have hx : ws[j2] < 4294967296 := wf_u32.1 (hrv.wf _ (List.getElem_mem _))
          have hst := flat_take_succ ws j2 hjl _ rfl
          generalize ws[j2] = x at *
          have HST := Lib.hid hst
          have HM := Lib.hid hmine
          clear hst hmine hrv
          have hq2b : q2 ≤ 32 := by have := hq2.out; omega
          have HN : Hid ([Value.int .u8 ((x : Int) / 16777216), Value.int .u8 ((x : Int) / 65536 % 256), Value.int .u8 ((x : Int) / 256 % 256), Value.int .u8 ((x : Int) % 256)] = ints .u8 (bytes4 x)) := by
            simp only [Hid, ints, bytes4, List.map, List.cons.injEq, Value.int.injEq, true_and, and_true]
            omega
          go_wp2_with (at_builtin; refine wpList_append_own_at _ rfl (.tmp 38) (.tmp 53) 32 rfl wo.heap.size 5 i0 (.int .u8 0) 1 1 Tryd.underlying32 hi hz0 hz1 hz2 rfl (by decide) _ q2 _ rfl (HM.out.1.alloc _) ⟨wr.heap.size, 0, none⟩ 4 4 _ rfl rfl (cells_new _ _ _) (by simp [Value.oneCell']) (by unfold maxLen; omega) (by omega) (by have := HM.out.2.size; simp; omega) ?_; intro v2 w2 hown2 hgrow2 hiff2 hat2)
          obtain ⟨A3, c3, rfl⟩ := own_form hown2
          have hm2 := mine_grown HM.out _ hown2 hgrow2
          rw [show (#[Value.int .u8 ((x : Int) / 16777216), Value.int .u8 ((x : Int) / 65536 % 256), Value.int .u8 ((x : Int) / 256 % 256), Value.int .u8 ((x : Int) % 256)] : Array Value).toList = _ from HN.out, ← ints_append, HST.out] at hm2
          go_roundw
          case rel => exact ⟨j2 + 1, q2 + 4, c3, A3, by omega, by have := hq2.out; show _ = _; omega, by go_num, rfl, hm2⟩
          case measure => simp [intOf]; omega
        · have hj8 : j2 = 8 := by omega
          subst hj8
          have HM := Lib.hid hmine
          clear hmine
          go_wp2
          go_ret
          rw [HDG.out]
          have hm := HM.out
          rw [List.take_of_length_le (by rw [HWL.out]; exact Nat.le_refl _), show q2 = 32 from hq2.out.symm] at hm
          exact ⟨_, by rw [show q2 = 32 from hq2.out.symm]; rfl, ⟨hm.1.1, hm.1.2.imp id (fun ⟨g, cap, cur, e, h1, h2⟩ => ⟨g, cap, cur, e, Nat.le_trans hbelw.size h1, h2⟩)⟩, hbelw.trans (hm.2.mono hbelw.size)⟩
end Go.Proofs.YtjacfihpjolddaaDoor
