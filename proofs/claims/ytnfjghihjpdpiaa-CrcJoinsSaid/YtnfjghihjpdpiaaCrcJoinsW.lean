/- The walk through CrcJoins: for every two strings of bytes and every number it returns true and leaves old memory as it was. Conditions: none. -/
import Derived.Test.YtnfjghihjpdpiaaAwake7
import Derived.Test.YtnfjghihjpdpiaaCrc3
import Derived.Test.YtnfjghihjpdpiaaRely2
import Derived.Laws.OwnMore
namespace Go.Proofs.Ytnfjghihjpdpiaa.crcJoins
open Go.ChangeShapes Go.WideShapes Go.RowKit
theorem infoB : (Try.prog.info? 5).map (fun i => (i.zero, i.size, i.bytes)) = some (some (.int .u8 0), 1, 1) := by kernel_rfl
def C (A : Option Addr) (n c : Nat) (n3 : Int) (N : Nat) (s r : BitVec 32) : List (Value → World → Prop) := [fun v _ => v = .slice A n c,
  fun v _ => v = .int .u32 (s.toNat : Int),
  fun v _ => v = .int .i64 n3,
  fun v _ => v = .int .u32 (r.toNat : Int),
  fun v _ => v = .slice A n c,
  fun v _ => v = .int .u32 (s.toNat : Int),
  fun v _ => v = .int .i64 n3,
  fun v _ => v = .int .i64 (N : Int),
  fun v W => ∃ A c, v = .slice A N c ∧ Reads .u8 W A N c (List.replicate N 0),
  fun v _ => v = .int .u32 (r.toNat : Int),
  fun v _ => v = .bool true,
  fun v _ => v = .bool true]
theorem C_stable (A : Option Addr) (n c : Nat) (n3 : Int) (N : Nat) (s r : BitVec 32) : ∀ p ∈ C A n c n3 N s r, Stable p := (stable_cons (stable_eq _) (stable_cons (stable_eq _) (stable_cons (stable_eq _) (stable_cons (stable_eq _) (stable_cons (stable_eq _) (stable_cons (stable_eq _) (stable_cons (stable_eq _) (stable_cons (stable_eq _) (stable_cons stable_row (stable_cons (stable_eq _) (stable_cons (stable_eq _) (stable_cons (stable_eq _) stable_nil))))))))))))
set_option maxRecDepth 100000 in
set_option maxHeartbeats 6400000 in
theorem walk (A : Option Addr) (n c : Nat) (l : List Nat) (A2 : Option Addr) (n2 c2 : Nat) (l2 : List Nat) (n3 : Int) (w : World) (hr : Reads .u8 w A n c l) (hr2 : Reads .u8 w A2 n2 c2 l2) (h3 : (Lit.int .i64 n3).wf = true) :
    Calls Try.prog 4 #[.slice A n c, .slice A2 n2 c2, .int .i64 n3] w fun e w' => e = .returned (.bool true) ∧ Below w.heap.size w w' := by
  obtain ⟨i0, hi, hz0, hz1, hz2⟩ := info_parts infoB
  have HR := Lib.hid hr
  have HR2 := Lib.hid hr2
  clear hr hr2
  by_cases hskip : 200 < n ∨ 200 < n2
  · by_cases hn : 200 < n
    · have hn2 : decide ((200 : Int) < (n : Int)) = true := by simp; omega
      clear hskip
      go_enter Try.func4, Try.ntmps4
      go_wp2_with fail
      refine (awake7_c w).mono ?_
      rintro en w1 ⟨rfl, hb1⟩
      go_wp2
      go_ret
      exact ⟨rfl, hb1⟩
    · have hn2 : decide ((200 : Int) < (n : Int)) = false := by simp; omega
      have hn4 : decide ((200 : Int) < (n2 : Int)) = true := by simp; omega
      clear hskip
      go_enter Try.func4, Try.ntmps4
      go_wp2_with fail
      refine (awake7_c w).mono ?_
      rintro en w1 ⟨rfl, hb1⟩
      go_wp2
      go_ret
      exact ⟨rfl, hb1⟩
  · have hn : n ≤ 200 := by omega
    have hm : n2 ≤ 200 := by omega
    have hn2 : decide ((200 : Int) < (n : Int)) = false := by simp; omega
    have hn4 : decide ((200 : Int) < (n2 : Int)) = false := by simp; omega
    clear hskip
    obtain ⟨s, hs⟩ : ∃ s, Hid (moreW 0#32 l = s) := ⟨_, rfl⟩
    obtain ⟨s2, hs2⟩ : ∃ s2, Hid (moreW 0#32 l2 = s2) := ⟨_, rfl⟩
    have HJ : Hid (stepsW (8 * (n2 : Int).toNat) s ^^^ s2 = moreW 0#32 (l ++ l2)) := by
      show _ = _
      rw [moreW_join, hs.out, hs2.out, HR2.out.len, Int.toNat_natCast]
    have HLT : Hid (∀ x ∈ l ++ l2, x < 256) := by
      intro x hx
      rcases List.mem_append.1 hx with h | h
      · exact wf_u8.1 (HR.out.wf x h)
      · exact wf_u8.1 (HR2.out.wf x h)
    go_enter Try.func4, Try.ntmps4
    go_wp2_with fail
    refine (awake7_c w).mono ?_
    rintro en w1 ⟨rfl, hb1⟩
    have HR1 := Lib.hid (HR.out.keep hb1)
    have HR21 := Lib.hid (HR2.out.keep hb1)
    go_wp2_with fail
    refine (sum_c A n c l w1 HR1.out).mono ?_
    rw [hs.out]
    rintro en w4 ⟨rfl, rfl⟩
    go_wp2_with fail
    refine (sum_c A2 n2 c2 l2 w1 HR21.out).mono ?_
    rw [hs2.out]
    rintro en w4 ⟨rfl, rfl⟩
    go_wp2_with fail
    refine (join_c s s2 n2 w1 (by omega)).mono ?_
    rw [HJ.out]
    rintro en w3 ⟨rfl, hb3⟩
    obtain ⟨sj, HSJ⟩ : ∃ sj, Hid (moreW 0#32 (l ++ l2) = sj) := ⟨_, rfl⟩
    rw [HSJ.out]
    have hb13 := hb1.trans (hb3.mono hb1.size)
    have HR3 := Lib.hid (HR1.out.keep hb3)
    have HR23 := Lib.hid (HR21.out.keep hb3)
    clear hb3 HR1 HR21
    go_wp2_with (at_builtin; refine wpList_app rfl (.tmp 24) (.tmp 25) 23 rfl w3.heap.size 5 i0 (.int .u8 0) 1 Try.underlying23 hi hz0 hz1 hz2 rfl (.slice (some ⟨w3.heap.size, 0, none⟩) 0 0) 0 [] rfl (blk_own (Blk.new _ _ []) rfl (Nat.le_refl _) (by decide)) .u8 A n c l rfl (HR3.out.keep ((Below.refl _ _).alloc (Nat.le_refl _) _)) (by unfold maxLen; omega) (by omega) (by simp) ?_)
    intro v4 w4 hown4 hgrow4
    have hm4 : Mine w3 w4 5 v4 n (ints .u8 l) := ⟨by simpa using hown4, ((Below.refl _ _).alloc (Nat.le_refl _) _).grown hgrow4 (by simp) (by intro k hk; simp [Value.ownBlock] at hk; omega)⟩
    clear hown4 hgrow4
    have HM4 := Lib.hid hm4
    clear hm4
    go_wp2_with (at_builtin; refine wpList_app rfl (.tmp 26) (.tmp 27) 23 rfl w3.heap.size 5 i0 (.int .u8 0) 1 Try.underlying23 hi hz0 hz1 hz2 rfl v4 n (ints .u8 l) rfl HM4.out.1 .u8 A2 n2 c2 l2 rfl (HR23.out.keep HM4.out.2) (by unfold maxLen; omega) (by omega) HM4.out.2.size ?_)
    intro v5 w5 hown5 hgrow5
    have hb5 : Below w3.heap.size w3 w5 := HM4.out.2.grown hgrow5 HM4.out.2.size (own_base HM4.out.1)
    rw [← ints_append] at hown5
    obtain ⟨V5, c5, rfl, hr5⟩ := Reads.of_own hown5 (fun x hx => wf_u8.2 (HLT.out x hx))
    have HR5 := Lib.hid hr5
    have HR35 := Lib.hid (HR3.out.keep hb5)
    have hb15 := hb13.trans (hb5.mono hb13.size)
    clear hr5 hown5 hgrow5 HM4 HR3 HR23 hb5
    go_wp2_with fail
    refine (sum_c V5 (n + n2) c5 (l ++ l2) w5 HR5.out).mono ?_
    rw [HSJ.out]
    rintro en w6 ⟨rfl, rfl⟩
    clear HR5
    by_cases hbig : 300 < n3
    · have hbig2 : decide ((300 : Int) < n3) = true := by simp; omega
      go_wp2
      go_ret
      exact ⟨rfl, hb15⟩
    · have hbig2 : decide ((300 : Int) < n3) = false := by simp; omega
      have HN3 : Hid (n3 < 65536) := by show _ < _; omega
      obtain ⟨N, hN⟩ : ∃ N, Hid (n3.toNat = N) := ⟨_, rfl⟩
      have HNS : Hid (N ≤ 300) := by show _ ≤ _; rw [← hN.out]; omega
      obtain ⟨r, hr⟩ : ∃ r, Hid (moreW s (List.replicate N 0) = r) := ⟨_, rfl⟩
      go_upto_region 9 with (fail)
      refine wp_region_any (by kernel_rfl) ?_
      change wpAny _ _ _ _ _ _ _ (World.drew _)
      have HRW := Lib.hid (HR35.out.of_heap (w' := w5.drew) rfl)
      have hb16 := hb15.drew
      have HS := hs
      have HN := hN
      have HRR := hr
      clear HR35 hb15 hs hN hr
      refine wpAny_relyG (g := 0) [(0, 33), (1, 34), (2, 35), (3, 36), (4, 37), (5, 38), (6, 39), (7, 40), (8, 41), (9, 42), (10, 43), (11, 6)] (condAt (C A n c n3 N s r)) [] (by kernel_rfl) rfl (condAt_keep (C_stable A n c n3 N s r)) ?hstep ?hend
      case hstep =>
        intro p hp o ho x W hbel hdep K hK
        simp only [List.mem_cons, List.not_mem_nil, or_false] at hp
        rcases hp with rfl | rfl | rfl | rfl | rfl | rfl | rfl | rfl | rfl | rfl | rfl | rfl
        · cases Option.some.inj ho
          simp only [frm, List.foldl_cons, List.foldl_nil, Act.put, List.setIfInBounds_toArray, List.set_cons_zero, List.set_cons_succ] at hK ⊢
          clear hdep ho
          rw [if_pos (by rfl)]
          go_simp
          exact hK _ _ rfl (Below.refl _ _) (by simp)
        · cases Option.some.inj ho
          have d0 : x 0 = .slice A n c := hdep ⟨0, .data⟩ (by simp) rfl rfl
          simp only [frm, List.foldl_cons, List.foldl_nil, Act.put, List.setIfInBounds_toArray, List.set_cons_zero, List.set_cons_succ] at hK ⊢
          clear hdep ho
          rw [d0] at hK ⊢
          clear d0
          rw [if_pos (by rfl)]
          go_simp
          refine (sum_c A n c l _ (HRW.out.keep hbel)).mono ?_
          rw [HS.out]
          rintro e w' ⟨rfl, rfl⟩
          exact hK _ _ rfl (Below.refl _ _) (by simp)
        · cases Option.some.inj ho
          simp only [frm, List.foldl_cons, List.foldl_nil, Act.put, List.setIfInBounds_toArray, List.set_cons_zero, List.set_cons_succ] at hK ⊢
          clear hdep ho
          rw [if_pos (by rfl)]
          go_simp
          exact hK _ _ rfl (Below.refl _ _) (by simp)
        · cases Option.some.inj ho
          have d1 : x 1 = .int .u32 (s.toNat : Int) := hdep ⟨1, .data⟩ (by simp) rfl rfl
          have d2 : x 2 = .int .i64 n3 := hdep ⟨2, .data⟩ (by simp) rfl rfl
          simp only [frm, List.foldl_cons, List.foldl_nil, Act.put, List.setIfInBounds_toArray, List.set_cons_zero, List.set_cons_succ] at hK ⊢
          clear hdep ho
          rw [d1, d2] at hK ⊢
          clear d1 d2
          rw [if_pos (by rfl)]
          go_simp
          refine (zeros_c s n3 _ HN3.out).mono ?_
          rw [HN.out, HRR.out]
          rintro e w' ⟨rfl, hb⟩
          exact hK _ _ rfl hb (by simp)
        · cases Option.some.inj ho
          simp only [frm, List.foldl_cons, List.foldl_nil, Act.put, List.setIfInBounds_toArray, List.set_cons_zero, List.set_cons_succ] at hK ⊢
          clear hdep ho
          rw [if_pos (by rfl)]
          go_simp
          exact hK _ _ rfl (Below.refl _ _) (by simp)
        · cases Option.some.inj ho
          have d4 : x 4 = .slice A n c := hdep ⟨4, .data⟩ (by simp) rfl rfl
          simp only [frm, List.foldl_cons, List.foldl_nil, Act.put, List.setIfInBounds_toArray, List.set_cons_zero, List.set_cons_succ] at hK ⊢
          clear hdep ho
          rw [d4] at hK ⊢
          clear d4
          rw [if_pos (by rfl)]
          go_simp
          refine (sum_c A n c l _ (HRW.out.keep hbel)).mono ?_
          rw [HS.out]
          rintro e w' ⟨rfl, rfl⟩
          exact hK _ _ rfl (Below.refl _ _) (by simp)
        · cases Option.some.inj ho
          simp only [frm, List.foldl_cons, List.foldl_nil, Act.put, List.setIfInBounds_toArray, List.set_cons_zero, List.set_cons_succ] at hK ⊢
          clear hdep ho
          rw [if_pos (by rfl)]
          go_simp
          exact hK _ _ rfl (Below.refl _ _) (by simp)
        · cases Option.some.inj ho
          have d6 : x 6 = .int .i64 n3 := hdep ⟨6, .data⟩ (by simp) rfl rfl
          simp only [frm, List.foldl_cons, List.foldl_nil, Act.put, List.setIfInBounds_toArray, List.set_cons_zero, List.set_cons_succ] at hK ⊢
          clear hdep ho
          rw [d6] at hK ⊢
          clear d6
          rw [if_pos (by rfl)]
          have hN := HN.out
          rcases Int.lt_or_le n3 0 with hneg | hneg
          · obtain rfl : N = 0 := by omega
            go_simp
            exact hK _ _ rfl (Below.refl _ _) (by simp)
          · obtain rfl : n3 = (N : Int) := by omega
            go_simp
            exact hK _ _ rfl (Below.refl _ _) (by simp)
        · cases Option.some.inj ho
          have d7 : x 7 = .int .i64 (N : Int) := hdep ⟨7, .data⟩ (by simp) rfl rfl
          simp only [frm, List.foldl_cons, List.foldl_nil, Act.put, List.setIfInBounds_toArray, List.set_cons_zero, List.set_cons_succ] at hK ⊢
          clear hdep ho
          rw [d7] at hK ⊢
          clear d7
          rw [if_pos (by rfl)]
          have hN := HNS.out
          obtain ⟨w', hrun, hown, hgr⟩ := run_makeSlice_full (P := Try.prog) W W.heap.size 23 5 i0 (.int .u8 0) 1 Try.underlying23 hi hz0 hz1 .i64 .i64 N (by omega) (by rw [hz2]; omega) (by unfold maxLen; omega) (Nat.le_refl _)
          go_simp
          have hown' : w'.ownsRow W.heap.size 5 1 (.slice (some ⟨W.heap.size, 0, none⟩) N N) N (ints .u8 (List.replicate N 0)) := by rw [ints_replicate, ← toList_madeCells_one]; simpa [Value.cells] using hown
          obtain ⟨V, cV, e, hrV⟩ := Reads.of_own hown' (fun x hx => by rw [(List.mem_replicate.1 hx).2]; decide)
          cases e
          exact hK _ _ ⟨_, _, rfl, hrV⟩ ((Below.refl _ _).grown hgr (Nat.le_refl _) (by simp)) (by simp)
        · cases Option.some.inj ho
          have d5 : x 5 = .int .u32 (s.toNat : Int) := hdep ⟨5, .data⟩ (by simp) rfl rfl
          have h8 : ∃ A c, (x 8) = .slice A N c ∧ Reads .u8 W A N c (List.replicate N 0) := hdep ⟨8, .data⟩ (by simp) rfl rfl
          simp only [frm, List.foldl_cons, List.foldl_nil, Act.put, List.setIfInBounds_toArray, List.set_cons_zero, List.set_cons_succ] at hK ⊢
          clear hdep ho
          rw [d5] at hK ⊢
          clear d5
          rw [if_pos (by rfl)]
          obtain ⟨V, cV, d8, ra⟩ := h8
          rw [d8] at hK ⊢
          clear d8
          go_simp
          refine (refMore_c s V N cV (List.replicate N 0) _ ra).mono ?_
          rw [HRR.out]
          rintro e w' ⟨rfl, rfl⟩
          exact hK _ _ rfl (Below.refl _ _) (by simp)
        · cases Option.some.inj ho
          have d3 : x 3 = .int .u32 (r.toNat : Int) := hdep ⟨3, .data⟩ (by simp) rfl rfl
          have d9 : x 9 = .int .u32 (r.toNat : Int) := hdep ⟨9, .data⟩ (by simp) rfl rfl
          simp only [frm, List.foldl_cons, List.foldl_nil, Act.put, List.setIfInBounds_toArray, List.set_cons_zero, List.set_cons_succ] at hK ⊢
          clear hdep ho
          rw [d3, d9] at hK ⊢
          clear d3 d9
          rw [if_pos (by rfl)]
          go_simp
          exact hK _ _ rfl (Below.refl _ _) (by simp)
        · cases Option.some.inj ho
          have d10 : x 10 = .bool true := hdep ⟨10, .data⟩ (by simp) rfl rfl
          simp only [frm, List.foldl_cons, List.foldl_nil, Act.put, List.setIfInBounds_toArray, List.set_cons_zero, List.set_cons_succ] at hK ⊢
          clear hdep ho
          rw [d10] at hK ⊢
          clear d10
          rw [if_pos (by rfl)]
          go_simp
          exact hK _ _ rfl (Below.refl _ _) (by simp)
      case hend =>
        intro x W hbel hall _
        have d11 : x 11 = .bool true := hall (11, 6) (by simp)
        simp only [frm, List.foldl_cons, List.foldl_nil, Act.put, List.setIfInBounds_toArray, List.set_cons_zero, List.set_cons_succ]
        rw [d11]
        clear hall d11
        generalize x 0 = z0
        generalize x 1 = z1
        generalize x 2 = z2
        generalize x 3 = z3
        generalize x 4 = z4
        generalize x 5 = z5
        generalize x 6 = z6
        generalize x 7 = z7
        generalize x 8 = z8
        generalize x 9 = z9
        generalize x 10 = z10
        refine wpAny_done (by kernel_rfl) ?_ _
        have hbw := hb16.trans (hbel.mono hb16.size)
        go_wp2
        go_ret
        exact ⟨rfl, hbw⟩
end Go.Proofs.Ytnfjghihjpdpiaa.crcJoins
