/- The walks of the statement HmacSums: the tag of any message under any key is what the reference says, in whatever two pieces the message comes. Conditions: key and message read as lists of bytes; the table of the rounds' constants lies as the program lays it. -/
import Derived.Test.YtbaahdhimolllaaDoorAwake3
import Derived.Test.YtbaahdhimolllaaDoorHmacR
import Derived.Test.YtbaahdhimolllaaDoorShaEq
import Derived.Test.YtbaahdhimolllaaDoorRely
namespace Go.Proofs.YtbaahdhimolllaaDoor.hmacSums
open Go.ChangeShapes Go.WideShapes Go.RowKit
set_option maxHeartbeats 800000 in
theorem walk_big (K : Option Addr) (kn kc : Nat) (A : Option Addr) (n c : Nat) (z : Int) (w : World) (hk : KT w) (hn : 200 < kn ∨ 200 < n) :
    Calls Tryd.prog 3 #[.slice K kn kc, .slice A n c, .int .u16 z] w fun e w' => e = .returned (.bool true) ∧ Below w.heap.size w w' := by
  go_enter Tryd.func3, Tryd.ntmps3
  go_wp2_with fail
  refine (awake3_c _ hk).mono ?_
  rintro e w1 ⟨rfl, hb⟩
  by_cases h1 : 200 < kn
  · have hd : decide ((200 : Int) < (kn : Int)) = true := by simp; omega
    go_wp2
    go_ret
    exact ⟨rfl, hb⟩
  · have hd : decide ((200 : Int) < (kn : Int)) = false := by simp; omega
    have hd2 : decide ((200 : Int) < (n : Int)) = true := by simp; omega
    go_wp2
    go_ret
    exact ⟨rfl, hb⟩
theorem reads_pre {k : IntKind} {w : World} {A : Option Addr} {n c : Nat} {l : List Nat} (h : Reads k w A n c l) (i : Nat) (hi : i ≤ n) : Reads k w A i c (l.take i) :=
  ⟨by rw [List.length_take, h.len]; omega, Nat.le_trans hi h.room, h.cap, fun x hx => h.wf x (List.mem_of_mem_take hx), fun j hj => by
    have hj' : j < l.length := by rw [List.length_take] at hj; omega
    obtain ⟨ad, e, hlt, hc⟩ := h.cell j hj'
    exact ⟨ad, e, hlt, by rw [hc]; simp⟩⟩
theorem reads_suf {k : IntKind} {w : World} {A : Option Addr} {n c : Nat} {l : List Nat} (h : Reads k w A n c l) (i : Nat) (hi : i ≤ n) : Reads k w (if c = i then A else A.map fun x => x.add i) (n - i) (c - i) (l.drop i) := by
  have hn := h.room
  have hcap := h.cap
  refine ⟨by rw [List.length_drop, h.len], by omega, by omega, fun x hx => h.wf x (List.mem_of_mem_drop hx), fun j hj => ?_⟩
  have hj' : i + j < l.length := by rw [List.length_drop] at hj; omega
  obtain ⟨ad, rfl, hlt, hc⟩ := h.cell (i + j) hj'
  have hne : c ≠ i := by have := h.len; omega
  rw [if_neg hne]
  refine ⟨ad.add i, rfl, by rw [block_add]; exact hlt, ?_⟩
  rw [add_add, hc]
  simp
theorem yieldsIf_load_w {P : Program} {ops : Array Oper} {S : World → Prop} {op : Oper} {a : Act} (hw : Region.wanted op (yielded ops a.tmps) = true) (ty : TypeId) (x : Operand) (ho : op.op = .load ty x)
    (ad : Addr) (hx : a.eval x = .pointer (some ad)) (cs : List Value) (d : TypeDesc) (hS : ∀ w, S w → ∀ j u, cs[j]? = some u → w.cell? (ad.add j) = some u)
    (hu : P.underlying ty = some d) (hd : (match d with | .struct _ | .array _ _ => true | _ => false) = true) (hi : (P.info? ty).map (·.size) = some cs.length) : YieldsIf P ops S op (.agg cs.toArray) a :=
  .inl ⟨hw, fun w hw' => by
    unfold execOp
    simp only [ho, hx, load_eq (hS w hw') hu hd hi, Sem.run_bind, Sem.run_pure, Result.andThen_ok]⟩
/-- What each of the operations that make memory leaves. -/
def Left (b : Nat) (msg : List Nat) (i : Nat) (tg : List Nat) (k : Nat) (v : Value) (W : World) : Prop :=
  if k = 2 then ∃ g, v = .slice (some ⟨g, 0, none⟩) 1 1 ∧ ReadsAll .u8 W (some ⟨g, 0, none⟩) 1 1 [msg]
  else if k = 11 then ∃ g, v = .slice (some ⟨g, 0, none⟩) 3 3 ∧ ReadsAll .u8 W (some ⟨g, 0, none⟩) 3 3 [msg.take i, [], msg.drop i]
  else if k = 13 ∨ k = 14 then ∃ g, v = .pointer (some ⟨g, 0, none⟩) ∧ b ≤ g ∧ Blk W g 26 zero32
  else v = .agg (ints .u8 tg).toArray
theorem Left.keep (b : Nat) (msg : List Nat) (i : Nat) (tg : List Nat) : ∀ k v w w', Left b msg i tg k v w → Below w.heap.size w w' → Left b msg i tg k v w' := by
  intro k v w w' h hb
  unfold Left at *
  split at h
  · rename_i e; rw [if_pos e]
    obtain ⟨g, e, h⟩ := h
    exact ⟨g, e, h.keep hb⟩
  · rename_i e; rw [if_neg e]
    split at h
    · rename_i e; rw [if_pos e]
      obtain ⟨g, e, h⟩ := h
      exact ⟨g, e, h.keep hb⟩
    · rename_i e; rw [if_neg e]
      split at h
      · rename_i e; rw [if_pos e]
        obtain ⟨g, e, hg, h⟩ := h
        exact ⟨g, e, hg, h.below hb h.lt⟩
      · rename_i e; rw [if_neg e]
        exact h
set_option maxRecDepth 100000 in
set_option maxHeartbeats 3200000 in
theorem walk_small (K : Option Addr) (kn kc : Nat) (key : List Nat) (A : Option Addr) (n c : Nat) (msg : List Nat) (z : Nat) (w : World) (hk : KT w) (hK : Reads .u8 w K kn kc key) (hr : Reads .u8 w A n c msg) (hkn : kn ≤ 200) (hn : n ≤ 200) (hz : z < 65536) :
    Calls Tryd.prog 3 #[.slice K kn kc, .slice A n c, .int .u16 (z : Int)] w fun e w' => e = .returned (.bool true) ∧ Below w.heap.size w w' := by
  have hd : decide ((200 : Int) < (kn : Int)) = false := by simp; omega
  have hd2 : decide ((200 : Int) < (n : Int)) = false := by simp; omega
  obtain ⟨i, hi⟩ : ∃ i, Hid (z % (n + 1) = i) := ⟨_, rfl⟩
  have hin : i ≤ n := by rw [← hi.out]; have := Nat.mod_lt z (show 0 < n + 1 by omega); omega
  have hmod : Int.tmod (z : Int) ((n : Int) + 1) = (i : Int) := by rw [← hi.out, Int.tmod_eq_emod_of_nonneg (by omega), Int.natCast_emod]; rfl
  have hne0 : ¬ ((n : Int) + 1 = 0) := by omega
  go_enter Tryd.func3, Tryd.ntmps3
  go_wp2_with fail
  refine (awake3_c _ hk).mono ?_
  rintro e w1 ⟨rfl, hb1⟩
  have HKT := Lib.hid (hk.below hb1)
  have HK := Lib.hid (hK.keep hb1)
  have HR := Lib.hid (hr.keep hb1)
  clear hk hK hr
  go_upto_region 6 with (fail)
  have hcn := HR.out.room
  have i0 : (0 : Int) ≤ (i : Int) := by omega
  have ic : (i : Int) ≤ (c : Int) := by omega
  have iN : (i : Int) ≤ (n : Int) := by omega
  refine wp_region_any (by kernel_rfl) ?_
  change wpAny _ _ _ _ _ _ _ (World.drew _)
  refine wpAny_take (i := 0) (oi := ⟨some 26, .move (.tmp 0), _, _, _, _⟩) (v := ?_) rfl (by kernel_rfl) (by kernel_rfl) (by kernel_rfl) (fun _ _ _ h => h) (Or.inl ⟨by rfl, ?_⟩) ?_
  rotate_left
  · intro W; go_simp; try with_reducible rfl
  simp only [Act.put, List.setIfInBounds_toArray, List.set_cons_zero, List.set_cons_succ]
  refine wpAny_take (i := 1) (oi := ⟨some 27, .move (.tmp 1), _, _, _, _⟩) (v := ?_) rfl (by kernel_rfl) (by kernel_rfl) (by kernel_rfl) (fun _ _ _ h => h) (Or.inl ⟨by rfl, ?_⟩) ?_
  rotate_left
  · intro W; go_simp; try with_reducible rfl
  simp only [Act.put, List.setIfInBounds_toArray, List.set_cons_zero, List.set_cons_succ]
  refine wpAny_take (i := 4) (oi := ⟨some 30, .move (.tmp 0), _, _, _, _⟩) (v := ?_) rfl (by kernel_rfl) (by kernel_rfl) (by kernel_rfl) (fun _ _ _ h => h) (Or.inl ⟨by rfl, ?_⟩) ?_
  rotate_left
  · intro W; go_simp; try with_reducible rfl
  simp only [Act.put, List.setIfInBounds_toArray, List.set_cons_zero, List.set_cons_succ]
  refine wpAny_take (i := 5) (oi := ⟨some 31, .move (.tmp 1), _, _, _, _⟩) (v := ?_) rfl (by kernel_rfl) (by kernel_rfl) (by kernel_rfl) (fun _ _ _ h => h) (Or.inl ⟨by rfl, ?_⟩) ?_
  rotate_left
  · intro W; go_simp; try with_reducible rfl
  simp only [Act.put, List.setIfInBounds_toArray, List.set_cons_zero, List.set_cons_succ]
  refine wpAny_take (i := 6) (oi := ⟨some 32, .move (.tmp 7), _, _, _, _⟩) (v := ?_) rfl (by kernel_rfl) (by kernel_rfl) (by kernel_rfl) (fun _ _ _ h => h) (Or.inl ⟨by rfl, ?_⟩) ?_
  rotate_left
  · intro W; go_simp; try with_reducible rfl
  simp only [Act.put, List.setIfInBounds_toArray, List.set_cons_zero, List.set_cons_succ]
  refine wpAny_take (i := 7) (oi := ⟨some 33, .slice 22 (.tmp 31) none (some (.tmp 32)) none, _, _, _, _⟩) (v := ?_) rfl (by kernel_rfl) (by kernel_rfl) (by kernel_rfl) (fun _ _ _ h => h) (Or.inl ⟨by rfl, ?_⟩) ?_
  rotate_left
  · intro W; go_simp; try with_reducible rfl
  simp only [Act.put, List.setIfInBounds_toArray, List.set_cons_zero, List.set_cons_succ]
  refine wpAny_take (i := 8) (oi := ⟨some 34, .move (.tmp 1), _, _, _, _⟩) (v := ?_) rfl (by kernel_rfl) (by kernel_rfl) (by kernel_rfl) (fun _ _ _ h => h) (Or.inl ⟨by rfl, ?_⟩) ?_
  rotate_left
  · intro W; go_simp; try with_reducible rfl
  simp only [Act.put, List.setIfInBounds_toArray, List.set_cons_zero, List.set_cons_succ]
  refine wpAny_take (i := 9) (oi := ⟨some 35, .move (.tmp 7), _, _, _, _⟩) (v := ?_) rfl (by kernel_rfl) (by kernel_rfl) (by kernel_rfl) (fun _ _ _ h => h) (Or.inl ⟨by rfl, ?_⟩) ?_
  rotate_left
  · intro W; go_simp; try with_reducible rfl
  simp only [Act.put, List.setIfInBounds_toArray, List.set_cons_zero, List.set_cons_succ]
  refine wpAny_take (i := 10) (oi := ⟨some 36, .slice 22 (.tmp 34) (some (.tmp 35)) none none, _, _, _, _⟩) (v := ?_) rfl (by kernel_rfl) (by kernel_rfl) (by kernel_rfl) (fun _ _ _ h => h) (Or.inl ⟨by rfl, ?_⟩) ?_
  rotate_left
  · intro W; go_simp; try with_reducible rfl
  simp only [Act.put, List.setIfInBounds_toArray, List.set_cons_zero, List.set_cons_succ]
  have HTG : Hid (∀ ls : List (List Nat), ls.flatten = msg → hmacN key ls.flatten = hmacN key msg) := fun ls h => by rw [h]
  obtain ⟨tg, htg⟩ : ∃ tg, Hid (hmacN key msg = tg) := ⟨_, rfl⟩
  have HLM := Lib.hid HR.out.len
  have HLT : Hid (tg.length = 32) := by show _ = _; rw [← htg.out]; exact length_hmacN _ _
  replace HR := Lib.hid (HR.out.of_heap (w' := w1.drew) rfl)
  replace HK := Lib.hid (HK.out.of_heap (w' := w1.drew) rfl)
  replace HKT := Lib.hid (HKT.out.of_heap (w' := w1.drew) rfl)
  replace hb1 := hb1.drew
  refine wpAny_rely (g := 2) [(2, 28), (3, 29), (11, 37), (12, 38), (13, 8), (14, 9)] (Left w1.heap.size msg i tg) [13, 14] (by kernel_rfl) rfl (Left.keep _ msg i tg) ?hstep ?hend
  case hstep =>
    intro p hp o ho x W hbel hdep K hK
    simp only [List.mem_cons, List.not_mem_nil, or_false] at hp
    rcases hp with rfl | rfl | rfl | rfl | rfl | rfl
    · cases Option.some.inj ho
      simp only [frm, List.foldl_cons, List.foldl_nil, Act.put, List.setIfInBounds_toArray, List.set_cons_zero, List.set_cons_succ] at hK ⊢
      clear hdep ho
      go_simp
      exact hK _ _ ⟨_, rfl, readsAll_one (HR.out.keep hbel)⟩ ((Below.refl _ _).alloc (Nat.le_refl _) _) (by simp)
    · cases Option.some.inj ho
      have he2 : Left w1.heap.size msg i tg 2 (x 2) W := hdep ⟨2, .data⟩ (by simp) rfl rfl
      obtain ⟨g, hx, hra⟩ : ∃ g, x 2 = .slice (some ⟨g, 0, none⟩) 1 1 ∧ ReadsAll .u8 W (some ⟨g, 0, none⟩) 1 1 [msg] := he2
      simp only [frm, List.foldl_cons, List.foldl_nil, Act.put, List.setIfInBounds_toArray, List.set_cons_zero, List.set_cons_succ] at hK ⊢
      clear hdep ho
      rw [hx] at hK ⊢
      clear hx
      go_simp
      refine (tag_c _ kn kc key _ 1 1 [msg] _ (HK.out.keep hbel) hra (HKT.out.below hbel) (by omega) (by simp [HLM.out]; omega)).mono ?_
      rintro e w' ⟨rfl, hb⟩
      exact hK _ _ (show _ = _ by rw [HTG.out [msg] (by simp), htg.out]) hb (by simp)
    · cases Option.some.inj ho
      simp only [frm, List.foldl_cons, List.foldl_nil, Act.put, List.setIfInBounds_toArray, List.set_cons_zero, List.set_cons_succ] at hK ⊢
      clear hdep ho
      go_simp
      exact hK _ _ ⟨_, rfl, readsAll_new rfl (by decide) (fun j hj => match j, hj with
        | 0, _ => ⟨_, _, _, rfl, reads_pre (HR.out.keep hbel) i hin⟩
        | 1, _ => ⟨_, _, _, rfl, Reads.nil.2 (by decide)⟩
        | 2, _ => ⟨_, _, _, rfl, reads_suf (HR.out.keep hbel) i hin⟩)⟩ ((Below.refl _ _).alloc (Nat.le_refl _) _) (by simp)
    · cases Option.some.inj ho
      have hd11 : Left w1.heap.size msg i tg 11 (x 11) W := hdep ⟨11, .data⟩ (by simp) rfl rfl
      obtain ⟨g, hx, hra⟩ : ∃ g, x 11 = .slice (some ⟨g, 0, none⟩) 3 3 ∧ ReadsAll .u8 W (some ⟨g, 0, none⟩) 3 3 [msg.take i, [], msg.drop i] := hd11
      simp only [frm, List.foldl_cons, List.foldl_nil, Act.put, List.setIfInBounds_toArray, List.set_cons_zero, List.set_cons_succ] at hK ⊢
      clear hdep ho
      rw [hx] at hK ⊢
      clear hx
      go_simp
      refine (tag_c _ kn kc key _ 3 3 [msg.take i, [], msg.drop i] _ (HK.out.keep hbel) hra (HKT.out.below hbel) (by omega) (by simp [HLM.out]; omega)).mono ?_
      rintro e w' ⟨rfl, hb⟩
      exact hK _ _ (show _ = _ by rw [HTG.out [msg.take i, [], msg.drop i] (by simp), htg.out]) hb (by simp)
    · cases Option.some.inj ho
      simp only [frm, List.foldl_cons, List.foldl_nil, Act.put, List.setIfInBounds_toArray, List.set_cons_zero, List.set_cons_succ] at hK ⊢
      clear hdep ho
      go_simp
      exact hK _ _ ⟨_, rfl, hbel.size, Blk.new _ _ zero32⟩ ((Below.refl _ _).alloc (Nat.le_refl _) _) (fun _ => ⟨Nat.le_refl _, by simp [bk]⟩)
    · cases Option.some.inj ho
      simp only [frm, List.foldl_cons, List.foldl_nil, Act.put, List.setIfInBounds_toArray, List.set_cons_zero, List.set_cons_succ] at hK ⊢
      clear hdep ho
      go_simp
      exact hK _ _ ⟨_, rfl, hbel.size, Blk.new _ _ zero32⟩ ((Below.refl _ _).alloc (Nat.le_refl _) _) (fun _ => ⟨Nat.le_refl _, by simp [bk]⟩)
  case hend =>
    intro x W hbel hall hdist
    have hx3 : x 3 = .agg (ints .u8 tg).toArray := hall (3, 29) (by simp)
    have hx12 : x 12 = .agg (ints .u8 tg).toArray := hall (12, 38) (by simp)
    obtain ⟨g8, hx13, hbg8, hb8⟩ : ∃ g, x 13 = .pointer (some ⟨g, 0, none⟩) ∧ w1.heap.size ≤ g ∧ Blk W g 26 zero32 := hall (13, 8) (by simp)
    obtain ⟨g9, hx14, hbg9, hb9⟩ : ∃ g, x 14 = .pointer (some ⟨g, 0, none⟩) ∧ w1.heap.size ≤ g ∧ Blk W g 26 zero32 := hall (14, 9) (by simp)
    have hne : g8 ≠ g9 := by
      have := hdist (13, 8) (by simp) (14, 9) (by simp) (by simp) (by simp) (by simp)
      rw [hx13, hx14] at this
      exact this
    simp only [frm, List.foldl_cons, List.foldl_nil, Act.put, List.setIfInBounds_toArray, List.set_cons_zero, List.set_cons_succ]
    rw [hx3, hx12, hx13, hx14]
    clear hx3 hx12 hx13 hx14 hall hdist
    generalize (Value.slice (if c = i then A else Option.map (fun x => x.add i) A) (n - i) (c - i)) = v36
    refine wpAny_ready (rs := [15]) (by kernel_rfl) (by simp) (AllReady.cons (o := ⟨none, .store 26 (.tmp 8) (.tmp 29), _, _, _, _⟩) rfl (fun K hK => ?_) AllReady.nil)
    refine step_store_blk rfl rfl 26 (.tmp 8) (.tmp 29) rfl g8 rfl _ rfl _ _ hb8 (by rw [length_ints, HLT.out, length_zero32]) (ints_oneCell _ _) (by rw [length_ints, HLT.out]; kernel_rfl) ?_
    intro w3 hc8 hg3
    refine hK _ _ ?_
    have hc9 := hb9.grown hg3 (fun e => hne (Option.some.inj e).symm)
    have hbw := hb1.trans (hbel.mono hb1.size)
    clear hK K hb9
    refine wpAny_ready (rs := [16]) (by kernel_rfl) (by simp) (AllReady.cons (o := ⟨none, .store 26 (.tmp 9) (.tmp 38), _, _, _, _⟩) rfl (fun K hK => ?_) AllReady.nil)
    refine step_store_blk rfl rfl 26 (.tmp 9) (.tmp 38) rfl g9 rfl _ rfl _ _ hc9 (by rw [length_ints, HLT.out, length_zero32]) (ints_oneCell _ _) (by rw [length_ints, HLT.out]; kernel_rfl) ?_
    intro w4 hd9 hg4
    refine hK _ _ ?_
    have hd8 := hc8.grown hg4 (fun e => hne (Option.some.inj e))
    clear hK K hc9
    refine wpAny_done (by kernel_rfl) ?_ _
    have hb03 := below_of_only hbel hg3 hbel.size hbg8
    have hb04 := below_of_only hb03 hg4 hb03.size hbg9
    have hbw4 := hb1.trans (hb04.mono hb1.size)
    have HR4 := Lib.hid (HR.out.keep hb04)
    have HK4 := Lib.hid (HK.out.keep hb04)
    have HTW : Hid (∀ x ∈ tg, x < 256) := by show ∀ x ∈ tg, x < 256; rw [← htg.out]; exact hmacN_lt _ _
    have H8 := Lib.hid hd8
    have H9 := Lib.hid hd9
    clear hb03 hb04 hbw hg3 hg4 hc8 hd8 hd9 hb8 hbel HR HK HKT hb1 HTG
    go_upto_region 7 with (fail)
    refine wp_region_held_drew (S := fun W => Blk W g8 26 (ints .u8 tg) ∧ Blk W g9 26 (ints .u8 tg)) (by kernel_rfl) ⟨H8.out.drew, H9.out.drew⟩ (fun hS => ?_)
    refine wpAnyH_take (i := 0) (oi := ⟨some 39, .slice 26 (.tmp 8) none none none, _, _, _, _⟩) (v := .slice (some ⟨g8, 0, none⟩) 32 32) rfl (by kernel_rfl) (by kernel_rfl) (by kernel_rfl) (fun _ _ _ h => h) (Or.inl ⟨by rfl, by intro W hSw; clear hSw; go_simp⟩) hS ?_
    simp only [Act.put, List.setIfInBounds_toArray, List.set_cons_zero, List.set_cons_succ]
    refine wpAnyH_take (i := 1) (oi := ⟨some 40, .move (.tmp 0), _, _, _, _⟩) (v := .slice K kn kc) rfl (by kernel_rfl) (by kernel_rfl) (by kernel_rfl) (fun _ _ _ h => h) (Or.inl ⟨by rfl, by intro W hSw; clear hSw; go_simp⟩) hS ?_
    simp only [Act.put, List.setIfInBounds_toArray, List.set_cons_zero, List.set_cons_succ]
    refine wpAnyH_take (i := 2) (oi := ⟨some 41, .move (.tmp 1), _, _, _, _⟩) (v := .slice A n c) rfl (by kernel_rfl) (by kernel_rfl) (by kernel_rfl) (fun _ _ _ h => h) (Or.inl ⟨by rfl, by intro W hSw; clear hSw; go_simp⟩) hS ?_
    simp only [Act.put, List.setIfInBounds_toArray, List.set_cons_zero, List.set_cons_succ]
    refine wpAnyH_ready (rs := [3]) (by kernel_rfl) (by simp) (AllReadyH.cons (o := ⟨some 42, .call { callee := .value (.func 9), args := #[.tmp 40, .tmp 41], argTypes := #[22, 22] }, _, _, _, _⟩) rfl (fun K hK => ?_) AllReadyH.nil)
    go_simp
    refine (refTag_c _ kn kc key A n c msg _ ?hrk ?hrm (by omega) (by omega)).mono ?_
    case hrk => exact HK4.out.of_heap rfl
    case hrm => exact HR4.out.of_heap rfl
    rintro e w5 ⟨v5, rfl, hm5⟩
    rw [htg.out] at hm5
    obtain ⟨A5, c5, rfl, hr5⟩ := Reads.of_own hm5.1 (fun x hx => wf_u8.2 (HTW.out x hx))
    have h58 := hS.1.below hm5.2 hS.1.lt
    have h59 := hS.2.below hm5.2 hS.2.lt
    have hbw5 := hbw4.drew.trans (hm5.2.mono hbw4.drew.size)
    refine hK.out _ _ ⟨h58, h59⟩ (fun hS5 => ?_)
    have HR5 := Lib.hid hr5
    have HR8 := Lib.hid (reads_blk h58 HLT.out (by decide) HTW.out)
    clear hK K hS hm5 hr5 h58 h59 HR4 HK4 hbw4
    have hS := hS5
    clear hS5
    refine wpAnyH_ready (rs := [4]) (by kernel_rfl) (by simp) (AllReadyH.cons (o := ⟨some 43, .call { callee := .value (.func 8), args := #[.tmp 39, .tmp 42], argTypes := #[22, 22] }, _, _, _, _⟩) rfl (fun K hK => ?_) AllReadyH.nil)
    go_simp
    refine (same_c _ _ _ _ _ _ tg tg _ HR8.out HR5.out).mono ?_
    rintro e w6 ⟨rfl, k6, rfl⟩
    rw [decide_eq_true (rfl : tg = tg)]
    refine hK.out _ _ ⟨hS.1.drewN _, hS.2.drewN _⟩ (fun hS6 => ?_)
    clear hK K hS HR5 HR8
    have hS := hS6
    clear hS6
    have hbw6 := belowDrewN hbw5 k6
    clear hbw5
    generalize w5.drewN k6 = w6 at *
    refine wpAnyH_take (i := 5) (oi := ⟨some 44, .move (.tmp 43), _, _, _, _⟩) (v := .bool true) rfl (by kernel_rfl) (by kernel_rfl) (by kernel_rfl) (fun _ _ _ h => h) (Or.inl ⟨by rfl, by intro W hSw; clear hSw; go_simp⟩) hS ?_
    simp only [Act.put, List.setIfInBounds_toArray, List.set_cons_zero, List.set_cons_succ]
    refine wpAnyH_take (i := 6) (oi := ⟨some 45, .load 26 (.tmp 8), _, _, _, _⟩) rfl (by kernel_rfl) (by kernel_rfl) (by kernel_rfl) (fun _ _ _ h => h) (yieldsIf_load_w (by rfl) 26 (.tmp 8) rfl ⟨g8, 0, none⟩ rfl _ _ (fun W hW => Blk.all hW.1) Tryd.underlying26 rfl (by rw [length_ints, HLT.out]; kernel_rfl)) hS ?_
    simp only [Act.put, List.setIfInBounds_toArray, List.set_cons_zero, List.set_cons_succ]
    refine wpAnyH_take (i := 7) (oi := ⟨some 46, .load 26 (.tmp 9), _, _, _, _⟩) rfl (by kernel_rfl) (by kernel_rfl) (by kernel_rfl) (fun _ _ _ h => h) (yieldsIf_load_w (by rfl) 26 (.tmp 9) rfl ⟨g9, 0, none⟩ rfl _ _ (fun W hW => Blk.all hW.2) Tryd.underlying26 rfl (by rw [length_ints, HLT.out]; kernel_rfl)) hS ?_
    simp only [Act.put, List.setIfInBounds_toArray, List.set_cons_zero, List.set_cons_succ]
    have heq : ∀ W : World, (Op.equalIn 10000 26 (.agg (ints .u8 tg).toArray) (.agg (ints .u8 tg).toArray)).run Tryd.prog W = .ok true W := by
      obtain ⟨i0, hi0, _⟩ := info_parts infoU8
      exact fun W => run_eq_ints W 9998 Tryd.underlying26 hi0 (by kernel_rfl) Tryd.underlying5 _ HLT.out
    have HEQ := Lib.hid heq
    clear heq
    refine wpAnyH_ready (rs := [8]) (by kernel_rfl) (by simp) (AllReadyH.cons (o := ⟨some 47, .binOp .eql 26 (.tmp 45) (.tmp 46) 26, _, _, _, _⟩) rfl (fun K hK => ?_) AllReadyH.nil)
    go_simp
    rw [HEQ.out]
    go_simp
    refine hK.out _ _ hS (fun _ => ?_)
    clear hK K
    refine wpAnyH_take (i := 9) (oi := ⟨some 48, .pick (.tmp 44) (.tmp 47) (.const (.bool false)), _, _, _, _⟩) (v := .bool true) rfl (by kernel_rfl) (by kernel_rfl) (by kernel_rfl) (fun _ _ _ h => h) (Or.inl ⟨by rfl, by intro W hSw; clear hSw; go_simp⟩) hS ?_
    simp only [Act.put, List.setIfInBounds_toArray, List.set_cons_zero, List.set_cons_succ]
    refine wpAnyH_take (i := 10) (oi := ⟨some 6, .assign (.tmp 48), _, _, _, _⟩) (v := .bool true) rfl (by kernel_rfl) (by kernel_rfl) (by kernel_rfl) (fun _ _ _ h => h) (Or.inl ⟨by rfl, by intro W hSw; clear hSw; go_simp⟩) hS ?_
    simp only [Act.put, List.setIfInBounds_toArray, List.set_cons_zero, List.set_cons_succ]
    refine wpAnyH_done (by kernel_rfl) ?_ _
    go_wp2
    go_ret
    exact ⟨rfl, hbw6⟩
theorem walk (k : Option Addr) (kn kc : Nat) (key : List Nat) (a : Option Addr) (n c : Nat) (msg : List Nat) (z : Int) (w : World) (hK : Reads .u8 w k kn kc key) (hr : Reads .u8 w a n c msg) (hz : (Lit.int .u16 z).wf = true) (kt : KT w) :
    Calls Tryd.prog 3 #[.slice k kn kc, .slice a n c, .int .u16 z] w fun e w' => e = .returned (.bool true) ∧ Below w.heap.size w w' := by
  by_cases hbig : 200 < kn ∨ 200 < n
  · exact walk_big k kn kc a n c z w kt hbig
  · have h : 0 ≤ z ∧ z < 65536 := by simp [Lit.wf, IntKind.min, IntKind.max, IntKind.signed, IntKind.bits] at hz; omega
    obtain ⟨m, rfl⟩ := Int.eq_ofNat_of_zero_le h.1
    exact walk_small k kn kc key a n c msg m w kt hK hr (by omega) (by omega) (by omega)
end Go.Proofs.YtbaahdhimolllaaDoor.hmacSums
