/- awake, the check of the page's example in the statements of layer 5, returns true in every world in which the table of the rounds' constants lies as the program lays it, and changes nothing that was there. Conditions: that table. -/
import Derived.Test.YtjacfihpjolddaaDoorKeys2
import Derived.Test.YtjacfihpjolddaaDoorKeysR
import Derived.Test.YtjacfihpjolddaaDoorRely2
namespace Go.Proofs.YtjacfihpjolddaaDoor
open Go.ChangeShapes Go.WideShapes Go.RowKit
def rowZ (n : Nat) (ns : List Int) (v : Value) (W : World) : Prop := ∃ g, v = .slice (some ⟨g, 0, none⟩) n n ∧ ReadsZ .i64 W (some ⟨g, 0, none⟩) n n ns
theorem stable_rowZ {n : Nat} {ns : List Int} : Stable (rowZ n ns) := by
  rintro v w w' ⟨g, e, h⟩ hb
  exact ⟨g, e, h.keep hb⟩
theorem eq_keys (a b : List Nat) (ha : a.length = 32) (hb : b.length = 32) (W : World) : (Op.equalIn 10000 23 (.agg (ints .u8 a).toArray) (.agg (ints .u8 b).toArray)).run Tryd.prog W = .ok (decide (a = b)) W := by
  obtain ⟨i0, hi0, _⟩ := info_parts infoU8
  exact run_eq_dec W 9998 Tryd.underlying23 hi0 (by kernel_rfl) Tryd.underlying5 a b ha hb
namespace awake5
def C (zs : List Nat) : List (Value → World → Prop) := [fun v _ => v = .agg (ints .u8 zs).toArray,
  fun v _ => v = .agg (ints .u8 zs).toArray,
  fun v _ => v = .agg (ints .u8 (keyL zs ticketS [7])).toArray,
  fun v _ => v = .bool true,
  fun v _ => v = .bool true,
  fun v _ => v = .agg (ints .u8 zs).toArray,
  fun v _ => v = .agg (ints .u8 (keyL zs packetS [1, 0])).toArray,
  fun v _ => v = .agg (ints .u8 zs).toArray,
  rowZ 2 [1, 0],
  fun v _ => v = .agg (ints .u8 (keyL zs packetS [1, 0])).toArray,
  fun v _ => v = .bool true,
  fun v _ => v = .bool true,
  fun v _ => v = .bool true]
theorem C_stable (zs : List Nat) : ∀ p ∈ C zs, Stable p := (stable_cons (stable_eq _) (stable_cons (stable_eq _) (stable_cons (stable_eq _) (stable_cons (stable_eq _) (stable_cons (stable_eq _) (stable_cons (stable_eq _) (stable_cons (stable_eq _) (stable_cons (stable_eq _) (stable_cons stable_rowZ (stable_cons (stable_eq _) (stable_cons (stable_eq _) (stable_cons (stable_eq _) (stable_cons (stable_eq _) stable_nil)))))))))))))
end awake5
set_option maxRecDepth 100000 in
set_option maxHeartbeats 3200000 in
theorem awake5_c (w : World) (hk : KT w) : Calls Tryd.prog 6 #[] w fun e w' => e = .returned (.bool true) ∧ Below w.heap.size w w' := by
  obtain ⟨zs, hz⟩ : ∃ zs : List Nat, Hid (List.replicate 32 0 = zs) := ⟨_, rfl⟩
  have HZL : Hid (zs.length = 32) := by show _ = _; rw [← hz.out]; decide
  have HZW : Hid (∀ x ∈ zs, x < 256) := by show ∀ x ∈ zs, x < 256; rw [← hz.out]; decide
  have HZI : Hid (zero32 = ints .u8 zs) := by show _ = _; rw [← hz.out]; rfl
  have HPN : Hid (strL ⟨#[112, 97, 99, 107, 101, 116]⟩ = packetS) := by show _ = _; decide
  have HEQ : Hid (∀ W : World, (Op.equalIn 10000 23 (.agg (ints .u8 (keyL zs packetS [1, 0])).toArray) (.agg (ints .u8 (keyL zs packetS [1, 0])).toArray)).run Tryd.prog W = .ok true W) := fun W => (eq_keys _ _ (length_keyL _ _ _) (length_keyL _ _ _) W).trans (by rw [decide_eq_true rfl])
  go_enter Tryd.func6, Tryd.ntmps6
  go_upto_region 2 with (fail)
  refine name_wp (fun w1 => Blk w1 w.heap.size 23 zero32 ∧ Below w.heap.size w w1) ⟨Blk.new _ _ zero32, (Below.refl _ _).alloc (Nat.le_refl _) _⟩ ?_
  rintro w1 ⟨hb1, hbel1⟩
  rw [HZI.out] at hb1
  refine wp_region_any (by kernel_rfl) ?_
  change wpAny _ _ _ _ _ _ _ (World.drew _)
  have H1 := Lib.hid hb1.drew
  have HKT := Lib.hid (hk.below hbel1.drew)
  have hbw1 := hbel1.drew
  clear hb1 hbel1 hk
  refine wpAny_relyG (g := 0) [(0, 2), (1, 3), (2, 4), (3, 5), (4, 6), (5, 7), (6, 8), (7, 9), (8, 10), (9, 11), (10, 12), (11, 13), (12, 0)] (condAt (awake5.C zs)) [] (by kernel_rfl) rfl (condAt_keep (awake5.C_stable zs)) ?hstep ?hend
  case hstep =>
    intro p hp o ho x W hbel hdep K hK
    simp only [List.mem_cons, List.not_mem_nil, or_false] at hp
    rcases hp with rfl | rfl | rfl | rfl | rfl | rfl | rfl | rfl | rfl | rfl | rfl | rfl | rfl
    · cases Option.some.inj ho
      simp only [frm, List.foldl_cons, List.foldl_nil, Act.put, List.setIfInBounds_toArray, List.set_cons_zero, List.set_cons_succ] at hK ⊢
      clear hdep ho
      rw [if_pos (by rfl)]
      exact wp_load_all 23 (.tmp 1) rfl _ rfl _ _ (H1.out.below hbel H1.out.lt) _ Tryd.underlying23 rfl (by rw [length_ints, HZL.out]; kernel_rfl) (hK _ _ rfl (Below.refl _ _) (by simp))
    · cases Option.some.inj ho
      simp only [frm, List.foldl_cons, List.foldl_nil, Act.put, List.setIfInBounds_toArray, List.set_cons_zero, List.set_cons_succ] at hK ⊢
      clear hdep ho
      rw [if_pos (by rfl)]
      exact wp_load_all 23 (.tmp 1) rfl _ rfl _ _ (H1.out.below hbel H1.out.lt) _ Tryd.underlying23 rfl (by rw [length_ints, HZL.out]; kernel_rfl) (hK _ _ rfl (Below.refl _ _) (by simp))
    · cases Option.some.inj ho
      have d1 : x 1 = .agg (ints .u8 zs).toArray := hdep ⟨1, .data⟩ (by simp) rfl rfl
      simp only [frm, List.foldl_cons, List.foldl_nil, Act.put, List.setIfInBounds_toArray, List.set_cons_zero, List.set_cons_succ] at hK ⊢
      clear hdep ho
      rw [d1] at hK ⊢
      clear d1
      rw [if_pos (by rfl)]
      go_simp
      refine (ticket_c zs 7 _ HZL.out HZW.out (by decide) (HKT.out.below hbel)).mono ?_
      rintro e w' ⟨rfl, hb⟩
      exact hK _ _ rfl hb (by simp)
    · cases Option.some.inj ho
      have d0 : x 0 = .agg (ints .u8 zs).toArray := hdep ⟨0, .data⟩ (by simp) rfl rfl
      have d2 : x 2 = .agg (ints .u8 (keyL zs ticketS [7])).toArray := hdep ⟨2, .data⟩ (by simp) rfl rfl
      simp only [frm, List.foldl_cons, List.foldl_nil, Act.put, List.setIfInBounds_toArray, List.set_cons_zero, List.set_cons_succ] at hK ⊢
      clear hdep ho
      rw [d0, d2] at hK ⊢
      clear d0 d2
      rw [if_pos (by rfl)]
      go_simp
      refine (known_c zs 7 _ _ HZL.out HZW.out (by decide) (length_keyL _ _ _) (keyL_lt _ _ _) (HKT.out.below hbel)).mono ?_
      rintro e w' ⟨rfl, hb⟩
      exact hK _ _ (congrArg Value.bool (decide_eq_true rfl)) hb (by simp)
    · cases Option.some.inj ho
      have d3 : x 3 = .bool true := hdep ⟨3, .data⟩ (by simp) rfl rfl
      simp only [frm, List.foldl_cons, List.foldl_nil, Act.put, List.setIfInBounds_toArray, List.set_cons_zero, List.set_cons_succ] at hK ⊢
      clear hdep ho
      rw [d3] at hK ⊢
      clear d3
      rw [if_pos (by rfl)]
      go_simp
      exact hK _ _ rfl (Below.refl _ _) (by simp)
    · cases Option.some.inj ho
      have d4 : x 4 = .bool true := hdep ⟨4, .guard⟩ (by simp) rfl rfl
      simp only [frm, List.foldl_cons, List.foldl_nil, Act.put, List.setIfInBounds_toArray, List.set_cons_zero, List.set_cons_succ] at hK ⊢
      clear hdep ho
      rw [d4] at hK ⊢
      clear d4
      rw [if_pos (by rfl)]
      exact wp_load_all 23 (.tmp 1) rfl _ rfl _ _ (H1.out.below hbel H1.out.lt) _ Tryd.underlying23 rfl (by rw [length_ints, HZL.out]; kernel_rfl) (hK _ _ rfl (Below.refl _ _) (by simp))
    · cases Option.some.inj ho
      have d5 : x 5 = .agg (ints .u8 zs).toArray := hdep ⟨5, .data⟩ (by simp) rfl rfl
      have d4 : x 4 = .bool true := hdep ⟨4, .guard⟩ (by simp) rfl rfl
      simp only [frm, List.foldl_cons, List.foldl_nil, Act.put, List.setIfInBounds_toArray, List.set_cons_zero, List.set_cons_succ] at hK ⊢
      clear hdep ho
      rw [d5, d4] at hK ⊢
      clear d5 d4
      rw [if_pos (by rfl)]
      go_simp
      refine (packet_c zs 1 0 _ HZL.out HZW.out (by decide) (by decide) (HKT.out.below hbel)).mono ?_
      rintro e w' ⟨rfl, hb⟩
      exact hK _ _ rfl hb (by simp)
    · cases Option.some.inj ho
      have d4 : x 4 = .bool true := hdep ⟨4, .guard⟩ (by simp) rfl rfl
      simp only [frm, List.foldl_cons, List.foldl_nil, Act.put, List.setIfInBounds_toArray, List.set_cons_zero, List.set_cons_succ] at hK ⊢
      clear hdep ho
      rw [d4] at hK ⊢
      clear d4
      rw [if_pos (by rfl)]
      exact wp_load_all 23 (.tmp 1) rfl _ rfl _ _ (H1.out.below hbel H1.out.lt) _ Tryd.underlying23 rfl (by rw [length_ints, HZL.out]; kernel_rfl) (hK _ _ rfl (Below.refl _ _) (by simp))
    · cases Option.some.inj ho
      have d4 : x 4 = .bool true := hdep ⟨4, .guard⟩ (by simp) rfl rfl
      simp only [frm, List.foldl_cons, List.foldl_nil, Act.put, List.setIfInBounds_toArray, List.set_cons_zero, List.set_cons_succ] at hK ⊢
      clear hdep ho
      rw [d4] at hK ⊢
      clear d4
      rw [if_pos (by rfl)]
      go_simp
      exact hK _ _ ⟨_, rfl, readsZ_new (ns := [1, 0]) rfl (by decide) (by decide)⟩ ((Below.refl _ _).alloc (Nat.le_refl _) _) (by simp)
    · cases Option.some.inj ho
      have d7 : x 7 = .agg (ints .u8 zs).toArray := hdep ⟨7, .data⟩ (by simp) rfl rfl
      have h8 : rowZ 2 [1, 0] (x 8) W := hdep ⟨8, .data⟩ (by simp) rfl rfl
      have d4 : x 4 = .bool true := hdep ⟨4, .guard⟩ (by simp) rfl rfl
      simp only [frm, List.foldl_cons, List.foldl_nil, Act.put, List.setIfInBounds_toArray, List.set_cons_zero, List.set_cons_succ] at hK ⊢
      clear hdep ho
      rw [d7, d4] at hK ⊢
      clear d7 d4
      rw [if_pos (by rfl)]
      obtain ⟨g, d8, ra8⟩ := h8
      rw [d8] at hK ⊢
      clear d8
      go_simp
      refine (refKey_c zs _ _ 2 2 [1, 0] _ HZL.out HZW.out ra8 (by decide) (by decide)).mono ?_
      rintro e w' ⟨rfl, hb⟩
      rw [HPN.out]
      exact hK _ _ rfl hb (by simp)
    · cases Option.some.inj ho
      have d6 : x 6 = .agg (ints .u8 (keyL zs packetS [1, 0])).toArray := hdep ⟨6, .data⟩ (by simp) rfl rfl
      have d9 : x 9 = .agg (ints .u8 (keyL zs packetS [1, 0])).toArray := hdep ⟨9, .data⟩ (by simp) rfl rfl
      have d4 : x 4 = .bool true := hdep ⟨4, .guard⟩ (by simp) rfl rfl
      simp only [frm, List.foldl_cons, List.foldl_nil, Act.put, List.setIfInBounds_toArray, List.set_cons_zero, List.set_cons_succ] at hK ⊢
      clear hdep ho
      rw [d6, d9, d4] at hK ⊢
      clear d6 d9 d4
      rw [if_pos (by rfl)]
      go_simp
      rw [HEQ.out]
      go_simp
      exact hK _ _ rfl (Below.refl _ _) (by simp)
    · cases Option.some.inj ho
      have d4 : x 4 = .bool true := hdep ⟨4, .data⟩ (by simp) rfl rfl
      have d10 : x 10 = .bool true := hdep ⟨10, .data⟩ (by simp) rfl rfl
      simp only [frm, List.foldl_cons, List.foldl_nil, Act.put, List.setIfInBounds_toArray, List.set_cons_zero, List.set_cons_succ] at hK ⊢
      clear hdep ho
      rw [d4, d10] at hK ⊢
      clear d4 d10
      rw [if_pos (by rfl)]
      go_simp
      exact hK _ _ rfl (Below.refl _ _) (by simp)
    · cases Option.some.inj ho
      have d11 : x 11 = .bool true := hdep ⟨11, .data⟩ (by simp) rfl rfl
      simp only [frm, List.foldl_cons, List.foldl_nil, Act.put, List.setIfInBounds_toArray, List.set_cons_zero, List.set_cons_succ] at hK ⊢
      clear hdep ho
      rw [d11] at hK ⊢
      clear d11
      rw [if_pos (by rfl)]
      go_simp
      exact hK _ _ rfl (Below.refl _ _) (by simp)
  case hend =>
    intro x W hbel hall _
    have d12 : x 12 = .bool true := hall (12, 0) (by simp)
    simp only [frm, List.foldl_cons, List.foldl_nil, Act.put, List.setIfInBounds_toArray, List.set_cons_zero, List.set_cons_succ]
    rw [d12]
    clear hall d12
    generalize x 0 = z0
    generalize x 1 = z1
    generalize x 2 = z2
    generalize x 3 = z3
    generalize x 4 = z4
    generalize x 5 = z5
    generalize x 6 = z6
    generalize x 7 = z7
    generalize x 8 = z8
    generalize x 9 = z9
    generalize x 10 = z10
    generalize x 11 = z11
    refine wpAny_done (by kernel_rfl) ?_ _
    have hbw := hbw1.trans (hbel.mono hbw1.size)
    go_wp2
    go_ret
    exact ⟨rfl, hbw⟩
end Go.Proofs.YtjacfihpjolddaaDoor
