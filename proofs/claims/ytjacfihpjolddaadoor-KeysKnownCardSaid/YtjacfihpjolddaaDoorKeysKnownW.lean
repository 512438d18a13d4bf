/- The walk through KeysKnown: for every secret, number and identifier it returns true and leaves old memory as it was. Conditions: the table of the rounds' constants lies as the program lays it. -/
import Derived.Test.YtjacfihpjolddaaDoorAwake5
namespace Go.Proofs.YtjacfihpjolddaaDoor.keysKnown
open Go.ChangeShapes Go.WideShapes Go.RowKit
def C (l : List Nat) (a : Int) (id : List Nat) : List (Value → World → Prop) := [fun v _ => v = .agg (ints .u8 l).toArray,
  fun v _ => v = .int .i64 a,
  fun v _ => v = .agg (ints .u8 id).toArray,
  fun v _ => v = .bool (decide (id = keyL l ticketS [a])),
  fun v _ => v = .agg (ints .u8 id).toArray,
  fun v _ => v = .agg (ints .u8 l).toArray,
  fun v _ => v = .int .i64 a,
  rowZ 1 [a],
  fun v _ => v = .agg (ints .u8 (keyL l ticketS [a])).toArray,
  fun v _ => v = .bool (decide (id = keyL l ticketS [a])),
  fun v _ => v = .bool true,
  fun v _ => v = .bool true]
theorem C_stable (l : List Nat) (a : Int) (id : List Nat) : ∀ p ∈ C l a id, Stable p := (stable_cons (stable_eq _) (stable_cons (stable_eq _) (stable_cons (stable_eq _) (stable_cons (stable_eq _) (stable_cons (stable_eq _) (stable_cons (stable_eq _) (stable_cons (stable_eq _) (stable_cons stable_rowZ (stable_cons (stable_eq _) (stable_cons (stable_eq _) (stable_cons (stable_eq _) (stable_cons (stable_eq _) stable_nil))))))))))))
set_option maxRecDepth 100000 in
set_option maxHeartbeats 6400000 in
theorem walk (l : List Nat) (a : Int) (id : List Nat) (w : World) (hl : l.length = 32) (hlw0 : ∀ x ∈ l, (Lit.int .u8 (x : Int)).wf = true) (ha : (Lit.int .i64 a).wf = true) (hil : id.length = 32) (hilw0 : ∀ x ∈ id, (Lit.int .u8 (x : Int)).wf = true) (kt : KT w) :
    Calls Tryd.prog 4 #[.agg (ints .u8 l).toArray, .int .i64 a, .agg (ints .u8 id).toArray] w fun e w' => e = .returned (.bool true) ∧ Below w.heap.size w w' := by
  have HL := Lib.hid hl
  have HLW : Hid (∀ x ∈ l, x < 256) := fun x hx => wf_u8.1 (hlw0 x hx)
  have HIL := Lib.hid hil
  have HILW : Hid (∀ x ∈ id, x < 256) := fun x hx => wf_u8.1 (hilw0 x hx)
  have HA := Lib.hid ha
  have HNt : Hid (strL ⟨#[116, 105, 99, 107, 101, 116]⟩ = ticketS) := by show _ = _; decide
  have HEQ : Hid (∀ W : World, (Op.equalIn 10000 23 (.agg (ints .u8 id).toArray) (.agg (ints .u8 (keyL l ticketS [a])).toArray)).run Tryd.prog W = .ok (decide (id = keyL l ticketS [a])) W) := fun W => eq_keys _ _ hil (length_keyL _ _ _) W
  clear hl hlw0 ha hil hilw0
  go_enter Tryd.func4, Tryd.ntmps4
  go_upto_region 1 with (fail)
  refine name_wp (fun w1 => Blk w1 w.heap.size 23 (ints .u8 l) ∧ Blk w1 (w.heap.size + 1) 23 (ints .u8 id) ∧ Below w.heap.size w w1) ⟨(Blk.new _ _ (ints .u8 l)).alloc _, ?_, ((Below.refl _ _).alloc (Nat.le_refl _) _).alloc (by simp) _⟩ ?_
  · have := Blk.new (w.alloc (.cells (ints .u8 l).toArray 23)) 23 (ints .u8 id)
    rw [World.size_alloc] at this
    exact this
  rintro w1 ⟨hb1, hb51, hbel1⟩
  have hk1 := kt.below hbel1
  go_wp2_with fail
  refine (awake5_c _ hk1).mono ?_
  rintro e w2 ⟨rfl, hbel2⟩
  have hb2 := hb1.below hbel2 hb1.lt
  have hb52 := hb51.below hbel2 hb51.lt
  have hk2 := hk1.below hbel2
  have hbw2 := hbel1.trans (hbel2.mono hbel1.size)
  clear hb1 hb51 hbel1 hbel2 hk1 kt
  go_upto_region 3 with (fail)
  refine wp_region_any (by kernel_rfl) ?_
  change wpAny _ _ _ _ _ _ _ (World.drew _)
  have HB := Lib.hid hb2.drew
  have HB5 := Lib.hid hb52.drew
  have HKT := Lib.hid (hk2.below (Below.refl _ _).drew)
  have hbw3 := hbw2.drew
  clear hb2 hb52 hk2 hbw2
  refine wpAny_relyG (g := 0) [(0, 9), (1, 10), (2, 11), (3, 12), (4, 13), (5, 14), (6, 15), (7, 16), (8, 17), (9, 18), (10, 19), (11, 6)] (condAt (C l a id)) [] (by kernel_rfl) rfl (condAt_keep (C_stable l a id)) ?hstep ?hend
  case hstep =>
    intro p hp o ho x W hbel hdep K hK
    simp only [List.mem_cons, List.not_mem_nil, or_false] at hp
    rcases hp with rfl | rfl | rfl | rfl | rfl | rfl | rfl | rfl | rfl | rfl | rfl | rfl
    · cases Option.some.inj ho
      simp only [frm, List.foldl_cons, List.foldl_nil, Act.put, List.setIfInBounds_toArray, List.set_cons_zero, List.set_cons_succ] at hK ⊢
      clear hdep ho
      rw [if_pos (by rfl)]
      exact wp_load_all 23 (.tmp 3) rfl _ rfl _ _ (HB.out.below hbel HB.out.lt) _ Tryd.underlying23 rfl (by rw [length_ints, HL.out]; kernel_rfl) (hK _ _ rfl (Below.refl _ _) (by simp))
    · cases Option.some.inj ho
      simp only [frm, List.foldl_cons, List.foldl_nil, Act.put, List.setIfInBounds_toArray, List.set_cons_zero, List.set_cons_succ] at hK ⊢
      clear hdep ho
      rw [if_pos (by rfl)]
      go_simp
      exact hK _ _ rfl (Below.refl _ _) (by simp)
    · cases Option.some.inj ho
      simp only [frm, List.foldl_cons, List.foldl_nil, Act.put, List.setIfInBounds_toArray, List.set_cons_zero, List.set_cons_succ] at hK ⊢
      clear hdep ho
      rw [if_pos (by rfl)]
      exact wp_load_all 23 (.tmp 5) rfl _ rfl _ _ (HB5.out.below hbel HB5.out.lt) _ Tryd.underlying23 rfl (by rw [length_ints, HIL.out]; kernel_rfl) (hK _ _ rfl (Below.refl _ _) (by simp))
    · cases Option.some.inj ho
      have d0 : x 0 = .agg (ints .u8 l).toArray := hdep ⟨0, .data⟩ (by simp) rfl rfl
      have d1 : x 1 = .int .i64 a := hdep ⟨1, .data⟩ (by simp) rfl rfl
      have d2 : x 2 = .agg (ints .u8 id).toArray := hdep ⟨2, .data⟩ (by simp) rfl rfl
      simp only [frm, List.foldl_cons, List.foldl_nil, Act.put, List.setIfInBounds_toArray, List.set_cons_zero, List.set_cons_succ] at hK ⊢
      clear hdep ho
      rw [d0, d1, d2] at hK ⊢
      clear d0 d1 d2
      rw [if_pos (by rfl)]
      go_simp
      refine (known_c l a id _ HL.out HLW.out HA.out HIL.out HILW.out (HKT.out.below hbel)).mono ?_
      rintro e w' ⟨rfl, hb⟩
      exact hK _ _ rfl hb (by simp)
    · cases Option.some.inj ho
      simp only [frm, List.foldl_cons, List.foldl_nil, Act.put, List.setIfInBounds_toArray, List.set_cons_zero, List.set_cons_succ] at hK ⊢
      clear hdep ho
      rw [if_pos (by rfl)]
      exact wp_load_all 23 (.tmp 5) rfl _ rfl _ _ (HB5.out.below hbel HB5.out.lt) _ Tryd.underlying23 rfl (by rw [length_ints, HIL.out]; kernel_rfl) (hK _ _ rfl (Below.refl _ _) (by simp))
    · cases Option.some.inj ho
      simp only [frm, List.foldl_cons, List.foldl_nil, Act.put, List.setIfInBounds_toArray, List.set_cons_zero, List.set_cons_succ] at hK ⊢
      clear hdep ho
      rw [if_pos (by rfl)]
      exact wp_load_all 23 (.tmp 3) rfl _ rfl _ _ (HB.out.below hbel HB.out.lt) _ Tryd.underlying23 rfl (by rw [length_ints, HL.out]; kernel_rfl) (hK _ _ rfl (Below.refl _ _) (by simp))
    · cases Option.some.inj ho
      simp only [frm, List.foldl_cons, List.foldl_nil, Act.put, List.setIfInBounds_toArray, List.set_cons_zero, List.set_cons_succ] at hK ⊢
      clear hdep ho
      rw [if_pos (by rfl)]
      go_simp
      exact hK _ _ rfl (Below.refl _ _) (by simp)
    · cases Option.some.inj ho
      have d6 : x 6 = .int .i64 a := hdep ⟨6, .data⟩ (by simp) rfl rfl
      simp only [frm, List.foldl_cons, List.foldl_nil, Act.put, List.setIfInBounds_toArray, List.set_cons_zero, List.set_cons_succ] at hK ⊢
      clear hdep ho
      rw [d6] at hK ⊢
      clear d6
      rw [if_pos (by rfl)]
      go_simp
      exact hK _ _ ⟨_, rfl, readsZ_new (ns := [a]) rfl (by decide) (wf_one HA.out)⟩ ((Below.refl _ _).alloc (Nat.le_refl _) _) (by simp)
    · cases Option.some.inj ho
      have d5 : x 5 = .agg (ints .u8 l).toArray := hdep ⟨5, .data⟩ (by simp) rfl rfl
      have h7 : rowZ 1 [a] (x 7) W := hdep ⟨7, .data⟩ (by simp) rfl rfl
      simp only [frm, List.foldl_cons, List.foldl_nil, Act.put, List.setIfInBounds_toArray, List.set_cons_zero, List.set_cons_succ] at hK ⊢
      clear hdep ho
      rw [d5] at hK ⊢
      clear d5
      rw [if_pos (by rfl)]
      obtain ⟨g, d7, ra⟩ := h7
      rw [d7] at hK ⊢
      clear d7
      go_simp
      refine (refKey_c l _ _ 1 1 [a] _ HL.out HLW.out ra (by decide) (by decide)).mono ?_
      rintro e w' ⟨rfl, hb⟩
      rw [HNt.out]
      exact hK _ _ rfl hb (by simp)
    · cases Option.some.inj ho
      have d4 : x 4 = .agg (ints .u8 id).toArray := hdep ⟨4, .data⟩ (by simp) rfl rfl
      have d8 : x 8 = .agg (ints .u8 (keyL l ticketS [a])).toArray := hdep ⟨8, .data⟩ (by simp) rfl rfl
      simp only [frm, List.foldl_cons, List.foldl_nil, Act.put, List.setIfInBounds_toArray, List.set_cons_zero, List.set_cons_succ] at hK ⊢
      clear hdep ho
      rw [d4, d8] at hK ⊢
      clear d4 d8
      rw [if_pos (by rfl)]
      go_simp
      rw [HEQ.out]
      go_simp
      exact hK _ _ rfl (Below.refl _ _) (by simp)
    · cases Option.some.inj ho
      have d3 : x 3 = .bool (decide (id = keyL l ticketS [a])) := hdep ⟨3, .data⟩ (by simp) rfl rfl
      have d9 : x 9 = .bool (decide (id = keyL l ticketS [a])) := hdep ⟨9, .data⟩ (by simp) rfl rfl
      simp only [frm, List.foldl_cons, List.foldl_nil, Act.put, List.setIfInBounds_toArray, List.set_cons_zero, List.set_cons_succ] at hK ⊢
      clear hdep ho
      rw [d3, d9] at hK ⊢
      clear d3 d9
      rw [if_pos (by rfl)]
      go_simp
      exact hK _ _ rfl (Below.refl _ _) (by simp)
    · cases Option.some.inj ho
      have d10 : x 10 = .bool true := hdep ⟨10, .data⟩ (by simp) rfl rfl
      simp only [frm, List.foldl_cons, List.foldl_nil, Act.put, List.setIfInBounds_toArray, List.set_cons_zero, List.set_cons_succ] at hK ⊢
      clear hdep ho
      rw [d10] at hK ⊢
      clear d10
      rw [if_pos (by rfl)]
      go_simp
      exact hK _ _ rfl (Below.refl _ _) (by simp)
  case hend =>
    intro x W hbel hall _
    have d11 : x 11 = .bool true := hall (11, 6) (by simp)
    simp only [frm, List.foldl_cons, List.foldl_nil, Act.put, List.setIfInBounds_toArray, List.set_cons_zero, List.set_cons_succ]
    rw [d11]
    clear hall d11
    generalize x 0 = z0
    generalize x 1 = z1
    generalize x 2 = z2
    generalize x 3 = z3
    generalize x 4 = z4
    generalize x 5 = z5
    generalize x 6 = z6
    generalize x 7 = z7
    generalize x 8 = z8
    generalize x 9 = z9
    generalize x 10 = z10
    refine wpAny_done (by kernel_rfl) ?_ _
    have hbw := hbw3.trans (hbel.mono hbw3.size)
    go_wp2
    go_ret
    exact ⟨rfl, hbw⟩
end Go.Proofs.YtjacfihpjolddaaDoor.keysKnown
