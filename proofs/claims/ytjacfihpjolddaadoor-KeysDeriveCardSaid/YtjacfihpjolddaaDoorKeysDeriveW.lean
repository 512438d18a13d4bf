/- The walk through KeysDerive: for every secret and numbers it returns true and leaves old memory as it was. Conditions: the table of the rounds' constants lies as the program lays it. -/
import Derived.Test.YtjacfihpjolddaaDoorAwake5
namespace Go.Proofs.YtjacfihpjolddaaDoor.keysDerive
open Go.ChangeShapes Go.WideShapes Go.RowKit
def C (l : List Nat) (a b : Int) : List (Value → World → Prop) := [fun v _ => v = .agg (ints .u8 l).toArray,
  fun v _ => v = .int .i64 a,
  fun v _ => v = .int .i64 b,
  fun v _ => v = .agg (ints .u8 (keyL l packetS [a, b])).toArray,
  fun v _ => v = .agg (ints .u8 l).toArray,
  fun v _ => v = .int .i64 a,
  fun v _ => v = .int .i64 b,
  rowZ 2 [a, b],
  fun v _ => v = .agg (ints .u8 (keyL l packetS [a, b])).toArray,
  fun v _ => v = .bool true,
  fun v _ => v = .bool true,
  fun v _ => v = .agg (ints .u8 l).toArray,
  fun v _ => v = .int .i64 a,
  fun v _ => v = .agg (ints .u8 (keyL l ticketS [a])).toArray,
  fun v _ => v = .agg (ints .u8 l).toArray,
  fun v _ => v = .int .i64 a,
  rowZ 1 [a],
  fun v _ => v = .agg (ints .u8 (keyL l ticketS [a])).toArray,
  fun v _ => v = .bool true,
  fun v _ => v = .bool true,
  fun v _ => v = .bool true,
  fun v _ => v = .agg (ints .u8 l).toArray,
  fun v _ => v = .int .i64 a,
  fun v _ => v = .int .i64 b,
  fun v _ => v = .agg (ints .u8 (keyL l deviceS [a, b])).toArray,
  fun v _ => v = .agg (ints .u8 l).toArray,
  fun v _ => v = .int .i64 a,
  fun v _ => v = .int .i64 b,
  rowZ 2 [a, b],
  fun v _ => v = .agg (ints .u8 (keyL l deviceS [a, b])).toArray,
  fun v _ => v = .bool true,
  fun v _ => v = .bool true,
  fun v _ => v = .bool true]
theorem C_stable (l : List Nat) (a b : Int) : ∀ p ∈ C l a b, Stable p := (stable_cons (stable_eq _) (stable_cons (stable_eq _) (stable_cons (stable_eq _) (stable_cons (stable_eq _) (stable_cons (stable_eq _) (stable_cons (stable_eq _) (stable_cons (stable_eq _) (stable_cons stable_rowZ (stable_cons (stable_eq _) (stable_cons (stable_eq _) (stable_cons (stable_eq _) (stable_cons (stable_eq _) (stable_cons (stable_eq _) (stable_cons (stable_eq _) (stable_cons (stable_eq _) (stable_cons (stable_eq _) (stable_cons stable_rowZ (stable_cons (stable_eq _) (stable_cons (stable_eq _) (stable_cons (stable_eq _) (stable_cons (stable_eq _) (stable_cons (stable_eq _) (stable_cons (stable_eq _) (stable_cons (stable_eq _) (stable_cons (stable_eq _) (stable_cons (stable_eq _) (stable_cons (stable_eq _) (stable_cons (stable_eq _) (stable_cons stable_rowZ (stable_cons (stable_eq _) (stable_cons (stable_eq _) (stable_cons (stable_eq _) (stable_cons (stable_eq _) stable_nil)))))))))))))))))))))))))))))))))
set_option maxRecDepth 100000 in
set_option maxHeartbeats 6400000 in
theorem walk (l : List Nat) (a b : Int) (w : World) (hl : l.length = 32) (hlw0 : ∀ x ∈ l, (Lit.int .u8 (x : Int)).wf = true) (ha : (Lit.int .i64 a).wf = true) (hb : (Lit.int .i64 b).wf = true) (kt : KT w) :
    Calls Tryd.prog 3 #[.agg (ints .u8 l).toArray, .int .i64 a, .int .i64 b] w fun e w' => e = .returned (.bool true) ∧ Below w.heap.size w w' := by
  have HL := Lib.hid hl
  have HLW : Hid (∀ x ∈ l, x < 256) := fun x hx => wf_u8.1 (hlw0 x hx)
  have HA := Lib.hid ha
  have HBB := Lib.hid hb
  clear hl hlw0 ha hb
  have HNp : Hid (strL ⟨#[112, 97, 99, 107, 101, 116]⟩ = packetS) := by show _ = _; decide
  have HEQp : Hid (∀ W : World, (Op.equalIn 10000 23 (.agg (ints .u8 (keyL l packetS [a, b])).toArray) (.agg (ints .u8 (keyL l packetS [a, b])).toArray)).run Tryd.prog W = .ok true W) := fun W => (eq_keys _ _ (length_keyL _ _ _) (length_keyL _ _ _) W).trans (by rw [decide_eq_true rfl])
  have HNt : Hid (strL ⟨#[116, 105, 99, 107, 101, 116]⟩ = ticketS) := by show _ = _; decide
  have HEQt : Hid (∀ W : World, (Op.equalIn 10000 23 (.agg (ints .u8 (keyL l ticketS [a])).toArray) (.agg (ints .u8 (keyL l ticketS [a])).toArray)).run Tryd.prog W = .ok true W) := fun W => (eq_keys _ _ (length_keyL _ _ _) (length_keyL _ _ _) W).trans (by rw [decide_eq_true rfl])
  have HNd : Hid (strL ⟨#[100, 101, 118, 105, 99, 101]⟩ = deviceS) := by show _ = _; decide
  have HEQd : Hid (∀ W : World, (Op.equalIn 10000 23 (.agg (ints .u8 (keyL l deviceS [a, b])).toArray) (.agg (ints .u8 (keyL l deviceS [a, b])).toArray)).run Tryd.prog W = .ok true W) := fun W => (eq_keys _ _ (length_keyL _ _ _) (length_keyL _ _ _) W).trans (by rw [decide_eq_true rfl])
  go_enter Tryd.func3, Tryd.ntmps3
  go_upto_region 1 with (fail)
  refine name_wp (fun w1 => Blk w1 w.heap.size 23 (ints .u8 l) ∧ Below w.heap.size w w1) ⟨Blk.new _ _ (ints .u8 l), (Below.refl _ _).alloc (Nat.le_refl _) _⟩ ?_
  rintro w1 ⟨hb1, hbel1⟩
  have hk1 := kt.below hbel1
  go_wp2_with fail
  refine (awake5_c _ hk1).mono ?_
  rintro e w2 ⟨rfl, hbel2⟩
  have hb2 := hb1.below hbel2 hb1.lt
  have hk2 := hk1.below hbel2
  have hbw2 := hbel1.trans (hbel2.mono hbel1.size)
  clear hb1 hbel1 hbel2 hk1 kt
  go_upto_region 3 with (fail)
  refine wp_region_any (by kernel_rfl) ?_
  change wpAny _ _ _ _ _ _ _ (World.drew _)
  have HB := Lib.hid hb2.drew
  have HKT := Lib.hid (hk2.below (Below.refl _ _).drew)
  have hbw3 := hbw2.drew
  clear hb2 hk2 hbw2
  refine wpAny_relyG (g := 0) [(0, 9), (1, 10), (2, 11), (3, 12), (4, 13), (5, 14), (6, 15), (7, 16), (8, 17), (9, 18), (10, 19), (11, 20), (12, 21), (13, 22), (14, 23), (15, 24), (16, 25), (17, 26), (18, 27), (19, 28), (20, 29), (21, 30), (22, 31), (23, 32), (24, 33), (25, 34), (26, 35), (27, 36), (28, 37), (29, 38), (30, 39), (31, 40), (32, 6)] (condAt (C l a b)) [] (by kernel_rfl) rfl (condAt_keep (C_stable l a b)) ?hstep ?hend
  case hstep =>
    intro p hp o ho x W hbel hdep K hK
    simp only [List.mem_cons, List.not_mem_nil, or_false] at hp
    rcases hp with rfl | rfl | rfl | rfl | rfl | rfl | rfl | rfl | rfl | rfl | rfl | rfl | rfl | rfl | rfl | rfl | rfl | rfl | rfl | rfl | rfl | rfl | rfl | rfl | rfl | rfl | rfl | rfl | rfl | rfl | rfl | rfl | rfl
    · cases Option.some.inj ho
      simp only [frm, List.foldl_cons, List.foldl_nil, Act.put, List.setIfInBounds_toArray, List.set_cons_zero, List.set_cons_succ] at hK ⊢
      clear hdep ho
      rw [if_pos (by rfl)]
      exact wp_load_all 23 (.tmp 3) rfl _ rfl _ _ (HB.out.below hbel HB.out.lt) _ Tryd.underlying23 rfl (by rw [length_ints, HL.out]; kernel_rfl) (hK _ _ rfl (Below.refl _ _) (by simp))
    · cases Option.some.inj ho
      simp only [frm, List.foldl_cons, List.foldl_nil, Act.put, List.setIfInBounds_toArray, List.set_cons_zero, List.set_cons_succ] at hK ⊢
      clear hdep ho
      rw [if_pos (by rfl)]
      go_simp
      exact hK _ _ rfl (Below.refl _ _) (by simp)
    · cases Option.some.inj ho
      simp only [frm, List.foldl_cons, List.foldl_nil, Act.put, List.setIfInBounds_toArray, List.set_cons_zero, List.set_cons_succ] at hK ⊢
      clear hdep ho
      rw [if_pos (by rfl)]
      go_simp
      exact hK _ _ rfl (Below.refl _ _) (by simp)
    · cases Option.some.inj ho
      have d0 : x 0 = .agg (ints .u8 l).toArray := hdep ⟨0, .data⟩ (by simp) rfl rfl
      have d1 : x 1 = .int .i64 a := hdep ⟨1, .data⟩ (by simp) rfl rfl
      have d2 : x 2 = .int .i64 b := hdep ⟨2, .data⟩ (by simp) rfl rfl
      simp only [frm, List.foldl_cons, List.foldl_nil, Act.put, List.setIfInBounds_toArray, List.set_cons_zero, List.set_cons_succ] at hK ⊢
      clear hdep ho
      rw [d0, d1, d2] at hK ⊢
      clear d0 d1 d2
      rw [if_pos (by rfl)]
      go_simp
      refine (packet_c l a b _ HL.out HLW.out (HA.out) (HBB.out) (HKT.out.below hbel)).mono ?_
      rintro e w' ⟨rfl, hb⟩
      exact hK _ _ rfl hb (by simp)
    · cases Option.some.inj ho
      simp only [frm, List.foldl_cons, List.foldl_nil, Act.put, List.setIfInBounds_toArray, List.set_cons_zero, List.set_cons_succ] at hK ⊢
      clear hdep ho
      rw [if_pos (by rfl)]
      exact wp_load_all 23 (.tmp 3) rfl _ rfl _ _ (HB.out.below hbel HB.out.lt) _ Tryd.underlying23 rfl (by rw [length_ints, HL.out]; kernel_rfl) (hK _ _ rfl (Below.refl _ _) (by simp))
    · cases Option.some.inj ho
      simp only [frm, List.foldl_cons, List.foldl_nil, Act.put, List.setIfInBounds_toArray, List.set_cons_zero, List.set_cons_succ] at hK ⊢
      clear hdep ho
      rw [if_pos (by rfl)]
      go_simp
      exact hK _ _ rfl (Below.refl _ _) (by simp)
    · cases Option.some.inj ho
      simp only [frm, List.foldl_cons, List.foldl_nil, Act.put, List.setIfInBounds_toArray, List.set_cons_zero, List.set_cons_succ] at hK ⊢
      clear hdep ho
      rw [if_pos (by rfl)]
      go_simp
      exact hK _ _ rfl (Below.refl _ _) (by simp)
    · cases Option.some.inj ho
      have d5 : x 5 = .int .i64 a := hdep ⟨5, .data⟩ (by simp) rfl rfl
      have d6 : x 6 = .int .i64 b := hdep ⟨6, .data⟩ (by simp) rfl rfl
      simp only [frm, List.foldl_cons, List.foldl_nil, Act.put, List.setIfInBounds_toArray, List.set_cons_zero, List.set_cons_succ] at hK ⊢
      clear hdep ho
      rw [d5, d6] at hK ⊢
      clear d5 d6
      rw [if_pos (by rfl)]
      go_simp
      exact hK _ _ ⟨_, rfl, readsZ_new (ns := [a, b]) rfl (by decide) (wf_two HA.out HBB.out)⟩ ((Below.refl _ _).alloc (Nat.le_refl _) _) (by simp)
    · cases Option.some.inj ho
      have d4 : x 4 = .agg (ints .u8 l).toArray := hdep ⟨4, .data⟩ (by simp) rfl rfl
      have h7 : rowZ 2 [a, b] (x 7) W := hdep ⟨7, .data⟩ (by simp) rfl rfl
      simp only [frm, List.foldl_cons, List.foldl_nil, Act.put, List.setIfInBounds_toArray, List.set_cons_zero, List.set_cons_succ] at hK ⊢
      clear hdep ho
      rw [d4] at hK ⊢
      clear d4
      rw [if_pos (by rfl)]
      obtain ⟨g, d7, ra⟩ := h7
      rw [d7] at hK ⊢
      clear d7
      go_simp
      refine (refKey_c l _ _ 2 2 [a, b] _ HL.out HLW.out ra (by decide) (by decide)).mono ?_
      rintro e w' ⟨rfl, hb⟩
      rw [HNp.out]
      exact hK _ _ rfl hb (by simp)
    · cases Option.some.inj ho
      have d3 : x 3 = .agg (ints .u8 (keyL l packetS [a, b])).toArray := hdep ⟨3, .data⟩ (by simp) rfl rfl
      have d8 : x 8 = .agg (ints .u8 (keyL l packetS [a, b])).toArray := hdep ⟨8, .data⟩ (by simp) rfl rfl
      simp only [frm, List.foldl_cons, List.foldl_nil, Act.put, List.setIfInBounds_toArray, List.set_cons_zero, List.set_cons_succ] at hK ⊢
      clear hdep ho
      rw [d3, d8] at hK ⊢
      clear d3 d8
      rw [if_pos (by rfl)]
      go_simp
      rw [HEQp.out]
      go_simp
      exact hK _ _ rfl (Below.refl _ _) (by simp)
    · cases Option.some.inj ho
      have d9 : x 9 = .bool true := hdep ⟨9, .data⟩ (by simp) rfl rfl
      simp only [frm, List.foldl_cons, List.foldl_nil, Act.put, List.setIfInBounds_toArray, List.set_cons_zero, List.set_cons_succ] at hK ⊢
      clear hdep ho
      rw [d9] at hK ⊢
      clear d9
      rw [if_pos (by rfl)]
      go_simp
      exact hK _ _ rfl (Below.refl _ _) (by simp)
    · cases Option.some.inj ho
      have d10 : x 10 = .bool true := hdep ⟨10, .guard⟩ (by simp) rfl rfl
      simp only [frm, List.foldl_cons, List.foldl_nil, Act.put, List.setIfInBounds_toArray, List.set_cons_zero, List.set_cons_succ] at hK ⊢
      clear hdep ho
      rw [d10] at hK ⊢
      clear d10
      rw [if_pos (by rfl)]
      exact wp_load_all 23 (.tmp 3) rfl _ rfl _ _ (HB.out.below hbel HB.out.lt) _ Tryd.underlying23 rfl (by rw [length_ints, HL.out]; kernel_rfl) (hK _ _ rfl (Below.refl _ _) (by simp))
    · cases Option.some.inj ho
      have d10 : x 10 = .bool true := hdep ⟨10, .guard⟩ (by simp) rfl rfl
      simp only [frm, List.foldl_cons, List.foldl_nil, Act.put, List.setIfInBounds_toArray, List.set_cons_zero, List.set_cons_succ] at hK ⊢
      clear hdep ho
      rw [d10] at hK ⊢
      clear d10
      rw [if_pos (by rfl)]
      go_simp
      exact hK _ _ rfl (Below.refl _ _) (by simp)
    · cases Option.some.inj ho
      have d11 : x 11 = .agg (ints .u8 l).toArray := hdep ⟨11, .data⟩ (by simp) rfl rfl
      have d12 : x 12 = .int .i64 a := hdep ⟨12, .data⟩ (by simp) rfl rfl
      have d10 : x 10 = .bool true := hdep ⟨10, .guard⟩ (by simp) rfl rfl
      simp only [frm, List.foldl_cons, List.foldl_nil, Act.put, List.setIfInBounds_toArray, List.set_cons_zero, List.set_cons_succ] at hK ⊢
      clear hdep ho
      rw [d11, d12, d10] at hK ⊢
      clear d11 d12 d10
      rw [if_pos (by rfl)]
      go_simp
      refine (ticket_c l a _ HL.out HLW.out (HA.out) (HKT.out.below hbel)).mono ?_
      rintro e w' ⟨rfl, hb⟩
      exact hK _ _ rfl hb (by simp)
    · cases Option.some.inj ho
      have d10 : x 10 = .bool true := hdep ⟨10, .guard⟩ (by simp) rfl rfl
      simp only [frm, List.foldl_cons, List.foldl_nil, Act.put, List.setIfInBounds_toArray, List.set_cons_zero, List.set_cons_succ] at hK ⊢
      clear hdep ho
      rw [d10] at hK ⊢
      clear d10
      rw [if_pos (by rfl)]
      exact wp_load_all 23 (.tmp 3) rfl _ rfl _ _ (HB.out.below hbel HB.out.lt) _ Tryd.underlying23 rfl (by rw [length_ints, HL.out]; kernel_rfl) (hK _ _ rfl (Below.refl _ _) (by simp))
    · cases Option.some.inj ho
      have d10 : x 10 = .bool true := hdep ⟨10, .guard⟩ (by simp) rfl rfl
      simp only [frm, List.foldl_cons, List.foldl_nil, Act.put, List.setIfInBounds_toArray, List.set_cons_zero, List.set_cons_succ] at hK ⊢
      clear hdep ho
      rw [d10] at hK ⊢
      clear d10
      rw [if_pos (by rfl)]
      go_simp
      exact hK _ _ rfl (Below.refl _ _) (by simp)
    · cases Option.some.inj ho
      have d15 : x 15 = .int .i64 a := hdep ⟨15, .data⟩ (by simp) rfl rfl
      have d10 : x 10 = .bool true := hdep ⟨10, .guard⟩ (by simp) rfl rfl
      simp only [frm, List.foldl_cons, List.foldl_nil, Act.put, List.setIfInBounds_toArray, List.set_cons_zero, List.set_cons_succ] at hK ⊢
      clear hdep ho
      rw [d15, d10] at hK ⊢
      clear d15 d10
      rw [if_pos (by rfl)]
      go_simp
      exact hK _ _ ⟨_, rfl, readsZ_new (ns := [a]) rfl (by decide) (wf_one HA.out)⟩ ((Below.refl _ _).alloc (Nat.le_refl _) _) (by simp)
    · cases Option.some.inj ho
      have d14 : x 14 = .agg (ints .u8 l).toArray := hdep ⟨14, .data⟩ (by simp) rfl rfl
      have h16 : rowZ 1 [a] (x 16) W := hdep ⟨16, .data⟩ (by simp) rfl rfl
      have d10 : x 10 = .bool true := hdep ⟨10, .guard⟩ (by simp) rfl rfl
      simp only [frm, List.foldl_cons, List.foldl_nil, Act.put, List.setIfInBounds_toArray, List.set_cons_zero, List.set_cons_succ] at hK ⊢
      clear hdep ho
      rw [d14, d10] at hK ⊢
      clear d14 d10
      rw [if_pos (by rfl)]
      obtain ⟨g, d16, ra⟩ := h16
      rw [d16] at hK ⊢
      clear d16
      go_simp
      refine (refKey_c l _ _ 1 1 [a] _ HL.out HLW.out ra (by decide) (by decide)).mono ?_
      rintro e w' ⟨rfl, hb⟩
      rw [HNt.out]
      exact hK _ _ rfl hb (by simp)
    · cases Option.some.inj ho
      have d13 : x 13 = .agg (ints .u8 (keyL l ticketS [a])).toArray := hdep ⟨13, .data⟩ (by simp) rfl rfl
      have d17 : x 17 = .agg (ints .u8 (keyL l ticketS [a])).toArray := hdep ⟨17, .data⟩ (by simp) rfl rfl
      have d10 : x 10 = .bool true := hdep ⟨10, .guard⟩ (by simp) rfl rfl
      simp only [frm, List.foldl_cons, List.foldl_nil, Act.put, List.setIfInBounds_toArray, List.set_cons_zero, List.set_cons_succ] at hK ⊢
      clear hdep ho
      rw [d13, d17, d10] at hK ⊢
      clear d13 d17 d10
      rw [if_pos (by rfl)]
      go_simp
      rw [HEQt.out]
      go_simp
      exact hK _ _ rfl (Below.refl _ _) (by simp)
    · cases Option.some.inj ho
      have d10 : x 10 = .bool true := hdep ⟨10, .data⟩ (by simp) rfl rfl
      have d18 : x 18 = .bool true := hdep ⟨18, .data⟩ (by simp) rfl rfl
      simp only [frm, List.foldl_cons, List.foldl_nil, Act.put, List.setIfInBounds_toArray, List.set_cons_zero, List.set_cons_succ] at hK ⊢
      clear hdep ho
      rw [d10, d18] at hK ⊢
      clear d10 d18
      rw [if_pos (by rfl)]
      go_simp
      exact hK _ _ rfl (Below.refl _ _) (by simp)
    · cases Option.some.inj ho
      have d19 : x 19 = .bool true := hdep ⟨19, .data⟩ (by simp) rfl rfl
      simp only [frm, List.foldl_cons, List.foldl_nil, Act.put, List.setIfInBounds_toArray, List.set_cons_zero, List.set_cons_succ] at hK ⊢
      clear hdep ho
      rw [d19] at hK ⊢
      clear d19
      rw [if_pos (by rfl)]
      go_simp
      exact hK _ _ rfl (Below.refl _ _) (by simp)
    · cases Option.some.inj ho
      have d20 : x 20 = .bool true := hdep ⟨20, .guard⟩ (by simp) rfl rfl
      simp only [frm, List.foldl_cons, List.foldl_nil, Act.put, List.setIfInBounds_toArray, List.set_cons_zero, List.set_cons_succ] at hK ⊢
      clear hdep ho
      rw [d20] at hK ⊢
      clear d20
      rw [if_pos (by rfl)]
      exact wp_load_all 23 (.tmp 3) rfl _ rfl _ _ (HB.out.below hbel HB.out.lt) _ Tryd.underlying23 rfl (by rw [length_ints, HL.out]; kernel_rfl) (hK _ _ rfl (Below.refl _ _) (by simp))
    · cases Option.some.inj ho
      have d20 : x 20 = .bool true := hdep ⟨20, .guard⟩ (by simp) rfl rfl
      simp only [frm, List.foldl_cons, List.foldl_nil, Act.put, List.setIfInBounds_toArray, List.set_cons_zero, List.set_cons_succ] at hK ⊢
      clear hdep ho
      rw [d20] at hK ⊢
      clear d20
      rw [if_pos (by rfl)]
      go_simp
      exact hK _ _ rfl (Below.refl _ _) (by simp)
    · cases Option.some.inj ho
      have d20 : x 20 = .bool true := hdep ⟨20, .guard⟩ (by simp) rfl rfl
      simp only [frm, List.foldl_cons, List.foldl_nil, Act.put, List.setIfInBounds_toArray, List.set_cons_zero, List.set_cons_succ] at hK ⊢
      clear hdep ho
      rw [d20] at hK ⊢
      clear d20
      rw [if_pos (by rfl)]
      go_simp
      exact hK _ _ rfl (Below.refl _ _) (by simp)
    · cases Option.some.inj ho
      have d21 : x 21 = .agg (ints .u8 l).toArray := hdep ⟨21, .data⟩ (by simp) rfl rfl
      have d22 : x 22 = .int .i64 a := hdep ⟨22, .data⟩ (by simp) rfl rfl
      have d23 : x 23 = .int .i64 b := hdep ⟨23, .data⟩ (by simp) rfl rfl
      have d20 : x 20 = .bool true := hdep ⟨20, .guard⟩ (by simp) rfl rfl
      simp only [frm, List.foldl_cons, List.foldl_nil, Act.put, List.setIfInBounds_toArray, List.set_cons_zero, List.set_cons_succ] at hK ⊢
      clear hdep ho
      rw [d21, d22, d23, d20] at hK ⊢
      clear d21 d22 d23 d20
      rw [if_pos (by rfl)]
      go_simp
      refine (device_c l a b _ HL.out HLW.out (HA.out) (HBB.out) (HKT.out.below hbel)).mono ?_
      rintro e w' ⟨rfl, hb⟩
      exact hK _ _ rfl hb (by simp)
    · cases Option.some.inj ho
      have d20 : x 20 = .bool true := hdep ⟨20, .guard⟩ (by simp) rfl rfl
      simp only [frm, List.foldl_cons, List.foldl_nil, Act.put, List.setIfInBounds_toArray, List.set_cons_zero, List.set_cons_succ] at hK ⊢
      clear hdep ho
      rw [d20] at hK ⊢
      clear d20
      rw [if_pos (by rfl)]
      exact wp_load_all 23 (.tmp 3) rfl _ rfl _ _ (HB.out.below hbel HB.out.lt) _ Tryd.underlying23 rfl (by rw [length_ints, HL.out]; kernel_rfl) (hK _ _ rfl (Below.refl _ _) (by simp))
    · cases Option.some.inj ho
      have d20 : x 20 = .bool true := hdep ⟨20, .guard⟩ (by simp) rfl rfl
      simp only [frm, List.foldl_cons, List.foldl_nil, Act.put, List.setIfInBounds_toArray, List.set_cons_zero, List.set_cons_succ] at hK ⊢
      clear hdep ho
      rw [d20] at hK ⊢
      clear d20
      rw [if_pos (by rfl)]
      go_simp
      exact hK _ _ rfl (Below.refl _ _) (by simp)
    · cases Option.some.inj ho
      have d20 : x 20 = .bool true := hdep ⟨20, .guard⟩ (by simp) rfl rfl
      simp only [frm, List.foldl_cons, List.foldl_nil, Act.put, List.setIfInBounds_toArray, List.set_cons_zero, List.set_cons_succ] at hK ⊢
      clear hdep ho
      rw [d20] at hK ⊢
      clear d20
      rw [if_pos (by rfl)]
      go_simp
      exact hK _ _ rfl (Below.refl _ _) (by simp)
    · cases Option.some.inj ho
      have d26 : x 26 = .int .i64 a := hdep ⟨26, .data⟩ (by simp) rfl rfl
      have d27 : x 27 = .int .i64 b := hdep ⟨27, .data⟩ (by simp) rfl rfl
      have d20 : x 20 = .bool true := hdep ⟨20, .guard⟩ (by simp) rfl rfl
      simp only [frm, List.foldl_cons, List.foldl_nil, Act.put, List.setIfInBounds_toArray, List.set_cons_zero, List.set_cons_succ] at hK ⊢
      clear hdep ho
      rw [d26, d27, d20] at hK ⊢
      clear d26 d27 d20
      rw [if_pos (by rfl)]
      go_simp
      exact hK _ _ ⟨_, rfl, readsZ_new (ns := [a, b]) rfl (by decide) (wf_two HA.out HBB.out)⟩ ((Below.refl _ _).alloc (Nat.le_refl _) _) (by simp)
    · cases Option.some.inj ho
      have d25 : x 25 = .agg (ints .u8 l).toArray := hdep ⟨25, .data⟩ (by simp) rfl rfl
      have h28 : rowZ 2 [a, b] (x 28) W := hdep ⟨28, .data⟩ (by simp) rfl rfl
      have d20 : x 20 = .bool true := hdep ⟨20, .guard⟩ (by simp) rfl rfl
      simp only [frm, List.foldl_cons, List.foldl_nil, Act.put, List.setIfInBounds_toArray, List.set_cons_zero, List.set_cons_succ] at hK ⊢
      clear hdep ho
      rw [d25, d20] at hK ⊢
      clear d25 d20
      rw [if_pos (by rfl)]
      obtain ⟨g, d28, ra⟩ := h28
      rw [d28] at hK ⊢
      clear d28
      go_simp
      refine (refKey_c l _ _ 2 2 [a, b] _ HL.out HLW.out ra (by decide) (by decide)).mono ?_
      rintro e w' ⟨rfl, hb⟩
      rw [HNd.out]
      exact hK _ _ rfl hb (by simp)
    · cases Option.some.inj ho
      have d24 : x 24 = .agg (ints .u8 (keyL l deviceS [a, b])).toArray := hdep ⟨24, .data⟩ (by simp) rfl rfl
      have d29 : x 29 = .agg (ints .u8 (keyL l deviceS [a, b])).toArray := hdep ⟨29, .data⟩ (by simp) rfl rfl
      have d20 : x 20 = .bool true := hdep ⟨20, .guard⟩ (by simp) rfl rfl
      simp only [frm, List.foldl_cons, List.foldl_nil, Act.put, List.setIfInBounds_toArray, List.set_cons_zero, List.set_cons_succ] at hK ⊢
      clear hdep ho
      rw [d24, d29, d20] at hK ⊢
      clear d24 d29 d20
      rw [if_pos (by rfl)]
      go_simp
      rw [HEQd.out]
      go_simp
      exact hK _ _ rfl (Below.refl _ _) (by simp)
    · cases Option.some.inj ho
      have d20 : x 20 = .bool true := hdep ⟨20, .data⟩ (by simp) rfl rfl
      have d30 : x 30 = .bool true := hdep ⟨30, .data⟩ (by simp) rfl rfl
      simp only [frm, List.foldl_cons, List.foldl_nil, Act.put, List.setIfInBounds_toArray, List.set_cons_zero, List.set_cons_succ] at hK ⊢
      clear hdep ho
      rw [d20, d30] at hK ⊢
      clear d20 d30
      rw [if_pos (by rfl)]
      go_simp
      exact hK _ _ rfl (Below.refl _ _) (by simp)
    · cases Option.some.inj ho
      have d31 : x 31 = .bool true := hdep ⟨31, .data⟩ (by simp) rfl rfl
      simp only [frm, List.foldl_cons, List.foldl_nil, Act.put, List.setIfInBounds_toArray, List.set_cons_zero, List.set_cons_succ] at hK ⊢
      clear hdep ho
      rw [d31] at hK ⊢
      clear d31
      rw [if_pos (by rfl)]
      go_simp
      exact hK _ _ rfl (Below.refl _ _) (by simp)
  case hend =>
    intro x W hbel hall _
    have d32 : x 32 = .bool true := hall (32, 6) (by simp)
    simp only [frm, List.foldl_cons, List.foldl_nil, Act.put, List.setIfInBounds_toArray, List.set_cons_zero, List.set_cons_succ]
    rw [d32]
    clear hall d32
    generalize x 0 = z0
    generalize x 1 = z1
    generalize x 2 = z2
    generalize x 3 = z3
    generalize x 4 = z4
    generalize x 5 = z5
    generalize x 6 = z6
    generalize x 7 = z7
    generalize x 8 = z8
    generalize x 9 = z9
    generalize x 10 = z10
    generalize x 11 = z11
    generalize x 12 = z12
    generalize x 13 = z13
    generalize x 14 = z14
    generalize x 15 = z15
    generalize x 16 = z16
    generalize x 17 = z17
    generalize x 18 = z18
    generalize x 19 = z19
    generalize x 20 = z20
    generalize x 21 = z21
    generalize x 22 = z22
    generalize x 23 = z23
    generalize x 24 = z24
    generalize x 25 = z25
    generalize x 26 = z26
    generalize x 27 = z27
    generalize x 28 = z28
    generalize x 29 = z29
    generalize x 30 = z30
    generalize x 31 = z31
    refine wpAny_done (by kernel_rfl) ?_ _
    have hbw := hbw3.trans (hbel.mono hbw3.size)
    go_wp2
    go_ret
    exact ⟨rfl, hbw⟩
end Go.Proofs.YtjacfihpjolddaaDoor.keysDerive
