/- The walk through CellRight: for every cell it returns true and leaves old memory as it was. Conditions: none. -/
import Derived.Test.YtbmnpbmimhodbaaAwake9
import Derived.Test.YtbmnpbmimhodbaaCell1
import Derived.Test.YtbmnpbmimhodbaaOpen5
import Derived.Test.YtbmnpbmimhodbaaRely2
namespace Go.Proofs.Ytbmnpbmimhodbaa.cellRight
open Go.ChangeShapes Go.WideShapes Go.RowKit
def C (r x y z : Int) (B Q : Bool) (g1 : Nat) : List (Value → World → Prop) := [fun v _ => v = .agg #[.int .i32 r, .int .i64 x, .int .i64 y, .int .i64 z],
  fun v _ => v = .bool B,
  fun v _ => v = .agg #[.int .i32 r, .int .i64 x, .int .i64 y, .int .i64 z],
  fun v _ => v = .bool B,
  fun v _ => v = .bool true,
  fun v _ => v = .bool true,
  fun v _ => v = .pointer (some ⟨g1, 1, none⟩),
  fun v _ => v = .agg #[.int .i64 x, .int .i64 y, .int .i64 z],
  fun v _ => v = .bool Q,
  fun v _ => v = .pointer (some ⟨g1, 1, none⟩),
  fun v _ => v = .agg #[.int .i64 x, .int .i64 y, .int .i64 z],
  fun v _ => v = .agg #[.int .i32 97, .int .i64 x, .int .i64 y, .int .i64 z],
  fun v _ => v = .bool Q,
  fun v _ => v = .bool true,
  fun v _ => v = .bool true,
  fun v _ => v = .bool true,
  fun v _ => v = .agg #[.int .i32 32, .int .i64 0, .int .i64 y, .int .i64 0],
  fun v _ => v = .pointer (some ⟨g1, 1, none⟩),
  fun v _ => v = .pointer (some ⟨g1, 2, none⟩),
  fun v _ => v = .int .i64 y,
  fun v _ => v = .agg #[.int .i64 0, .int .i64 y, .int .i64 0],
  fun v _ => v = .agg #[.int .i32 32, .int .i64 0, .int .i64 y, .int .i64 0],
  fun v _ => v = .bool true,
  fun v _ => v = .bool true,
  fun v _ => v = .bool true]
theorem C_stable (r x y z : Int) (B Q : Bool) (g1 : Nat) : ∀ p ∈ C r x y z B Q g1, Stable p := (stable_cons (stable_eq _) (stable_cons (stable_eq _) (stable_cons (stable_eq _) (stable_cons (stable_eq _) (stable_cons (stable_eq _) (stable_cons (stable_eq _) (stable_cons (stable_eq _) (stable_cons (stable_eq _) (stable_cons (stable_eq _) (stable_cons (stable_eq _) (stable_cons (stable_eq _) (stable_cons (stable_eq _) (stable_cons (stable_eq _) (stable_cons (stable_eq _) (stable_cons (stable_eq _) (stable_cons (stable_eq _) (stable_cons (stable_eq _) (stable_cons (stable_eq _) (stable_cons (stable_eq _) (stable_cons (stable_eq _) (stable_cons (stable_eq _) (stable_cons (stable_eq _) (stable_cons (stable_eq _) (stable_cons (stable_eq _) (stable_cons (stable_eq _) stable_nil)))))))))))))))))))))))))
set_option maxRecDepth 100000 in
set_option maxHeartbeats 6400000 in
theorem walk (c : CellV) (w : World) (hf : fitC c) :
    Calls Try.prog 3 #[.agg (cellV c).toArray] w fun e w' => e = .returned (.bool true) ∧ Below w.heap.size w w' := by
  have HR : Hid (∀ W, Calls Try.prog 9 #[.agg (cellV c).toArray] W (BoolPost W (okC c))) := fun W => right_c c W
  have HRR : Hid (∀ W, Calls Try.prog 10 #[.agg (cellV c).toArray] W (BoolPost W (okC c))) := fun W => refRight_c c W hf.1
  have HP : Hid (∀ W, Calls Try.prog 11 #[.agg #[.int .i64 c.2.1, .int .i64 c.2.2.1, .int .i64 c.2.2.2]] W (BoolPost W (penOk c.2))) := fun W => pen_c c.2 W
  have HRP : Hid (∀ W, Calls Try.prog 10 #[.agg (cellV (97, c.2)).toArray] W (BoolPost W (penOk c.2))) := fun W => by
    have h := refRight_c (97, c.2) W (by simp only; omega)
    rwa [show okC (97, c.2) = penOk c.2 by simp [okC, runeOk]] at h
  have HBl : Hid (∀ W, Calls Try.prog 8 #[.agg #[.int .i64 c.2.1, .int .i64 c.2.2.1, .int .i64 c.2.2.2]] W fun en w' => en = .returned (.agg (cellV (32, 0, c.2.2.1, 0)).toArray) ∧ Below W.heap.size W w') := fun W => blank_c c.2 W
  obtain ⟨B, hB⟩ : ∃ B, Hid (okC c = B) := ⟨_, rfl⟩
  obtain ⟨Q, hQ⟩ : ∃ B, Hid (penOk c.2 = B) := ⟨_, rfl⟩
  rw [hB.out] at HR HRR
  rw [hQ.out] at HP HRP
  clear hB hQ hf
  obtain ⟨r, x, y, z⟩ := c
  simp only [cellV] at *
  go_enter Try.func3, Try.ntmps3
  go_upto_region 1 with (fail)
  refine name_wp (fun w1 => Blk w1 w.heap.size 25 (cellV (r, x, y, z)) ∧ Below w.heap.size w w1) ⟨Blk.new _ _ _, alloc_below' _ _⟩ ?_
  rintro w1 ⟨hb1, hbel1⟩
  go_wp2_with fail
  refine (awake9_c _).mono ?_
  rintro e w2 ⟨rfl, hbel2⟩
  have hb2 := hb1.below hbel2 hb1.lt
  have hbw2 := hbel1.trans (hbel2.mono hbel1.size)
  clear hb1 hbel1 hbel2
  obtain ⟨x0, x1, x2, x3⟩ := fourB hb2
  generalize hg1 : w.heap.size = g1 at hb2 x0 x1 x2 x3 ⊢
  simp only at x0 x1 x2 x3
  go_wp2_with fail
  refine (HBl.out _).mono ?_
  rintro e w3 ⟨rfl, hbel3⟩
  go_upto_region 4 with (fail)
  refine name_wp (fun w5 => Blk w5 g1 25 (cellV (r, x, y, z)) ∧ Blk w5 w3.heap.size 25 (cellV (32, 0, y, 0)) ∧ Below w.heap.size w w5) ⟨(hb2.below hbel3 hb2.lt).alloc _, Blk.new _ _ _, (hbw2.trans (hbel3.mono hbw2.size)).alloc (Nat.le_trans hbw2.size hbel3.size) _⟩ ?_
  rintro w5 ⟨hb5, hb53, hbw5⟩
  clear hbel3 hb2 hbw2 x0 x1 x2 x3
  generalize hg3 : w3.heap.size = g3 at hb53 ⊢
  refine wp_region_any (by kernel_rfl) ?_
  change wpAny _ _ _ _ _ _ _ (World.drew _)
  have HB := Lib.hid hb5.drew
  have HB3 := Lib.hid hb53.drew
  have hbw3 := hbw5.drew
  clear hb5 hb53 hbw5
  refine wpAny_relyG (g := 0) [(0, 9), (1, 10), (2, 11), (3, 12), (4, 13), (5, 14), (6, 15), (7, 16), (8, 17), (9, 18), (10, 19), (11, 20), (12, 21), (13, 22), (14, 23), (15, 24), (16, 25), (17, 26), (18, 27), (19, 28), (20, 29), (21, 30), (22, 31), (23, 32), (24, 2)] (condAt (C r x y z B Q g1)) [] (by kernel_rfl) rfl (condAt_keep (C_stable r x y z B Q g1)) ?hstep ?hend
  case hstep =>
    intro p hp o ho X W hbel hdep K hK
    obtain ⟨x0, x1, x2, x3⟩ := fourB (HB.out.below hbel HB.out.lt)
    obtain ⟨y0, y1, y2, y3⟩ := fourB (HB3.out.below hbel HB3.out.lt)
    simp only at x0 x1 x2 x3 y0 y1 y2 y3
    simp only [List.mem_cons, List.not_mem_nil, or_false] at hp
    rcases hp with rfl | rfl | rfl | rfl | rfl | rfl | rfl | rfl | rfl | rfl | rfl | rfl | rfl | rfl | rfl | rfl | rfl | rfl | rfl | rfl | rfl | rfl | rfl | rfl | rfl
    · cases Option.some.inj ho
      simp only [frm, List.foldl_cons, List.foldl_nil, Act.put, List.setIfInBounds_toArray, List.set_cons_zero, List.set_cons_succ] at hK ⊢
      clear hdep ho
      rw [if_pos (by rfl)]
      go_simp
      exact hK _ _ rfl (Below.refl _ _) (by simp)
    · cases Option.some.inj ho
      have d0 : X 0 = .agg #[.int .i32 r, .int .i64 x, .int .i64 y, .int .i64 z] := hdep ⟨0, .data⟩ (by simp) rfl rfl
      simp only [frm, List.foldl_cons, List.foldl_nil, Act.put, List.setIfInBounds_toArray, List.set_cons_zero, List.set_cons_succ] at hK ⊢
      clear hdep ho
      rw [d0] at hK ⊢
      clear d0
      rw [if_pos (by rfl)]
      go_simp
      refine (HR.out _).mono ?_
      rintro e w' ⟨rfl, hb⟩
      exact hK _ _ rfl hb (by simp)
    · cases Option.some.inj ho
      simp only [frm, List.foldl_cons, List.foldl_nil, Act.put, List.setIfInBounds_toArray, List.set_cons_zero, List.set_cons_succ] at hK ⊢
      clear hdep ho
      rw [if_pos (by rfl)]
      go_simp
      exact hK _ _ rfl (Below.refl _ _) (by simp)
    · cases Option.some.inj ho
      have d2 : X 2 = .agg #[.int .i32 r, .int .i64 x, .int .i64 y, .int .i64 z] := hdep ⟨2, .data⟩ (by simp) rfl rfl
      simp only [frm, List.foldl_cons, List.foldl_nil, Act.put, List.setIfInBounds_toArray, List.set_cons_zero, List.set_cons_succ] at hK ⊢
      clear hdep ho
      rw [d2] at hK ⊢
      clear d2
      rw [if_pos (by rfl)]
      go_simp
      refine (HRR.out _).mono ?_
      rintro e w' ⟨rfl, hb⟩
      exact hK _ _ rfl hb (by simp)
    · cases Option.some.inj ho
      have d1 : X 1 = .bool B := hdep ⟨1, .data⟩ (by simp) rfl rfl
      have d3 : X 3 = .bool B := hdep ⟨3, .data⟩ (by simp) rfl rfl
      simp only [frm, List.foldl_cons, List.foldl_nil, Act.put, List.setIfInBounds_toArray, List.set_cons_zero, List.set_cons_succ] at hK ⊢
      clear hdep ho
      rw [d1, d3] at hK ⊢
      clear d1 d3
      rw [if_pos (by rfl)]
      go_simp
      exact hK _ _ rfl (Below.refl _ _) (by simp)
    · cases Option.some.inj ho
      have d4 : X 4 = .bool true := hdep ⟨4, .data⟩ (by simp) rfl rfl
      simp only [frm, List.foldl_cons, List.foldl_nil, Act.put, List.setIfInBounds_toArray, List.set_cons_zero, List.set_cons_succ] at hK ⊢
      clear hdep ho
      rw [d4] at hK ⊢
      clear d4
      rw [if_pos (by rfl)]
      go_simp
      exact hK _ _ rfl (Below.refl _ _) (by simp)
    · cases Option.some.inj ho
      have d5 : X 5 = .bool true := hdep ⟨5, .guard⟩ (by simp) rfl rfl
      simp only [frm, List.foldl_cons, List.foldl_nil, Act.put, List.setIfInBounds_toArray, List.set_cons_zero, List.set_cons_succ] at hK ⊢
      clear hdep ho
      rw [d5] at hK ⊢
      clear d5
      rw [if_pos (by rfl)]
      go_simp
      exact hK _ _ rfl (Below.refl _ _) (by simp)
    · cases Option.some.inj ho
      have d6 : X 6 = .pointer (some ⟨g1, 1, none⟩) := hdep ⟨6, .data⟩ (by simp) rfl rfl
      have d5 : X 5 = .bool true := hdep ⟨5, .guard⟩ (by simp) rfl rfl
      simp only [frm, List.foldl_cons, List.foldl_nil, Act.put, List.setIfInBounds_toArray, List.set_cons_zero, List.set_cons_succ] at hK ⊢
      clear hdep ho
      rw [d6, d5] at hK ⊢
      clear d6 d5
      rw [if_pos (by rfl)]
      go_simp
      exact hK _ _ rfl (Below.refl _ _) (by simp)
    · cases Option.some.inj ho
      have d7 : X 7 = .agg #[.int .i64 x, .int .i64 y, .int .i64 z] := hdep ⟨7, .data⟩ (by simp) rfl rfl
      have d5 : X 5 = .bool true := hdep ⟨5, .guard⟩ (by simp) rfl rfl
      simp only [frm, List.foldl_cons, List.foldl_nil, Act.put, List.setIfInBounds_toArray, List.set_cons_zero, List.set_cons_succ] at hK ⊢
      clear hdep ho
      rw [d7, d5] at hK ⊢
      clear d7 d5
      rw [if_pos (by rfl)]
      go_simp
      refine (HP.out _).mono ?_
      rintro e w' ⟨rfl, hb⟩
      exact hK _ _ rfl hb (by simp)
    · cases Option.some.inj ho
      have d5 : X 5 = .bool true := hdep ⟨5, .guard⟩ (by simp) rfl rfl
      simp only [frm, List.foldl_cons, List.foldl_nil, Act.put, List.setIfInBounds_toArray, List.set_cons_zero, List.set_cons_succ] at hK ⊢
      clear hdep ho
      rw [d5] at hK ⊢
      clear d5
      rw [if_pos (by rfl)]
      go_simp
      exact hK _ _ rfl (Below.refl _ _) (by simp)
    · cases Option.some.inj ho
      have d9 : X 9 = .pointer (some ⟨g1, 1, none⟩) := hdep ⟨9, .data⟩ (by simp) rfl rfl
      have d5 : X 5 = .bool true := hdep ⟨5, .guard⟩ (by simp) rfl rfl
      simp only [frm, List.foldl_cons, List.foldl_nil, Act.put, List.setIfInBounds_toArray, List.set_cons_zero, List.set_cons_succ] at hK ⊢
      clear hdep ho
      rw [d9, d5] at hK ⊢
      clear d9 d5
      rw [if_pos (by rfl)]
      go_simp
      exact hK _ _ rfl (Below.refl _ _) (by simp)
    · cases Option.some.inj ho
      have d10 : X 10 = .agg #[.int .i64 x, .int .i64 y, .int .i64 z] := hdep ⟨10, .data⟩ (by simp) rfl rfl
      have d5 : X 5 = .bool true := hdep ⟨5, .guard⟩ (by simp) rfl rfl
      simp only [frm, List.foldl_cons, List.foldl_nil, Act.put, List.setIfInBounds_toArray, List.set_cons_zero, List.set_cons_succ] at hK ⊢
      clear hdep ho
      rw [d10, d5] at hK ⊢
      clear d10 d5
      rw [if_pos (by rfl)]
      go_simp
      exact hK _ _ rfl (Below.refl _ _) (by simp)
    · cases Option.some.inj ho
      have d11 : X 11 = .agg #[.int .i32 97, .int .i64 x, .int .i64 y, .int .i64 z] := hdep ⟨11, .data⟩ (by simp) rfl rfl
      have d5 : X 5 = .bool true := hdep ⟨5, .guard⟩ (by simp) rfl rfl
      simp only [frm, List.foldl_cons, List.foldl_nil, Act.put, List.setIfInBounds_toArray, List.set_cons_zero, List.set_cons_succ] at hK ⊢
      clear hdep ho
      rw [d11, d5] at hK ⊢
      clear d11 d5
      rw [if_pos (by rfl)]
      go_simp
      refine (HRP.out _).mono ?_
      rintro e w' ⟨rfl, hb⟩
      exact hK _ _ rfl hb (by simp)
    · cases Option.some.inj ho
      have d8 : X 8 = .bool Q := hdep ⟨8, .data⟩ (by simp) rfl rfl
      have d12 : X 12 = .bool Q := hdep ⟨12, .data⟩ (by simp) rfl rfl
      have d5 : X 5 = .bool true := hdep ⟨5, .guard⟩ (by simp) rfl rfl
      simp only [frm, List.foldl_cons, List.foldl_nil, Act.put, List.setIfInBounds_toArray, List.set_cons_zero, List.set_cons_succ] at hK ⊢
      clear hdep ho
      rw [d8, d12, d5] at hK ⊢
      clear d8 d12 d5
      rw [if_pos (by rfl)]
      go_simp
      exact hK _ _ rfl (Below.refl _ _) (by simp)
    · cases Option.some.inj ho
      have d5 : X 5 = .bool true := hdep ⟨5, .data⟩ (by simp) rfl rfl
      have d13 : X 13 = .bool true := hdep ⟨13, .data⟩ (by simp) rfl rfl
      simp only [frm, List.foldl_cons, List.foldl_nil, Act.put, List.setIfInBounds_toArray, List.set_cons_zero, List.set_cons_succ] at hK ⊢
      clear hdep ho
      rw [d5, d13] at hK ⊢
      clear d5 d13
      rw [if_pos (by rfl)]
      go_simp
      exact hK _ _ rfl (Below.refl _ _) (by simp)
    · cases Option.some.inj ho
      have d14 : X 14 = .bool true := hdep ⟨14, .data⟩ (by simp) rfl rfl
      simp only [frm, List.foldl_cons, List.foldl_nil, Act.put, List.setIfInBounds_toArray, List.set_cons_zero, List.set_cons_succ] at hK ⊢
      clear hdep ho
      rw [d14] at hK ⊢
      clear d14
      rw [if_pos (by rfl)]
      go_simp
      exact hK _ _ rfl (Below.refl _ _) (by simp)
    · cases Option.some.inj ho
      have d15 : X 15 = .bool true := hdep ⟨15, .guard⟩ (by simp) rfl rfl
      simp only [frm, List.foldl_cons, List.foldl_nil, Act.put, List.setIfInBounds_toArray, List.set_cons_zero, List.set_cons_succ] at hK ⊢
      clear hdep ho
      rw [d15] at hK ⊢
      clear d15
      rw [if_pos (by rfl)]
      go_simp
      exact hK _ _ rfl (Below.refl _ _) (by simp)
    · cases Option.some.inj ho
      have d15 : X 15 = .bool true := hdep ⟨15, .guard⟩ (by simp) rfl rfl
      simp only [frm, List.foldl_cons, List.foldl_nil, Act.put, List.setIfInBounds_toArray, List.set_cons_zero, List.set_cons_succ] at hK ⊢
      clear hdep ho
      rw [d15] at hK ⊢
      clear d15
      rw [if_pos (by rfl)]
      go_simp
      exact hK _ _ rfl (Below.refl _ _) (by simp)
    · cases Option.some.inj ho
      have d17 : X 17 = .pointer (some ⟨g1, 1, none⟩) := hdep ⟨17, .data⟩ (by simp) rfl rfl
      have d15 : X 15 = .bool true := hdep ⟨15, .guard⟩ (by simp) rfl rfl
      simp only [frm, List.foldl_cons, List.foldl_nil, Act.put, List.setIfInBounds_toArray, List.set_cons_zero, List.set_cons_succ] at hK ⊢
      clear hdep ho
      rw [d17, d15] at hK ⊢
      clear d17 d15
      rw [if_pos (by rfl)]
      go_simp
      exact hK _ _ rfl (Below.refl _ _) (by simp)
    · cases Option.some.inj ho
      have d18 : X 18 = .pointer (some ⟨g1, 2, none⟩) := hdep ⟨18, .data⟩ (by simp) rfl rfl
      have d15 : X 15 = .bool true := hdep ⟨15, .guard⟩ (by simp) rfl rfl
      simp only [frm, List.foldl_cons, List.foldl_nil, Act.put, List.setIfInBounds_toArray, List.set_cons_zero, List.set_cons_succ] at hK ⊢
      clear hdep ho
      rw [d18, d15] at hK ⊢
      clear d18 d15
      rw [if_pos (by rfl)]
      go_simp
      exact hK _ _ rfl (Below.refl _ _) (by simp)
    · cases Option.some.inj ho
      have d19 : X 19 = .int .i64 y := hdep ⟨19, .data⟩ (by simp) rfl rfl
      have d15 : X 15 = .bool true := hdep ⟨15, .guard⟩ (by simp) rfl rfl
      simp only [frm, List.foldl_cons, List.foldl_nil, Act.put, List.setIfInBounds_toArray, List.set_cons_zero, List.set_cons_succ] at hK ⊢
      clear hdep ho
      rw [d19, d15] at hK ⊢
      clear d19 d15
      rw [if_pos (by rfl)]
      go_simp
      exact hK _ _ rfl (Below.refl _ _) (by simp)
    · cases Option.some.inj ho
      have d20 : X 20 = .agg #[.int .i64 0, .int .i64 y, .int .i64 0] := hdep ⟨20, .data⟩ (by simp) rfl rfl
      have d15 : X 15 = .bool true := hdep ⟨15, .guard⟩ (by simp) rfl rfl
      simp only [frm, List.foldl_cons, List.foldl_nil, Act.put, List.setIfInBounds_toArray, List.set_cons_zero, List.set_cons_succ] at hK ⊢
      clear hdep ho
      rw [d20, d15] at hK ⊢
      clear d20 d15
      rw [if_pos (by rfl)]
      go_simp
      exact hK _ _ rfl (Below.refl _ _) (by simp)
    · cases Option.some.inj ho
      have d16 : X 16 = .agg #[.int .i32 32, .int .i64 0, .int .i64 y, .int .i64 0] := hdep ⟨16, .data⟩ (by simp) rfl rfl
      have d21 : X 21 = .agg #[.int .i32 32, .int .i64 0, .int .i64 y, .int .i64 0] := hdep ⟨21, .data⟩ (by simp) rfl rfl
      have d15 : X 15 = .bool true := hdep ⟨15, .guard⟩ (by simp) rfl rfl
      simp only [frm, List.foldl_cons, List.foldl_nil, Act.put, List.setIfInBounds_toArray, List.set_cons_zero, List.set_cons_succ] at hK ⊢
      clear hdep ho
      rw [d16, d21, d15] at hK ⊢
      clear d16 d21 d15
      rw [if_pos (by rfl)]
      go_simp
      exact hK _ _ rfl (Below.refl _ _) (by simp)
    · cases Option.some.inj ho
      have d15 : X 15 = .bool true := hdep ⟨15, .data⟩ (by simp) rfl rfl
      have d22 : X 22 = .bool true := hdep ⟨22, .data⟩ (by simp) rfl rfl
      simp only [frm, List.foldl_cons, List.foldl_nil, Act.put, List.setIfInBounds_toArray, List.set_cons_zero, List.set_cons_succ] at hK ⊢
      clear hdep ho
      rw [d15, d22] at hK ⊢
      clear d15 d22
      rw [if_pos (by rfl)]
      go_simp
      exact hK _ _ rfl (Below.refl _ _) (by simp)
    · cases Option.some.inj ho
      have d23 : X 23 = .bool true := hdep ⟨23, .data⟩ (by simp) rfl rfl
      simp only [frm, List.foldl_cons, List.foldl_nil, Act.put, List.setIfInBounds_toArray, List.set_cons_zero, List.set_cons_succ] at hK ⊢
      clear hdep ho
      rw [d23] at hK ⊢
      clear d23
      rw [if_pos (by rfl)]
      go_simp
      exact hK _ _ rfl (Below.refl _ _) (by simp)
  case hend =>
    intro X W hbel hall _
    have d24 : X 24 = .bool true := hall (24, 2) (by simp)
    simp only [frm, List.foldl_cons, List.foldl_nil, Act.put, List.setIfInBounds_toArray, List.set_cons_zero, List.set_cons_succ]
    rw [d24]
    clear hall d24
    generalize X 0 = z0
    generalize X 1 = z1
    generalize X 2 = z2
    generalize X 3 = z3
    generalize X 4 = z4
    generalize X 5 = z5
    generalize X 6 = z6
    generalize X 7 = z7
    generalize X 8 = z8
    generalize X 9 = z9
    generalize X 10 = z10
    generalize X 11 = z11
    generalize X 12 = z12
    generalize X 13 = z13
    generalize X 14 = z14
    generalize X 15 = z15
    generalize X 16 = z16
    generalize X 17 = z17
    generalize X 18 = z18
    generalize X 19 = z19
    generalize X 20 = z20
    generalize X 21 = z21
    generalize X 22 = z22
    generalize X 23 = z23
    refine wpAny_done (by kernel_rfl) ?_ _
    have hbw := hbw3.trans (hbel.mono hbw3.size)
    go_wp2
    go_ret
    exact ⟨rfl, hbw⟩
end Go.Proofs.Ytbmnpbmimhodbaa.cellRight
