/- The walk through KeysApart: for every secret and two pairs of numbers it returns true and leaves old memory as it was. Conditions: the table of the rounds' constants lies as the program lays it. -/
import Derived.Test.YtjacfihpjolddaaDoorAwake5
namespace Go.Proofs.YtjacfihpjolddaaDoor.keysApart
open Go.ChangeShapes Go.WideShapes Go.RowKit
theorem refOf6 (s : ByteArray) (nm : List Nat) (A : Option Addr) (c : Nat) (x y : Int) (w : World) (hs : strL s = nm) (hn : nm.length = 6) (hw : ∀ z ∈ nm, z < 256) (hr : ReadsZ .i64 w A 2 c [x, y]) :
    Calls Tryd.prog 12 #[.string s, .slice A 2 c] w fun e w' => ∃ V d, e = .returned (.slice V 23 d) ∧ Reads .u8 w' V 23 d (ofL nm [x, y]) ∧ Below w.heap.size w w' := by
  have hl : s.size = 6 := by rw [← length_strL, hs, hn]
  refine (refOf_c s A 2 c [x, y] w hr (by omega) (by decide)).mono ?_
  rintro e w' ⟨v, rfl, hm⟩
  rw [hs, show (ofL nm [x, y]).length = 23 by rw [length_ofL, hn]; rfl] at hm
  obtain ⟨V, d, rfl, hr'⟩ := Reads.of_own hm.1 (fun z hz => wf_u8.2 (ofL_lt _ _ hw z hz))
  exact ⟨V, d, rfl, hr', hm.2⟩
theorem names_apart (a b x y : Int) : ¬ ofL packetS [a, b] = ofL deviceS [x, y] := by
  intro h
  have := congrArg List.head? h
  simp [ofL, packetS, deviceS] at this
def C3 (g4 g5 : Nat) (x0 x1 y0 y1 : Int) : List (Value → World → Prop) := [fun v _ => v = .slice (some ⟨g4, 0, none⟩) 2 2,
  (fun v W => ∃ A c, v = .slice A 23 c ∧ Reads .u8 W A 23 c (ofL packetS [x0, x1])),
  fun v _ => v = .slice (some ⟨g5, 0, none⟩) 2 2,
  (fun v W => ∃ A c, v = .slice A 23 c ∧ Reads .u8 W A 23 c (ofL packetS [y0, y1])),
  (fun v W => ∃ A c, v = .slice A 23 c ∧ Reads .u8 W A 23 c (ofL packetS [x0, x1])),
  (fun v W => ∃ A c, v = .slice A 23 c ∧ Reads .u8 W A 23 c (ofL packetS [y0, y1]))]
theorem C3_stable (g4 g5 : Nat) (x0 x1 y0 y1 : Int) : ∀ p ∈ C3 g4 g5 x0 x1 y0 y1, Stable p := (stable_cons (stable_eq _) (stable_cons stable_row (stable_cons (stable_eq _) (stable_cons stable_row (stable_cons stable_row (stable_cons stable_row stable_nil))))))
def C5 (A4 A5 A9 : Option Addr) (c4 c5 c9 : Nat) (x0 x1 y0 y1 : Int) (q : Bool) : List (Value → World → Prop) := [fun v _ => v = .slice A4 23 c4,
  fun v _ => v = .slice A5 23 c5,
  fun v _ => v = .bool q,
  fun v _ => v = .agg [.int .i64 x0, .int .i64 x1].toArray,
  fun v _ => v = .agg [.int .i64 y0, .int .i64 y1].toArray,
  fun v _ => v = .bool q,
  fun v _ => v = .bool false,
  fun v _ => v = .bool false,
  fun v _ => v = .slice A4 23 c4,
  fun v _ => v = .slice A9 23 c9,
  fun v _ => v = .bool false,
  fun v _ => v = .bool false]
theorem C5_stable (A4 A5 A9 : Option Addr) (c4 c5 c9 : Nat) (x0 x1 y0 y1 : Int) (q : Bool) : ∀ p ∈ C5 A4 A5 A9 c4 c5 c9 x0 x1 y0 y1 q, Stable p := (stable_cons (stable_eq _) (stable_cons (stable_eq _) (stable_cons (stable_eq _) (stable_cons (stable_eq _) (stable_cons (stable_eq _) (stable_cons (stable_eq _) (stable_cons (stable_eq _) (stable_cons (stable_eq _) (stable_cons (stable_eq _) (stable_cons (stable_eq _) (stable_cons (stable_eq _) (stable_cons (stable_eq _) stable_nil))))))))))))
def C7n (x0 x1 y0 y1 : Int) : List (Value → World → Prop) := [fun v _ => v = .agg [.int .i64 x0, .int .i64 x1].toArray,
  fun v _ => v = .agg [.int .i64 y0, .int .i64 y1].toArray,
  fun v _ => v = .bool true,
  fun v _ => v = .bool true,
  fun v _ => v = undef,
  fun v _ => v = undef,
  fun v _ => v = undef,
  fun v _ => v = undef,
  fun v _ => v = undef,
  fun v _ => v = undef,
  fun v _ => v = undef,
  fun v _ => v = undef,
  fun v _ => v = undef,
  fun v _ => v = undef,
  fun v _ => v = undef,
  fun v _ => v = undef,
  fun v _ => v = undef,
  fun v _ => v = .bool true,
  fun v _ => v = .bool true]
theorem C7n_stable (x0 x1 y0 y1 : Int) : ∀ p ∈ C7n x0 x1 y0 y1, Stable p := (stable_cons (stable_eq _) (stable_cons (stable_eq _) (stable_cons (stable_eq _) (stable_cons (stable_eq _) (stable_cons (stable_eq _) (stable_cons (stable_eq _) (stable_cons (stable_eq _) (stable_cons (stable_eq _) (stable_cons (stable_eq _) (stable_cons (stable_eq _) (stable_cons (stable_eq _) (stable_cons (stable_eq _) (stable_cons (stable_eq _) (stable_cons (stable_eq _) (stable_cons (stable_eq _) (stable_cons (stable_eq _) (stable_cons (stable_eq _) (stable_cons (stable_eq _) (stable_cons (stable_eq _) stable_nil)))))))))))))))))))
def C7y (l : List Nat) (g4 g5 : Nat) (x0 x1 : Int) : List (Value → World → Prop) := [fun v _ => v = .agg [.int .i64 x0, .int .i64 x1].toArray,
  fun v _ => v = .agg [.int .i64 x0, .int .i64 x1].toArray,
  fun v _ => v = .bool false,
  fun v _ => v = .bool false,
  fun v _ => v = .agg (ints .u8 l).toArray,
  fun v _ => v = .pointer (some ⟨g4, 0, none⟩),
  fun v _ => v = .int .i64 x0,
  fun v _ => v = .pointer (some ⟨g4, 1, none⟩),
  fun v _ => v = .int .i64 x1,
  fun v _ => v = .agg (ints .u8 (keyL l packetS [x0, x1])).toArray,
  fun v _ => v = .agg (ints .u8 l).toArray,
  fun v _ => v = .pointer (some ⟨g5, 0, none⟩),
  fun v _ => v = .int .i64 x0,
  fun v _ => v = .pointer (some ⟨g5, 1, none⟩),
  fun v _ => v = .int .i64 x1,
  fun v _ => v = .agg (ints .u8 (keyL l packetS [x0, x1])).toArray,
  fun v _ => v = .bool true,
  fun v _ => v = .bool true,
  fun v _ => v = .bool true]
theorem C7y_stable (l : List Nat) (g4 g5 : Nat) (x0 x1 : Int) : ∀ p ∈ C7y l g4 g5 x0 x1, Stable p := (stable_cons (stable_eq _) (stable_cons (stable_eq _) (stable_cons (stable_eq _) (stable_cons (stable_eq _) (stable_cons (stable_eq _) (stable_cons (stable_eq _) (stable_cons (stable_eq _) (stable_cons (stable_eq _) (stable_cons (stable_eq _) (stable_cons (stable_eq _) (stable_cons (stable_eq _) (stable_cons (stable_eq _) (stable_cons (stable_eq _) (stable_cons (stable_eq _) (stable_cons (stable_eq _) (stable_cons (stable_eq _) (stable_cons (stable_eq _) (stable_cons (stable_eq _) (stable_cons (stable_eq _) stable_nil)))))))))))))))))))
set_option maxRecDepth 100000 in
set_option maxHeartbeats 6400000 in
theorem walk (l : List Nat) (x0 x1 y0 y1 : Int) (w : World) (hl : l.length = 32) (hlw0 : ∀ x ∈ l, (Lit.int .u8 (x : Int)).wf = true) (wx0 : (Lit.int .i64 x0).wf = true) (wx1 : (Lit.int .i64 x1).wf = true) (wy0 : (Lit.int .i64 y0).wf = true) (wy1 : (Lit.int .i64 y1).wf = true) (kt : KT w) :
    Calls Tryd.prog 5 #[.agg (ints .u8 l).toArray, .agg [.int .i64 x0, .int .i64 x1].toArray, .agg [.int .i64 y0, .int .i64 y1].toArray] w fun e w' => e = .returned (.bool true) ∧ Below w.heap.size w w' := by
  have HL := Lib.hid hl
  have HLW : Hid (∀ x ∈ l, x < 256) := fun x hx => wf_u8.1 (hlw0 x hx)
  have WX0 := Lib.hid wx0
  have WX1 := Lib.hid wx1
  have WY0 := Lib.hid wy0
  have WY1 := Lib.hid wy1
  have HNp : Hid (strL ⟨#[112, 97, 99, 107, 101, 116]⟩ = packetS) := by show _ = _; decide
  have HNd : Hid (strL ⟨#[100, 101, 118, 105, 99, 101]⟩ = deviceS) := by show _ = _; decide
  have HAP := Lib.hid (names_apart x0 x1 x0 x1)
  obtain ⟨i0, hi0, hi1⟩ := info_parts infoInt
  obtain ⟨q, hq⟩ : ∃ q, Hid (decide (x0 = y0 ∧ x1 = y1) = q) := ⟨_, rfl⟩
  have HSM : Hid (decide (ofL packetS [x0, x1] = ofL packetS [y0, y1]) = q) := by
    show _ = _
    rw [← hq.out]
    exact decide_eq_decide.2 (ofL_inj2 _ _ _ _ _ wx0 wx1 wy0 wy1)
  have HTWO : Hid (∀ W : World, (Op.equalIn 10000 31 (.agg [.int .i64 x0, .int .i64 x1].toArray) (.agg [.int .i64 y0, .int .i64 y1].toArray)).run Tryd.prog W = .ok q W) := fun W => by
    rw [← hq.out]
    exact eq_two W Tryd.underlying31 hi0 (by kernel_rfl) Tryd.underlying3 x0 x1 y0 y1
  clear hl hlw0 wx0 wx1 wy0 wy1 hi0 hi1 i0
  go_enter Tryd.func5, Tryd.ntmps5
  go_upto_region 1 with (fail)
  refine name_wp (fun w1 => Blk w1 w.heap.size 23 (ints .u8 l) ∧ Blk w1 (w.heap.size + 1) 31 [.int .i64 x0, .int .i64 x1] ∧ Blk w1 (w.heap.size + 1 + 1) 31 [.int .i64 y0, .int .i64 y1] ∧ Below w.heap.size w w1) ⟨((Blk.new _ _ (ints .u8 l)).alloc _).alloc _, ?_, ?_, (((Below.refl _ _).alloc (Nat.le_refl _) _).alloc (by simp) _).alloc (by simp; omega) _⟩ ?_
  · have := Blk.new (w.alloc (.cells (ints .u8 l).toArray 23)) 31 [.int .i64 x0, .int .i64 x1]
    rw [World.size_alloc] at this
    exact this.alloc _
  · have := Blk.new ((w.alloc (.cells (ints .u8 l).toArray 23)).alloc (.cells [.int .i64 x0, .int .i64 x1].toArray 31)) 31 [.int .i64 y0, .int .i64 y1]
    rw [World.size_alloc, World.size_alloc] at this
    exact this
  rintro w1 ⟨hb3, hb4, hb5, hbel1⟩
  obtain ⟨g3, hg3⟩ : ∃ g, g = w.heap.size := ⟨_, rfl⟩
  obtain ⟨g4, hg4⟩ : ∃ g, g = w.heap.size + 1 := ⟨_, rfl⟩
  obtain ⟨g5, hg5⟩ : ∃ g, g = w.heap.size + 1 + 1 := ⟨_, rfl⟩
  rw [← hg3] at hb3
  rw [← hg4] at hb4
  rw [← hg5] at hb5
  rw [← hg5, ← hg4]
  rw [show (Value.pointer (some ⟨w.heap.size, 0, none⟩)) = Value.pointer (some ⟨g3, 0, none⟩) by rw [hg3]]
  clear hg3 hg4 hg5
  have hk1 := kt.below hbel1
  go_wp2_with fail
  refine (awake5_c _ hk1).mono ?_
  rintro e w2 ⟨rfl, hbel2⟩
  replace hb3 := hb3.below hbel2 hb3.lt
  replace hb4 := hb4.below hbel2 hb4.lt
  replace hb5 := hb5.below hbel2 hb5.lt
  have hk2 := hk1.below hbel2
  have hbw2 := hbel1.trans (hbel2.mono hbel1.size)
  clear hbel1 hbel2 hk1 kt
  go_upto_region 3 with (fail)
  refine wp_region_any (by kernel_rfl) ?_
  change wpAny _ _ _ _ _ _ _ (World.drew _)
  have HB3 := Lib.hid hb3.drew
  have HB4 := Lib.hid hb4.drew
  have HB5 := Lib.hid hb5.drew
  have HKT := Lib.hid (hk2.below (Below.refl _ _).drew)
  have hbw3 := hbw2.drew
  clear hb3 hb4 hb5 hk2 hbw2
  refine wpAny_relyG (g := 0) [(0, 12), (1, 13), (2, 14), (3, 15), (4, 7), (5, 8)] (condAt (C3 g4 g5 x0 x1 y0 y1)) [] (by kernel_rfl) rfl (condAt_keep (C3_stable g4 g5 x0 x1 y0 y1)) ?hstep ?hend
  case hstep =>
    intro p hp o ho x W hbel hdep K hK
    simp only [List.mem_cons, List.not_mem_nil, or_false] at hp
    rcases hp with rfl | rfl | rfl | rfl | rfl | rfl
    · cases Option.some.inj ho
      simp only [frm, List.foldl_cons, List.foldl_nil, Act.put, List.setIfInBounds_toArray, List.set_cons_zero, List.set_cons_succ] at hK ⊢
      clear hdep ho
      rw [if_pos (by rfl)]
      go_simp
      exact hK _ _ rfl (Below.refl _ _) (by simp)
    · cases Option.some.inj ho
      have d0 : x 0 = .slice (some ⟨g4, 0, none⟩) 2 2 := hdep ⟨0, .data⟩ (by simp) rfl rfl
      simp only [frm, List.foldl_cons, List.foldl_nil, Act.put, List.setIfInBounds_toArray, List.set_cons_zero, List.set_cons_succ] at hK ⊢
      clear hdep ho
      rw [d0] at hK ⊢
      clear d0
      rw [if_pos (by rfl)]
      go_simp
      refine (refOf6 _ packetS _ 2 x0 x1 _ HNp.out rfl (by decide) (readsZ_blk (HB4.out.below hbel HB4.out.lt) WX0.out WX1.out)).mono ?_
      rintro e w' ⟨V, d, rfl, hr, hb⟩
      exact hK _ _ ⟨V, d, rfl, hr⟩ hb (by simp)
    · cases Option.some.inj ho
      simp only [frm, List.foldl_cons, List.foldl_nil, Act.put, List.setIfInBounds_toArray, List.set_cons_zero, List.set_cons_succ] at hK ⊢
      clear hdep ho
      rw [if_pos (by rfl)]
      go_simp
      exact hK _ _ rfl (Below.refl _ _) (by simp)
    · cases Option.some.inj ho
      have d2 : x 2 = .slice (some ⟨g5, 0, none⟩) 2 2 := hdep ⟨2, .data⟩ (by simp) rfl rfl
      simp only [frm, List.foldl_cons, List.foldl_nil, Act.put, List.setIfInBounds_toArray, List.set_cons_zero, List.set_cons_succ] at hK ⊢
      clear hdep ho
      rw [d2] at hK ⊢
      clear d2
      rw [if_pos (by rfl)]
      go_simp
      refine (refOf6 _ packetS _ 2 y0 y1 _ HNp.out rfl (by decide) (readsZ_blk (HB5.out.below hbel HB5.out.lt) WY0.out WY1.out)).mono ?_
      rintro e w' ⟨V, d, rfl, hr, hb⟩
      exact hK _ _ ⟨V, d, rfl, hr⟩ hb (by simp)
    · cases Option.some.inj ho
      have h1 : ∃ A c, (x 1) = .slice A 23 c ∧ Reads .u8 W A 23 c (ofL packetS [x0, x1]) := hdep ⟨1, .data⟩ (by simp) rfl rfl
      simp only [frm, List.foldl_cons, List.foldl_nil, Act.put, List.setIfInBounds_toArray, List.set_cons_zero, List.set_cons_succ] at hK ⊢
      clear hdep ho
      rw [if_pos (by rfl)]
      obtain ⟨A1, c1, d1, ra1⟩ := h1
      rw [d1] at hK ⊢
      clear d1
      go_simp
      exact hK _ _ ⟨_, _, rfl, ra1⟩ (Below.refl _ _) (by simp)
    · cases Option.some.inj ho
      have h3 : ∃ A c, (x 3) = .slice A 23 c ∧ Reads .u8 W A 23 c (ofL packetS [y0, y1]) := hdep ⟨3, .data⟩ (by simp) rfl rfl
      simp only [frm, List.foldl_cons, List.foldl_nil, Act.put, List.setIfInBounds_toArray, List.set_cons_zero, List.set_cons_succ] at hK ⊢
      clear hdep ho
      rw [if_pos (by rfl)]
      obtain ⟨A3, c3, d3, ra3⟩ := h3
      rw [d3] at hK ⊢
      clear d3
      go_simp
      exact hK _ _ ⟨_, _, rfl, ra3⟩ (Below.refl _ _) (by simp)
  case hend =>
    intro x W hbel hall _
    obtain ⟨A4, c4, d4, ra4⟩ : ∃ A c, (x 4) = .slice A 23 c ∧ Reads .u8 W A 23 c (ofL packetS [x0, x1]) := hall (4, 7) (by simp)
    obtain ⟨A5, c5, d5, ra5⟩ : ∃ A c, (x 5) = .slice A 23 c ∧ Reads .u8 W A 23 c (ofL packetS [y0, y1]) := hall (5, 8) (by simp)
    simp only [frm, List.foldl_cons, List.foldl_nil, Act.put, List.setIfInBounds_toArray, List.set_cons_zero, List.set_cons_succ]
    rw [d4, d5]
    clear hall d4 d5
    generalize x 0 = z0
    generalize x 1 = z1
    generalize x 2 = z2
    generalize x 3 = z3
    refine wpAny_done (by kernel_rfl) ?_ _
    have hbw := hbw3.trans (hbel.mono hbw3.size)
    replace HB3 := Lib.hid (HB3.out.below hbel HB3.out.lt)
    replace HB4 := Lib.hid (HB4.out.below hbel HB4.out.lt)
    replace HB5 := Lib.hid (HB5.out.below hbel HB5.out.lt)
    replace HKT := Lib.hid (HKT.out.below hbel)
    clear hbw3 hbel
    have HR7 := Lib.hid ra4
    have HR8 := Lib.hid ra5
    clear ra4 ra5
    go_wp2_with fail
    refine (refOf6 _ deviceS _ 2 x0 x1 _ HNd.out rfl (by decide) (readsZ_blk HB4.out WX0.out WX1.out)).mono ?_
    rintro e w4 ⟨A9, c9, rfl, hr9, hbel⟩
    have hbw4 := hbw.trans (hbel.mono hbw.size)
    replace HR7 := Lib.hid (HR7.out.keep hbel)
    replace HR8 := Lib.hid (HR8.out.keep hbel)
    have HR9 := Lib.hid hr9
    replace HB3 := Lib.hid (HB3.out.below hbel HB3.out.lt)
    replace HB4 := Lib.hid (HB4.out.below hbel HB4.out.lt)
    replace HB5 := Lib.hid (HB5.out.below hbel HB5.out.lt)
    replace HKT := Lib.hid (HKT.out.below hbel)
    clear hr9 hbel hbw
    go_upto_region 5 with (fail)
    refine wp_region_any (by kernel_rfl) ?_
    change wpAny _ _ _ _ _ _ _ (World.drew _)
    replace HR7 := Lib.hid (HR7.out.of_heap (w' := w4.drew) rfl)
    replace HR8 := Lib.hid (HR8.out.of_heap (w' := w4.drew) rfl)
    replace HR9 := Lib.hid (HR9.out.of_heap (w' := w4.drew) rfl)
    replace HB3 := Lib.hid HB3.out.drew
    replace HB4 := Lib.hid HB4.out.drew
    replace HB5 := Lib.hid HB5.out.drew
    replace HKT := Lib.hid (HKT.out.below (Below.refl _ _).drew)
    have hbw3 := hbw4.drew
    clear hbw4
    refine wpAny_relyG (g := 0) [(0, 18), (1, 19), (2, 20), (3, 21), (4, 22), (5, 23), (6, 24), (7, 25), (8, 26), (9, 27), (10, 28), (11, 29)] (condAt (C5 A4 A5 A9 c4 c5 c9 x0 x1 y0 y1 q)) [] (by kernel_rfl) rfl (condAt_keep (C5_stable A4 A5 A9 c4 c5 c9 x0 x1 y0 y1 q)) ?hstep ?hend
    case hstep =>
      intro p hp o ho x W hbel hdep K hK
      simp only [List.mem_cons, List.not_mem_nil, or_false] at hp
      rcases hp with rfl | rfl | rfl | rfl | rfl | rfl | rfl | rfl | rfl | rfl | rfl | rfl
      · cases Option.some.inj ho
        simp only [frm, List.foldl_cons, List.foldl_nil, Act.put, List.setIfInBounds_toArray, List.set_cons_zero, List.set_cons_succ] at hK ⊢
        clear hdep ho
        rw [if_pos (by rfl)]
        go_simp
        exact hK _ _ rfl (Below.refl _ _) (by simp)
      · cases Option.some.inj ho
        simp only [frm, List.foldl_cons, List.foldl_nil, Act.put, List.setIfInBounds_toArray, List.set_cons_zero, List.set_cons_succ] at hK ⊢
        clear hdep ho
        rw [if_pos (by rfl)]
        go_simp
        exact hK _ _ rfl (Below.refl _ _) (by simp)
      · cases Option.some.inj ho
        have d0 : x 0 = .slice A4 23 c4 := hdep ⟨0, .data⟩ (by simp) rfl rfl
        have d1 : x 1 = .slice A5 23 c5 := hdep ⟨1, .data⟩ (by simp) rfl rfl
        simp only [frm, List.foldl_cons, List.foldl_nil, Act.put, List.setIfInBounds_toArray, List.set_cons_zero, List.set_cons_succ] at hK ⊢
        clear hdep ho
        rw [d0, d1] at hK ⊢
        clear d0 d1
        rw [if_pos (by rfl)]
        go_simp
        refine (same_c _ _ 23 _ 23 _ _ _ _ (HR7.out.keep hbel) (HR8.out.keep hbel)).mono ?_
        rintro e w' ⟨rfl, k, rfl⟩
        exact hK _ _ (congrArg Value.bool (HSM.out)) (belowDrewN (Below.refl _ _) k) (by simp)
      · cases Option.some.inj ho
        simp only [frm, List.foldl_cons, List.foldl_nil, Act.put, List.setIfInBounds_toArray, List.set_cons_zero, List.set_cons_succ] at hK ⊢
        clear hdep ho
        rw [if_pos (by rfl)]
        exact wp_load_all 31 (.tmp 4) rfl _ rfl _ _ (HB4.out.below hbel HB4.out.lt) _ Tryd.underlying31 rfl (by kernel_rfl) (hK _ _ rfl (Below.refl _ _) (by simp))
      · cases Option.some.inj ho
        simp only [frm, List.foldl_cons, List.foldl_nil, Act.put, List.setIfInBounds_toArray, List.set_cons_zero, List.set_cons_succ] at hK ⊢
        clear hdep ho
        rw [if_pos (by rfl)]
        exact wp_load_all 31 (.tmp 5) rfl _ rfl _ _ (HB5.out.below hbel HB5.out.lt) _ Tryd.underlying31 rfl (by kernel_rfl) (hK _ _ rfl (Below.refl _ _) (by simp))
      · cases Option.some.inj ho
        have d3 : x 3 = .agg [.int .i64 x0, .int .i64 x1].toArray := hdep ⟨3, .data⟩ (by simp) rfl rfl
        have d4 : x 4 = .agg [.int .i64 y0, .int .i64 y1].toArray := hdep ⟨4, .data⟩ (by simp) rfl rfl
        simp only [frm, List.foldl_cons, List.foldl_nil, Act.put, List.setIfInBounds_toArray, List.set_cons_zero, List.set_cons_succ] at hK ⊢
        clear hdep ho
        rw [d3, d4] at hK ⊢
        clear d3 d4
        rw [if_pos (by rfl)]
        go_simp
        rw [HTWO.out]
        go_simp
        exact hK _ _ rfl (Below.refl _ _) (by simp)
      · cases Option.some.inj ho
        have d2 : x 2 = .bool q := hdep ⟨2, .data⟩ (by simp) rfl rfl
        have d5 : x 5 = .bool q := hdep ⟨5, .data⟩ (by simp) rfl rfl
        simp only [frm, List.foldl_cons, List.foldl_nil, Act.put, List.setIfInBounds_toArray, List.set_cons_zero, List.set_cons_succ] at hK ⊢
        clear hdep ho
        rw [d2, d5] at hK ⊢
        clear d2 d5
        rw [if_pos (by rfl)]
        go_simp
        exact hK _ _ (by cases q <;> rfl) (Below.refl _ _) (by simp)
      · cases Option.some.inj ho
        have d6 : x 6 = .bool false := hdep ⟨6, .data⟩ (by simp) rfl rfl
        simp only [frm, List.foldl_cons, List.foldl_nil, Act.put, List.setIfInBounds_toArray, List.set_cons_zero, List.set_cons_succ] at hK ⊢
        clear hdep ho
        rw [d6] at hK ⊢
        clear d6
        rw [if_pos (by rfl)]
        go_simp
        exact hK _ _ rfl (Below.refl _ _) (by simp)
      · cases Option.some.inj ho
        have d7 : x 7 = .bool false := hdep ⟨7, .guard⟩ (by simp) rfl rfl
        simp only [frm, List.foldl_cons, List.foldl_nil, Act.put, List.setIfInBounds_toArray, List.set_cons_zero, List.set_cons_succ] at hK ⊢
        clear hdep ho
        rw [d7] at hK ⊢
        clear d7
        rw [if_pos (by rfl)]
        go_simp
        exact hK _ _ rfl (Below.refl _ _) (by simp)
      · cases Option.some.inj ho
        have d7 : x 7 = .bool false := hdep ⟨7, .guard⟩ (by simp) rfl rfl
        simp only [frm, List.foldl_cons, List.foldl_nil, Act.put, List.setIfInBounds_toArray, List.set_cons_zero, List.set_cons_succ] at hK ⊢
        clear hdep ho
        rw [d7] at hK ⊢
        clear d7
        rw [if_pos (by rfl)]
        go_simp
        exact hK _ _ rfl (Below.refl _ _) (by simp)
      · cases Option.some.inj ho
        have d8 : x 8 = .slice A4 23 c4 := hdep ⟨8, .data⟩ (by simp) rfl rfl
        have d9 : x 9 = .slice A9 23 c9 := hdep ⟨9, .data⟩ (by simp) rfl rfl
        have d7 : x 7 = .bool false := hdep ⟨7, .guard⟩ (by simp) rfl rfl
        simp only [frm, List.foldl_cons, List.foldl_nil, Act.put, List.setIfInBounds_toArray, List.set_cons_zero, List.set_cons_succ] at hK ⊢
        clear hdep ho
        rw [d8, d9, d7] at hK ⊢
        clear d8 d9 d7
        rw [if_pos (by rfl)]
        go_simp
        refine (same_c _ _ 23 _ 23 _ _ _ _ (HR7.out.keep hbel) (HR9.out.keep hbel)).mono ?_
        rintro e w' ⟨rfl, k, rfl⟩
        exact hK _ _ (congrArg Value.bool (decide_eq_false HAP.out)) (belowDrewN (Below.refl _ _) k) (by simp)
      · cases Option.some.inj ho
        have d7 : x 7 = .bool false := hdep ⟨7, .data⟩ (by simp) rfl rfl
        have d10 : x 10 = .bool false := hdep ⟨10, .data⟩ (by simp) rfl rfl
        simp only [frm, List.foldl_cons, List.foldl_nil, Act.put, List.setIfInBounds_toArray, List.set_cons_zero, List.set_cons_succ] at hK ⊢
        clear hdep ho
        rw [d7, d10] at hK ⊢
        clear d7 d10
        rw [if_pos (by rfl)]
        go_simp
        exact hK _ _ rfl (Below.refl _ _) (by simp)
    case hend =>
      intro x W hbel hall _
      have d11 : x 11 = .bool false := hall (11, 29) (by simp)
      simp only [frm, List.foldl_cons, List.foldl_nil, Act.put, List.setIfInBounds_toArray, List.set_cons_zero, List.set_cons_succ]
      rw [d11]
      clear hall d11
      generalize x 0 = z0
      generalize x 1 = z1
      generalize x 2 = z2
      generalize x 3 = z3
      generalize x 4 = z4
      generalize x 5 = z5
      generalize x 6 = z6
      generalize x 7 = z7
      generalize x 8 = z8
      generalize x 9 = z9
      generalize x 10 = z10
      refine wpAny_done (by kernel_rfl) ?_ _
      have hbw := hbw3.trans (hbel.mono hbw3.size)
      replace HB3 := Lib.hid (HB3.out.below hbel HB3.out.lt)
      replace HB4 := Lib.hid (HB4.out.below hbel HB4.out.lt)
      replace HB5 := Lib.hid (HB5.out.below hbel HB5.out.lt)
      replace HKT := Lib.hid (HKT.out.below hbel)
      clear hbw3 hbel
      clear HR7 HR8 HR9 HSM HAP
      go_upto_region 7 with (fail)
      refine wp_region_any (by kernel_rfl) ?_
      change wpAny _ _ _ _ _ _ _ (World.drew _)
      replace HB3 := Lib.hid HB3.out.drew
      replace HB4 := Lib.hid HB4.out.drew
      replace HB5 := Lib.hid HB5.out.drew
      replace HKT := Lib.hid (HKT.out.below (Below.refl _ _).drew)
      have hbw3 := hbw.drew
      clear hbw
      by_cases hqq : x0 = y0 ∧ x1 = y1
      · obtain rfl : q = true := by rw [← hq.out]; exact decide_eq_true hqq
        obtain ⟨rfl, rfl⟩ := hqq
        have HEQ : Hid (∀ W : World, (Op.equalIn 10000 23 (.agg (ints .u8 (keyL l packetS [x0, x1])).toArray) (.agg (ints .u8 (keyL l packetS [x0, x1])).toArray)).run Tryd.prog W = .ok true W) := fun W => (eq_keys _ _ (length_keyL _ _ _) (length_keyL _ _ _) W).trans (by rw [decide_eq_true rfl])
        refine wpAny_relyG (g := 0) [(0, 30), (1, 31), (2, 32), (3, 33), (4, 34), (5, 35), (6, 36), (7, 37), (8, 38), (9, 39), (10, 40), (11, 41), (12, 42), (13, 43), (14, 44), (15, 45), (16, 46), (17, 47), (18, 6)] (condAt (C7y l g4 g5 x0 x1)) [] (by kernel_rfl) rfl (condAt_keep (C7y_stable l g4 g5 x0 x1)) ?hstep ?hend
        case hstep =>
          intro p hp o ho x W hbel hdep K hK
          have c40 := (HB4.out.below hbel HB4.out.lt).cellAt 0 (by simp)
          have c41 := (HB4.out.below hbel HB4.out.lt).cellAt 1 (by simp)
          have c50 := (HB5.out.below hbel HB5.out.lt).cellAt 0 (by simp)
          have c51 := (HB5.out.below hbel HB5.out.lt).cellAt 1 (by simp)
          simp only [List.mem_cons, List.not_mem_nil, or_false] at hp
          rcases hp with rfl | rfl | rfl | rfl | rfl | rfl | rfl | rfl | rfl | rfl | rfl | rfl | rfl | rfl | rfl | rfl | rfl | rfl | rfl
          · cases Option.some.inj ho
            simp only [frm, List.foldl_cons, List.foldl_nil, Act.put, List.setIfInBounds_toArray, List.set_cons_zero, List.set_cons_succ] at hK ⊢
            clear hdep ho
            rw [if_pos (by rfl)]
            exact wp_load_all 31 (.tmp 4) rfl _ rfl _ _ (HB4.out.below hbel HB4.out.lt) _ Tryd.underlying31 rfl (by kernel_rfl) (hK _ _ rfl (Below.refl _ _) (by simp))
          · cases Option.some.inj ho
            simp only [frm, List.foldl_cons, List.foldl_nil, Act.put, List.setIfInBounds_toArray, List.set_cons_zero, List.set_cons_succ] at hK ⊢
            clear hdep ho
            rw [if_pos (by rfl)]
            exact wp_load_all 31 (.tmp 5) rfl _ rfl _ _ (HB5.out.below hbel HB5.out.lt) _ Tryd.underlying31 rfl (by kernel_rfl) (hK _ _ rfl (Below.refl _ _) (by simp))
          · cases Option.some.inj ho
            have d0 : x 0 = .agg [.int .i64 x0, .int .i64 x1].toArray := hdep ⟨0, .data⟩ (by simp) rfl rfl
            have d1 : x 1 = .agg [.int .i64 x0, .int .i64 x1].toArray := hdep ⟨1, .data⟩ (by simp) rfl rfl
            simp only [frm, List.foldl_cons, List.foldl_nil, Act.put, List.setIfInBounds_toArray, List.set_cons_zero, List.set_cons_succ] at hK ⊢
            clear hdep ho
            rw [d0, d1] at hK ⊢
            clear d0 d1
            rw [if_pos (by rfl)]
            go_simp
            rw [HTWO.out]
            go_simp
            exact hK _ _ rfl (Below.refl _ _) (by simp)
          · cases Option.some.inj ho
            have d2 : x 2 = .bool false := hdep ⟨2, .data⟩ (by simp) rfl rfl
            simp only [frm, List.foldl_cons, List.foldl_nil, Act.put, List.setIfInBounds_toArray, List.set_cons_zero, List.set_cons_succ] at hK ⊢
            clear hdep ho
            rw [d2] at hK ⊢
            clear d2
            rw [if_pos (by rfl)]
            go_simp
            exact hK _ _ rfl (Below.refl _ _) (by simp)
          · cases Option.some.inj ho
            have d3 : x 3 = .bool false := hdep ⟨3, .guard⟩ (by simp) rfl rfl
            simp only [frm, List.foldl_cons, List.foldl_nil, Act.put, List.setIfInBounds_toArray, List.set_cons_zero, List.set_cons_succ] at hK ⊢
            clear hdep ho
            rw [d3] at hK ⊢
            clear d3
            rw [if_pos (by rfl)]
            exact wp_load_all 23 (.tmp 3) rfl _ rfl _ _ (HB3.out.below hbel HB3.out.lt) _ Tryd.underlying23 rfl (by rw [length_ints, HL.out]; kernel_rfl) (hK _ _ rfl (Below.refl _ _) (by simp))
          · cases Option.some.inj ho
            have d3 : x 3 = .bool false := hdep ⟨3, .guard⟩ (by simp) rfl rfl
            simp only [frm, List.foldl_cons, List.foldl_nil, Act.put, List.setIfInBounds_toArray, List.set_cons_zero, List.set_cons_succ] at hK ⊢
            clear hdep ho
            rw [d3] at hK ⊢
            clear d3
            rw [if_pos (by rfl)]
            go_simp
            exact hK _ _ rfl (Below.refl _ _) (by simp)
          · cases Option.some.inj ho
            have d5 : x 5 = .pointer (some ⟨g4, 0, none⟩) := hdep ⟨5, .data⟩ (by simp) rfl rfl
            have d3 : x 3 = .bool false := hdep ⟨3, .guard⟩ (by simp) rfl rfl
            simp only [frm, List.foldl_cons, List.foldl_nil, Act.put, List.setIfInBounds_toArray, List.set_cons_zero, List.set_cons_succ] at hK ⊢
            clear hdep ho
            rw [d5, d3] at hK ⊢
            clear d5 d3
            rw [if_pos (by rfl)]
            go_simp
            exact hK _ _ rfl (Below.refl _ _) (by simp)
          · cases Option.some.inj ho
            have d3 : x 3 = .bool false := hdep ⟨3, .guard⟩ (by simp) rfl rfl
            simp only [frm, List.foldl_cons, List.foldl_nil, Act.put, List.setIfInBounds_toArray, List.set_cons_zero, List.set_cons_succ] at hK ⊢
            clear hdep ho
            rw [d3] at hK ⊢
            clear d3
            rw [if_pos (by rfl)]
            go_simp
            exact hK _ _ rfl (Below.refl _ _) (by simp)
          · cases Option.some.inj ho
            have d7 : x 7 = .pointer (some ⟨g4, 1, none⟩) := hdep ⟨7, .data⟩ (by simp) rfl rfl
            have d3 : x 3 = .bool false := hdep ⟨3, .guard⟩ (by simp) rfl rfl
            simp only [frm, List.foldl_cons, List.foldl_nil, Act.put, List.setIfInBounds_toArray, List.set_cons_zero, List.set_cons_succ] at hK ⊢
            clear hdep ho
            rw [d7, d3] at hK ⊢
            clear d7 d3
            rw [if_pos (by rfl)]
            go_simp
            exact hK _ _ rfl (Below.refl _ _) (by simp)
          · cases Option.some.inj ho
            have d4 : x 4 = .agg (ints .u8 l).toArray := hdep ⟨4, .data⟩ (by simp) rfl rfl
            have d6 : x 6 = .int .i64 x0 := hdep ⟨6, .data⟩ (by simp) rfl rfl
            have d8 : x 8 = .int .i64 x1 := hdep ⟨8, .data⟩ (by simp) rfl rfl
            have d3 : x 3 = .bool false := hdep ⟨3, .guard⟩ (by simp) rfl rfl
            simp only [frm, List.foldl_cons, List.foldl_nil, Act.put, List.setIfInBounds_toArray, List.set_cons_zero, List.set_cons_succ] at hK ⊢
            clear hdep ho
            rw [d4, d6, d8, d3] at hK ⊢
            clear d4 d6 d8 d3
            rw [if_pos (by rfl)]
            go_simp
            refine (packet_c l x0 x1 _ HL.out HLW.out WX0.out WX1.out (HKT.out.below hbel)).mono ?_
            rintro e w' ⟨rfl, hb⟩
            exact hK _ _ rfl hb (by simp)
          · cases Option.some.inj ho
            have d3 : x 3 = .bool false := hdep ⟨3, .guard⟩ (by simp) rfl rfl
            simp only [frm, List.foldl_cons, List.foldl_nil, Act.put, List.setIfInBounds_toArray, List.set_cons_zero, List.set_cons_succ] at hK ⊢
            clear hdep ho
            rw [d3] at hK ⊢
            clear d3
            rw [if_pos (by rfl)]
            exact wp_load_all 23 (.tmp 3) rfl _ rfl _ _ (HB3.out.below hbel HB3.out.lt) _ Tryd.underlying23 rfl (by rw [length_ints, HL.out]; kernel_rfl) (hK _ _ rfl (Below.refl _ _) (by simp))
          · cases Option.some.inj ho
            have d3 : x 3 = .bool false := hdep ⟨3, .guard⟩ (by simp) rfl rfl
            simp only [frm, List.foldl_cons, List.foldl_nil, Act.put, List.setIfInBounds_toArray, List.set_cons_zero, List.set_cons_succ] at hK ⊢
            clear hdep ho
            rw [d3] at hK ⊢
            clear d3
            rw [if_pos (by rfl)]
            go_simp
            exact hK _ _ rfl (Below.refl _ _) (by simp)
          · cases Option.some.inj ho
            have d11 : x 11 = .pointer (some ⟨g5, 0, none⟩) := hdep ⟨11, .data⟩ (by simp) rfl rfl
            have d3 : x 3 = .bool false := hdep ⟨3, .guard⟩ (by simp) rfl rfl
            simp only [frm, List.foldl_cons, List.foldl_nil, Act.put, List.setIfInBounds_toArray, List.set_cons_zero, List.set_cons_succ] at hK ⊢
            clear hdep ho
            rw [d11, d3] at hK ⊢
            clear d11 d3
            rw [if_pos (by rfl)]
            go_simp
            exact hK _ _ rfl (Below.refl _ _) (by simp)
          · cases Option.some.inj ho
            have d3 : x 3 = .bool false := hdep ⟨3, .guard⟩ (by simp) rfl rfl
            simp only [frm, List.foldl_cons, List.foldl_nil, Act.put, List.setIfInBounds_toArray, List.set_cons_zero, List.set_cons_succ] at hK ⊢
            clear hdep ho
            rw [d3] at hK ⊢
            clear d3
            rw [if_pos (by rfl)]
            go_simp
            exact hK _ _ rfl (Below.refl _ _) (by simp)
          · cases Option.some.inj ho
            have d13 : x 13 = .pointer (some ⟨g5, 1, none⟩) := hdep ⟨13, .data⟩ (by simp) rfl rfl
            have d3 : x 3 = .bool false := hdep ⟨3, .guard⟩ (by simp) rfl rfl
            simp only [frm, List.foldl_cons, List.foldl_nil, Act.put, List.setIfInBounds_toArray, List.set_cons_zero, List.set_cons_succ] at hK ⊢
            clear hdep ho
            rw [d13, d3] at hK ⊢
            clear d13 d3
            rw [if_pos (by rfl)]
            go_simp
            exact hK _ _ rfl (Below.refl _ _) (by simp)
          · cases Option.some.inj ho
            have d10 : x 10 = .agg (ints .u8 l).toArray := hdep ⟨10, .data⟩ (by simp) rfl rfl
            have d12 : x 12 = .int .i64 x0 := hdep ⟨12, .data⟩ (by simp) rfl rfl
            have d14 : x 14 = .int .i64 x1 := hdep ⟨14, .data⟩ (by simp) rfl rfl
            have d3 : x 3 = .bool false := hdep ⟨3, .guard⟩ (by simp) rfl rfl
            simp only [frm, List.foldl_cons, List.foldl_nil, Act.put, List.setIfInBounds_toArray, List.set_cons_zero, List.set_cons_succ] at hK ⊢
            clear hdep ho
            rw [d10, d12, d14, d3] at hK ⊢
            clear d10 d12 d14 d3
            rw [if_pos (by rfl)]
            go_simp
            refine (packet_c l x0 x1 _ HL.out HLW.out WX0.out WX1.out (HKT.out.below hbel)).mono ?_
            rintro e w' ⟨rfl, hb⟩
            exact hK _ _ rfl hb (by simp)
          · cases Option.some.inj ho
            have d9 : x 9 = .agg (ints .u8 (keyL l packetS [x0, x1])).toArray := hdep ⟨9, .data⟩ (by simp) rfl rfl
            have d15 : x 15 = .agg (ints .u8 (keyL l packetS [x0, x1])).toArray := hdep ⟨15, .data⟩ (by simp) rfl rfl
            have d3 : x 3 = .bool false := hdep ⟨3, .guard⟩ (by simp) rfl rfl
            simp only [frm, List.foldl_cons, List.foldl_nil, Act.put, List.setIfInBounds_toArray, List.set_cons_zero, List.set_cons_succ] at hK ⊢
            clear hdep ho
            rw [d9, d15, d3] at hK ⊢
            clear d9 d15 d3
            rw [if_pos (by rfl)]
            go_simp
            rw [HEQ.out]
            go_simp
            exact hK _ _ rfl (Below.refl _ _) (by simp)
          · cases Option.some.inj ho
            have d3 : x 3 = .bool false := hdep ⟨3, .data⟩ (by simp) rfl rfl
            have d16 : x 16 = .bool true := hdep ⟨16, .data⟩ (by simp) rfl rfl
            simp only [frm, List.foldl_cons, List.foldl_nil, Act.put, List.setIfInBounds_toArray, List.set_cons_zero, List.set_cons_succ] at hK ⊢
            clear hdep ho
            rw [d3, d16] at hK ⊢
            clear d3 d16
            rw [if_pos (by rfl)]
            go_simp
            exact hK _ _ rfl (Below.refl _ _) (by simp)
          · cases Option.some.inj ho
            have d17 : x 17 = .bool true := hdep ⟨17, .data⟩ (by simp) rfl rfl
            simp only [frm, List.foldl_cons, List.foldl_nil, Act.put, List.setIfInBounds_toArray, List.set_cons_zero, List.set_cons_succ] at hK ⊢
            clear hdep ho
            rw [d17] at hK ⊢
            clear d17
            rw [if_pos (by rfl)]
            go_simp
            exact hK _ _ rfl (Below.refl _ _) (by simp)
        case hend =>
          intro x W hbel hall _
          have d18 : x 18 = .bool true := hall (18, 6) (by simp)
          simp only [frm, List.foldl_cons, List.foldl_nil, Act.put, List.setIfInBounds_toArray, List.set_cons_zero, List.set_cons_succ]
          rw [d18]
          clear hall d18
          generalize x 0 = z0
          generalize x 1 = z1
          generalize x 2 = z2
          generalize x 3 = z3
          generalize x 4 = z4
          generalize x 5 = z5
          generalize x 6 = z6
          generalize x 7 = z7
          generalize x 8 = z8
          generalize x 9 = z9
          generalize x 10 = z10
          generalize x 11 = z11
          generalize x 12 = z12
          generalize x 13 = z13
          generalize x 14 = z14
          generalize x 15 = z15
          generalize x 16 = z16
          generalize x 17 = z17
          refine wpAny_done (by kernel_rfl) ?_ _
          have hbw := hbw3.trans (hbel.mono hbw3.size)
          go_wp2
          go_ret
          exact ⟨rfl, hbw⟩
      · obtain rfl : q = false := by rw [← hq.out]; exact decide_eq_false hqq
        refine wpAny_relyG (g := 0) [(0, 30), (1, 31), (2, 32), (3, 33), (4, 34), (5, 35), (6, 36), (7, 37), (8, 38), (9, 39), (10, 40), (11, 41), (12, 42), (13, 43), (14, 44), (15, 45), (16, 46), (17, 47), (18, 6)] (condAt (C7n x0 x1 y0 y1)) [] (by kernel_rfl) rfl (condAt_keep (C7n_stable x0 x1 y0 y1)) ?hstep ?hend
        case hstep =>
          intro p hp o ho x W hbel hdep K hK
          simp only [List.mem_cons, List.not_mem_nil, or_false] at hp
          rcases hp with rfl | rfl | rfl | rfl | rfl | rfl | rfl | rfl | rfl | rfl | rfl | rfl | rfl | rfl | rfl | rfl | rfl | rfl | rfl
          · cases Option.some.inj ho
            simp only [frm, List.foldl_cons, List.foldl_nil, Act.put, List.setIfInBounds_toArray, List.set_cons_zero, List.set_cons_succ] at hK ⊢
            clear hdep ho
            rw [if_pos (by rfl)]
            exact wp_load_all 31 (.tmp 4) rfl _ rfl _ _ (HB4.out.below hbel HB4.out.lt) _ Tryd.underlying31 rfl (by kernel_rfl) (hK _ _ rfl (Below.refl _ _) (by simp))
          · cases Option.some.inj ho
            simp only [frm, List.foldl_cons, List.foldl_nil, Act.put, List.setIfInBounds_toArray, List.set_cons_zero, List.set_cons_succ] at hK ⊢
            clear hdep ho
            rw [if_pos (by rfl)]
            exact wp_load_all 31 (.tmp 5) rfl _ rfl _ _ (HB5.out.below hbel HB5.out.lt) _ Tryd.underlying31 rfl (by kernel_rfl) (hK _ _ rfl (Below.refl _ _) (by simp))
          · cases Option.some.inj ho
            have d0 : x 0 = .agg [.int .i64 x0, .int .i64 x1].toArray := hdep ⟨0, .data⟩ (by simp) rfl rfl
            have d1 : x 1 = .agg [.int .i64 y0, .int .i64 y1].toArray := hdep ⟨1, .data⟩ (by simp) rfl rfl
            simp only [frm, List.foldl_cons, List.foldl_nil, Act.put, List.setIfInBounds_toArray, List.set_cons_zero, List.set_cons_succ] at hK ⊢
            clear hdep ho
            rw [d0, d1] at hK ⊢
            clear d0 d1
            rw [if_pos (by rfl)]
            go_simp
            rw [HTWO.out]
            go_simp
            exact hK _ _ rfl (Below.refl _ _) (by simp)
          · cases Option.some.inj ho
            have d2 : x 2 = .bool true := hdep ⟨2, .data⟩ (by simp) rfl rfl
            simp only [frm, List.foldl_cons, List.foldl_nil, Act.put, List.setIfInBounds_toArray, List.set_cons_zero, List.set_cons_succ] at hK ⊢
            clear hdep ho
            rw [d2] at hK ⊢
            clear d2
            rw [if_pos (by rfl)]
            go_simp
            exact hK _ _ rfl (Below.refl _ _) (by simp)
          · cases Option.some.inj ho
            have d3 : x 3 = .bool true := hdep ⟨3, .guard⟩ (by simp) rfl rfl
            simp only [frm, List.foldl_cons, List.foldl_nil, Act.put, List.setIfInBounds_toArray, List.set_cons_zero, List.set_cons_succ] at hK ⊢
            clear hdep ho
            rw [d3] at hK ⊢
            clear d3
            rw [if_neg (by simp [Region.wanted, yielded])]
            exact hK _ _ rfl (Below.refl _ _) (by simp)
          · cases Option.some.inj ho
            have d3 : x 3 = .bool true := hdep ⟨3, .guard⟩ (by simp) rfl rfl
            simp only [frm, List.foldl_cons, List.foldl_nil, Act.put, List.setIfInBounds_toArray, List.set_cons_zero, List.set_cons_succ] at hK ⊢
            clear hdep ho
            rw [d3] at hK ⊢
            clear d3
            rw [if_neg (by simp [Region.wanted, yielded])]
            exact hK _ _ rfl (Below.refl _ _) (by simp)
          · cases Option.some.inj ho
            have d3 : x 3 = .bool true := hdep ⟨3, .guard⟩ (by simp) rfl rfl
            simp only [frm, List.foldl_cons, List.foldl_nil, Act.put, List.setIfInBounds_toArray, List.set_cons_zero, List.set_cons_succ] at hK ⊢
            clear hdep ho
            rw [d3] at hK ⊢
            clear d3
            rw [if_neg (by simp [Region.wanted, yielded])]
            exact hK _ _ rfl (Below.refl _ _) (by simp)
          · cases Option.some.inj ho
            have d3 : x 3 = .bool true := hdep ⟨3, .guard⟩ (by simp) rfl rfl
            simp only [frm, List.foldl_cons, List.foldl_nil, Act.put, List.setIfInBounds_toArray, List.set_cons_zero, List.set_cons_succ] at hK ⊢
            clear hdep ho
            rw [d3] at hK ⊢
            clear d3
            rw [if_neg (by simp [Region.wanted, yielded])]
            exact hK _ _ rfl (Below.refl _ _) (by simp)
          · cases Option.some.inj ho
            have d3 : x 3 = .bool true := hdep ⟨3, .guard⟩ (by simp) rfl rfl
            simp only [frm, List.foldl_cons, List.foldl_nil, Act.put, List.setIfInBounds_toArray, List.set_cons_zero, List.set_cons_succ] at hK ⊢
            clear hdep ho
            rw [d3] at hK ⊢
            clear d3
            rw [if_neg (by simp [Region.wanted, yielded])]
            exact hK _ _ rfl (Below.refl _ _) (by simp)
          · cases Option.some.inj ho
            have d3 : x 3 = .bool true := hdep ⟨3, .guard⟩ (by simp) rfl rfl
            simp only [frm, List.foldl_cons, List.foldl_nil, Act.put, List.setIfInBounds_toArray, List.set_cons_zero, List.set_cons_succ] at hK ⊢
            clear hdep ho
            rw [d3] at hK ⊢
            clear d3
            rw [if_neg (by simp [Region.wanted, yielded])]
            exact hK _ _ rfl (Below.refl _ _) (by simp)
          · cases Option.some.inj ho
            have d3 : x 3 = .bool true := hdep ⟨3, .guard⟩ (by simp) rfl rfl
            simp only [frm, List.foldl_cons, List.foldl_nil, Act.put, List.setIfInBounds_toArray, List.set_cons_zero, List.set_cons_succ] at hK ⊢
            clear hdep ho
            rw [d3] at hK ⊢
            clear d3
            rw [if_neg (by simp [Region.wanted, yielded])]
            exact hK _ _ rfl (Below.refl _ _) (by simp)
          · cases Option.some.inj ho
            have d3 : x 3 = .bool true := hdep ⟨3, .guard⟩ (by simp) rfl rfl
            simp only [frm, List.foldl_cons, List.foldl_nil, Act.put, List.setIfInBounds_toArray, List.set_cons_zero, List.set_cons_succ] at hK ⊢
            clear hdep ho
            rw [d3] at hK ⊢
            clear d3
            rw [if_neg (by simp [Region.wanted, yielded])]
            exact hK _ _ rfl (Below.refl _ _) (by simp)
          · cases Option.some.inj ho
            have d3 : x 3 = .bool true := hdep ⟨3, .guard⟩ (by simp) rfl rfl
            simp only [frm, List.foldl_cons, List.foldl_nil, Act.put, List.setIfInBounds_toArray, List.set_cons_zero, List.set_cons_succ] at hK ⊢
            clear hdep ho
            rw [d3] at hK ⊢
            clear d3
            rw [if_neg (by simp [Region.wanted, yielded])]
            exact hK _ _ rfl (Below.refl _ _) (by simp)
          · cases Option.some.inj ho
            have d3 : x 3 = .bool true := hdep ⟨3, .guard⟩ (by simp) rfl rfl
            simp only [frm, List.foldl_cons, List.foldl_nil, Act.put, List.setIfInBounds_toArray, List.set_cons_zero, List.set_cons_succ] at hK ⊢
            clear hdep ho
            rw [d3] at hK ⊢
            clear d3
            rw [if_neg (by simp [Region.wanted, yielded])]
            exact hK _ _ rfl (Below.refl _ _) (by simp)
          · cases Option.some.inj ho
            have d3 : x 3 = .bool true := hdep ⟨3, .guard⟩ (by simp) rfl rfl
            simp only [frm, List.foldl_cons, List.foldl_nil, Act.put, List.setIfInBounds_toArray, List.set_cons_zero, List.set_cons_succ] at hK ⊢
            clear hdep ho
            rw [d3] at hK ⊢
            clear d3
            rw [if_neg (by simp [Region.wanted, yielded])]
            exact hK _ _ rfl (Below.refl _ _) (by simp)
          · cases Option.some.inj ho
            have d3 : x 3 = .bool true := hdep ⟨3, .guard⟩ (by simp) rfl rfl
            simp only [frm, List.foldl_cons, List.foldl_nil, Act.put, List.setIfInBounds_toArray, List.set_cons_zero, List.set_cons_succ] at hK ⊢
            clear hdep ho
            rw [d3] at hK ⊢
            clear d3
            rw [if_neg (by simp [Region.wanted, yielded])]
            exact hK _ _ rfl (Below.refl _ _) (by simp)
          · cases Option.some.inj ho
            have d3 : x 3 = .bool true := hdep ⟨3, .guard⟩ (by simp) rfl rfl
            simp only [frm, List.foldl_cons, List.foldl_nil, Act.put, List.setIfInBounds_toArray, List.set_cons_zero, List.set_cons_succ] at hK ⊢
            clear hdep ho
            rw [d3] at hK ⊢
            clear d3
            rw [if_neg (by simp [Region.wanted, yielded])]
            exact hK _ _ rfl (Below.refl _ _) (by simp)
          · cases Option.some.inj ho
            have d3 : x 3 = .bool true := hdep ⟨3, .data⟩ (by simp) rfl rfl
            have d16 : x 16 = undef := hdep ⟨16, .data⟩ (by simp) rfl rfl
            simp only [frm, List.foldl_cons, List.foldl_nil, Act.put, List.setIfInBounds_toArray, List.set_cons_zero, List.set_cons_succ] at hK ⊢
            clear hdep ho
            rw [d3, d16] at hK ⊢
            clear d3 d16
            rw [if_pos (by rfl)]
            go_simp
            exact hK _ _ rfl (Below.refl _ _) (by simp)
          · cases Option.some.inj ho
            have d17 : x 17 = .bool true := hdep ⟨17, .data⟩ (by simp) rfl rfl
            simp only [frm, List.foldl_cons, List.foldl_nil, Act.put, List.setIfInBounds_toArray, List.set_cons_zero, List.set_cons_succ] at hK ⊢
            clear hdep ho
            rw [d17] at hK ⊢
            clear d17
            rw [if_pos (by rfl)]
            go_simp
            exact hK _ _ rfl (Below.refl _ _) (by simp)
        case hend =>
          intro x W hbel hall _
          have d18 : x 18 = .bool true := hall (18, 6) (by simp)
          simp only [frm, List.foldl_cons, List.foldl_nil, Act.put, List.setIfInBounds_toArray, List.set_cons_zero, List.set_cons_succ]
          rw [d18]
          clear hall d18
          generalize x 0 = z0
          generalize x 1 = z1
          generalize x 2 = z2
          generalize x 3 = z3
          generalize x 4 = z4
          generalize x 5 = z5
          generalize x 6 = z6
          generalize x 7 = z7
          generalize x 8 = z8
          generalize x 9 = z9
          generalize x 10 = z10
          generalize x 11 = z11
          generalize x 12 = z12
          generalize x 13 = z13
          generalize x 14 = z14
          generalize x 15 = z15
          generalize x 16 = z16
          generalize x 17 = z17
          refine wpAny_done (by kernel_rfl) ?_ _
          have hbw := hbw3.trans (hbel.mono hbw3.size)
          go_wp2
          go_ret
          exact ⟨rfl, hbw⟩
end Go.Proofs.YtjacfihpjolddaaDoor.keysApart
