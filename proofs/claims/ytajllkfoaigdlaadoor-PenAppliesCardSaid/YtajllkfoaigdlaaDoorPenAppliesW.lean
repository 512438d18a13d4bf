/- The walk through PenApplies: for every pen and slice of numbers it returns true and leaves old memory as it was. Conditions: the two tables of the attributes hold what the program lays there. -/
import Derived.Test.YtajllkfoaigdlaaDoorAwake12
import Derived.Test.YtajllkfoaigdlaaDoorOpen9
import Derived.Test.YtajllkfoaigdlaaDoorRely2
import Derived.Test.YtajllkfoaigdlaaDoorPenR2
namespace Go.Proofs.YtajllkfoaigdlaaDoor.penApplies
open Go.ChangeShapes Go.WideShapes Go.RowKit
def C (a b d u k m : Nat) (A : Option Addr) (n c : Nat) : List (Value → World → Prop) := [fun v _ => v = .agg #[.int .i64 (a : Int), .int .i64 (b : Int), .int .i64 (d : Int)],
  fun v _ => v = .agg #[.int .i64 (u : Int), .int .i64 (k : Int), .int .i64 (m : Int)],
  fun v _ => v = .slice A n c,
  fun v _ => v = .agg #[.int .i64 (a : Int), .int .i64 (b : Int), .int .i64 (d : Int)],
  fun v _ => v = .bool true,
  fun v _ => v = .bool true,
  fun v _ => v = .agg #[.int .i64 (a : Int), .int .i64 (b : Int), .int .i64 (d : Int)],
  fun v _ => v = .bool true,
  fun v _ => v = .bool true,
  fun v _ => v = .bool true]
theorem C_stable (a b d u k m : Nat) (A : Option Addr) (n c : Nat) : ∀ p ∈ C a b d u k m A n c, Stable p := (stable_cons (stable_eq _) (stable_cons (stable_eq _) (stable_cons (stable_eq _) (stable_cons (stable_eq _) (stable_cons (stable_eq _) (stable_cons (stable_eq _) (stable_cons (stable_eq _) (stable_cons (stable_eq _) (stable_cons (stable_eq _) (stable_cons (stable_eq _) stable_nil))))))))))
set_option maxRecDepth 100000 in
set_option maxHeartbeats 12800000 in
theorem walk (p : Int × Int × Int) (A : Option Addr) (n c : Nat) (l : List Int) (w : World) (_ : fit64 p.1 ∧ fit64 p.2.1 ∧ fit64 p.2.2) (hr : ReadsI .i64 w A n c l) (kt : PT w) :
    Calls Tryd.prog 3 #[.agg #[.int .i64 p.1, .int .i64 p.2.1, .int .i64 p.2.2], .slice A n c] w fun e w' => e = .returned (.bool true) ∧ Below w.heap.size w w' := by
  have HA := Lib.hid (fun W (hk : PT W) => awake12_c W hk)
  have HK := Lib.hid kt
  have HR := Lib.hid hr
  have HLen := Lib.hid hr.len
  have HRI0 : Hid (∀ W, Calls Tryd.prog 8 #[.agg #[.int .i64 p.1, .int .i64 p.2.1, .int .i64 p.2.2]] W (BoolPost W (penOk p))) := fun W => pRight_c p W
  clear kt hr
  obtain ⟨z, hz⟩ : ∃ z, Hid (w.heap.size = z) := ⟨_, rfl⟩
  cases hB : penOk p with
  | false =>
    rw [hB] at HRI0
    obtain ⟨x, y, t⟩ := p
    simp only at HRI0 ⊢
    clear hB
    go_enter Tryd.func3, Tryd.ntmps3
    go_upto_region 1 with (fail)
    rw [hz.out]
    refine name_wp (fun w1 => Blk w1 z 23 [.int .i64 x, .int .i64 y, .int .i64 t] ∧ Below w.heap.size w w1) ⟨by rw [← hz.out]; exact Blk.new w _ [.int .i64 x, .int .i64 y, .int .i64 t], alloc_below' _ _⟩ ?_
    rintro w1 ⟨hb1, hbel1⟩
    go_wp2_with fail
    refine (HA.out w1 (HK.out.keep hbel1)).mono ?_
    rintro en w2 ⟨rfl, hb2⟩
    have HB2 := Lib.hid (hb1.below hb2 hb1.lt)
    have HW2 := Lib.hid (hbel1.trans (hb2.mono hbel1.size))
    clear hb1 hbel1 hb2
    obtain ⟨x0, x1, x2⟩ := threeI HB2.out
    go_wp2_with fail
    refine (HRI0.out w2).mono ?_
    rintro en w3 ⟨rfl, hb3⟩
    have HW3 := Lib.hid (HW2.out.trans (hb3.mono HW2.out.size))
    clear hb3
    go_wp2
    go_ret
    exact ⟨rfl, HW3.out⟩
  | true =>
    rw [hB] at HRI0
    obtain ⟨⟨u, k, m⟩, hq, rfl⟩ := penOk_ok hB
    have HQ := Lib.hid hq
    simp only at HRI0 ⊢
    clear hB hq
    have hval := applyA_ok l HQ.out
    have hri := fun W => pRight_c (((applyA (u, k, m) l).1 : Int), ((applyA (u, k, m) l).2.1 : Int), ((applyA (u, k, m) l).2.2 : Int)) W
    rw [penOk_of hval] at hri
    have HAp : Hid (∀ W, PT W → ReadsI .i64 W A n c l → Calls Tryd.prog 9 #[.agg #[.int .i64 (u : Int), .int .i64 (k : Int), .int .i64 (m : Int)], .slice A n c] W (PenPost W (applyA (u, k, m) l))) := fun W hk hr => apply_c (u, k, m) A n c l W HQ.out hr hk
    by_cases hn : 40 < n
    · have t1 : decide ((40 : Int) < (n : Int)) = true ∧ decide (40 < n) = true := by simp; omega
      obtain ⟨t1, t1'⟩ := t1
      clear hri hval
      go_enter Tryd.func3, Tryd.ntmps3
      go_upto_region 1 with (fail)
      rw [hz.out]
      refine name_wp (fun w1 => Blk w1 z 23 [.int .i64 (u : Int), .int .i64 (k : Int), .int .i64 (m : Int)] ∧ Below w.heap.size w w1) ⟨by rw [← hz.out]; exact Blk.new w _ [.int .i64 (u : Int), .int .i64 (k : Int), .int .i64 (m : Int)], alloc_below' _ _⟩ ?_
      rintro w1 ⟨hb1, hbel1⟩
      go_wp2_with fail
      refine (HA.out w1 (HK.out.keep hbel1)).mono ?_
      rintro en w2 ⟨rfl, hb2⟩
      have HB2 := Lib.hid (hb1.below hb2 hb1.lt)
      have HW2 := Lib.hid (hbel1.trans (hb2.mono hbel1.size))
      clear hb1 hbel1 hb2
      obtain ⟨x0, x1, x2⟩ := threeI HB2.out
      go_wp2_with fail
      refine (HRI0.out w2).mono ?_
      rintro en w3 ⟨rfl, hb3⟩
      have HW3 := Lib.hid (HW2.out.trans (hb3.mono HW2.out.size))
      clear hb3
      go_wp2
      go_ret
      exact ⟨rfl, HW3.out⟩
    have HRA : Hid (∀ W, ReadsI .i64 W A n c l → Calls Tryd.prog 10 #[.agg #[.int .i64 (u : Int), .int .i64 (k : Int), .int .i64 (m : Int)], .slice A n c] W (PenPost W (applyA (u, k, m) l))) := fun W hr => refApply_c (u, k, m) A n c l W HQ.out hr (by omega)
    have t1 : decide ((40 : Int) < (n : Int)) = false ∧ decide (40 < n) = false := by simp; omega
    obtain ⟨t1, t1'⟩ := t1
    obtain ⟨r, hr⟩ : ∃ r, Hid (applyA (u, k, m) l = r) := ⟨_, rfl⟩
    rw [hr.out] at hri HAp HRA
    obtain ⟨a, b, d⟩ := r
    simp only at hri
    have HRI : Hid (∀ W, Calls Tryd.prog 8 #[.agg #[.int .i64 (a : Int), .int .i64 (b : Int), .int .i64 (d : Int)]] W (BoolPost W true)) := fun W => hri W
    clear hri hval
    go_enter Tryd.func3, Tryd.ntmps3
    go_upto_region 1 with (fail)
    rw [hz.out]
    refine name_wp (fun w1 => Blk w1 z 23 [.int .i64 (u : Int), .int .i64 (k : Int), .int .i64 (m : Int)] ∧ Below w.heap.size w w1) ⟨by rw [← hz.out]; exact Blk.new w _ [.int .i64 (u : Int), .int .i64 (k : Int), .int .i64 (m : Int)], alloc_below' _ _⟩ ?_
    rintro w1 ⟨hb1, hbel1⟩
    go_wp2_with fail
    refine (HA.out w1 (HK.out.keep hbel1)).mono ?_
    rintro en w2 ⟨rfl, hb2⟩
    have HB2 := Lib.hid (hb1.below hb2 hb1.lt)
    have HW2 := Lib.hid (hbel1.trans (hb2.mono hbel1.size))
    clear hb1 hbel1 hb2
    obtain ⟨x0, x1, x2⟩ := threeI HB2.out
    go_wp2_with fail
    refine (HRI0.out w2).mono ?_
    rintro en w3 ⟨rfl, hb3⟩
    have HB3 := Lib.hid (HB2.out.below hb3 HB2.out.lt)
    have HW3 := Lib.hid (HW2.out.trans (hb3.mono HW2.out.size))
    clear hb3 x0 x1 x2
    obtain ⟨x0, x1, x2⟩ := threeI HB3.out
    have HR3 := Lib.hid (HR.out.keep HW3.out)
    have HK3 := Lib.hid (HK.out.keep HW3.out)
    go_wp2_with fail
    refine (HAp.out w3 HK3.out HR3.out).mono ?_
    rintro en w4 ⟨rfl, hb4⟩
    simp only [penW]
    obtain ⟨g5, hg5⟩ : ∃ g5, Hid (w4.heap.size = g5) := ⟨_, rfl⟩
    have HR4' := Lib.hid (HR3.out.keep hb4)
    have HB4' := Lib.hid (HB3.out.below hb4 HB3.out.lt)
    have HW4' := Lib.hid (HW3.out.trans (hb4.mono HW3.out.size))
    clear hb4 x0 x1 x2
    go_upto_region 6 with (fail)
    rw [hg5.out]
    refine name_wp (fun w5 => Blk w5 z 23 (penW (u, k, m)) ∧ Blk w5 g5 23 (penW (a, b, d)) ∧ ReadsI .i64 w5 A n c l ∧ Below w.heap.size w w5) ⟨HB4'.out.alloc _, by rw [← hg5.out]; exact Blk.new w4 _ (penW (a, b, d)), HR4'.out.keep (alloc_below' _ _), HW4'.out.alloc HW4'.out.size _⟩ ?_
    rintro w5 ⟨h1, h2, h3, h4⟩
    refine wp_region_any (by kernel_rfl) ?_
    change wpAny _ _ _ _ _ _ _ (World.drew _)
    have HB := Lib.hid h1.drew
    have HB5 := Lib.hid h2.drew
    have HR4 : Hid (ReadsI .i64 w5.drew A n c l) := h3.of_heap rfl
    have hbw5 := h4.drew
    clear h1 h2 h3 h4
    refine wpAny_relyG (g := 0) [(0, 19), (1, 20), (2, 21), (3, 22), (4, 23), (5, 24), (6, 25), (7, 26), (8, 27), (9, 4)] (condAt (C a b d u k m A n c)) [] (by kernel_rfl) rfl (condAt_keep (C_stable a b d u k m A n c)) ?hstep ?hend
    case hstep =>
      intro p hp o ho X W hbel hdep K hK
      obtain ⟨x0, x1, x2⟩ := threeP (HB.out.below hbel HB.out.lt)
      obtain ⟨y0, y1, y2⟩ := threeP (HB5.out.below hbel HB5.out.lt)
      simp only at x0 x1 x2 y0 y1 y2
      simp only [List.mem_cons, List.not_mem_nil, or_false] at hp
      rcases hp with rfl | rfl | rfl | rfl | rfl | rfl | rfl | rfl | rfl | rfl
      · cases Option.some.inj ho
        simp only [frm, List.foldl_cons, List.foldl_nil, Act.put, List.setIfInBounds_toArray, List.set_cons_zero, List.set_cons_succ] at hK ⊢
        clear hdep ho
        rw [if_pos (by rfl)]
        go_simp
        exact hK _ _ rfl (Below.refl _ _) (by simp)
      · cases Option.some.inj ho
        simp only [frm, List.foldl_cons, List.foldl_nil, Act.put, List.setIfInBounds_toArray, List.set_cons_zero, List.set_cons_succ] at hK ⊢
        clear hdep ho
        rw [if_pos (by rfl)]
        go_simp
        exact hK _ _ rfl (Below.refl _ _) (by simp)
      · cases Option.some.inj ho
        simp only [frm, List.foldl_cons, List.foldl_nil, Act.put, List.setIfInBounds_toArray, List.set_cons_zero, List.set_cons_succ] at hK ⊢
        clear hdep ho
        rw [if_pos (by rfl)]
        go_simp
        exact hK _ _ rfl (Below.refl _ _) (by simp)
      · cases Option.some.inj ho
        have d1 : X 1 = .agg #[.int .i64 (u : Int), .int .i64 (k : Int), .int .i64 (m : Int)] := hdep ⟨1, .data⟩ (by simp) rfl rfl
        have d2 : X 2 = .slice A n c := hdep ⟨2, .data⟩ (by simp) rfl rfl
        simp only [frm, List.foldl_cons, List.foldl_nil, Act.put, List.setIfInBounds_toArray, List.set_cons_zero, List.set_cons_succ] at hK ⊢
        clear hdep ho
        rw [d1, d2] at hK ⊢
        clear d1 d2
        rw [if_pos (by rfl)]
        go_simp
        refine (HRA.out _ (HR4.out.keep hbel)).mono ?_
        rintro e w' ⟨rfl, hb⟩
        exact hK _ _ rfl hb (by simp)
      · cases Option.some.inj ho
        have d0 : X 0 = .agg #[.int .i64 (a : Int), .int .i64 (b : Int), .int .i64 (d : Int)] := hdep ⟨0, .data⟩ (by simp) rfl rfl
        have d3 : X 3 = .agg #[.int .i64 (a : Int), .int .i64 (b : Int), .int .i64 (d : Int)] := hdep ⟨3, .data⟩ (by simp) rfl rfl
        simp only [frm, List.foldl_cons, List.foldl_nil, Act.put, List.setIfInBounds_toArray, List.set_cons_zero, List.set_cons_succ] at hK ⊢
        clear hdep ho
        rw [d0, d3] at hK ⊢
        clear d0 d3
        rw [if_pos (by rfl)]
        go_simp
        exact hK _ _ rfl (Below.refl _ _) (by simp)
      · cases Option.some.inj ho
        have d4 : X 4 = .bool true := hdep ⟨4, .data⟩ (by simp) rfl rfl
        simp only [frm, List.foldl_cons, List.foldl_nil, Act.put, List.setIfInBounds_toArray, List.set_cons_zero, List.set_cons_succ] at hK ⊢
        clear hdep ho
        rw [d4] at hK ⊢
        clear d4
        rw [if_pos (by rfl)]
        go_simp
        exact hK _ _ rfl (Below.refl _ _) (by simp)
      · cases Option.some.inj ho
        have d5 : X 5 = .bool true := hdep ⟨5, .guard⟩ (by simp) rfl rfl
        simp only [frm, List.foldl_cons, List.foldl_nil, Act.put, List.setIfInBounds_toArray, List.set_cons_zero, List.set_cons_succ] at hK ⊢
        clear hdep ho
        rw [d5] at hK ⊢
        clear d5
        rw [if_pos (by rfl)]
        go_simp
        exact hK _ _ rfl (Below.refl _ _) (by simp)
      · cases Option.some.inj ho
        have d6 : X 6 = .agg #[.int .i64 (a : Int), .int .i64 (b : Int), .int .i64 (d : Int)] := hdep ⟨6, .data⟩ (by simp) rfl rfl
        have d5 : X 5 = .bool true := hdep ⟨5, .guard⟩ (by simp) rfl rfl
        simp only [frm, List.foldl_cons, List.foldl_nil, Act.put, List.setIfInBounds_toArray, List.set_cons_zero, List.set_cons_succ] at hK ⊢
        clear hdep ho
        rw [d6, d5] at hK ⊢
        clear d6 d5
        rw [if_pos (by rfl)]
        go_simp
        refine (HRI.out _).mono ?_
        rintro e w' ⟨rfl, hb⟩
        exact hK _ _ rfl hb (by simp)
      · cases Option.some.inj ho
        have d5 : X 5 = .bool true := hdep ⟨5, .data⟩ (by simp) rfl rfl
        have d7 : X 7 = .bool true := hdep ⟨7, .data⟩ (by simp) rfl rfl
        simp only [frm, List.foldl_cons, List.foldl_nil, Act.put, List.setIfInBounds_toArray, List.set_cons_zero, List.set_cons_succ] at hK ⊢
        clear hdep ho
        rw [d5, d7] at hK ⊢
        clear d5 d7
        rw [if_pos (by rfl)]
        go_simp
        exact hK _ _ rfl (Below.refl _ _) (by simp)
      · cases Option.some.inj ho
        have d8 : X 8 = .bool true := hdep ⟨8, .data⟩ (by simp) rfl rfl
        simp only [frm, List.foldl_cons, List.foldl_nil, Act.put, List.setIfInBounds_toArray, List.set_cons_zero, List.set_cons_succ] at hK ⊢
        clear hdep ho
        rw [d8] at hK ⊢
        clear d8
        rw [if_pos (by rfl)]
        go_simp
        exact hK _ _ rfl (Below.refl _ _) (by simp)
    case hend =>
      intro X W hbel hall _
      have d9 : X 9 = .bool true := hall (9, 4) (by simp)
      simp only [frm, List.foldl_cons, List.foldl_nil, Act.put, List.setIfInBounds_toArray, List.set_cons_zero, List.set_cons_succ]
      rw [d9]
      clear hall d9
      generalize X 0 = z0
      generalize X 1 = z1
      generalize X 2 = z2
      generalize X 3 = z3
      generalize X 4 = z4
      generalize X 5 = z5
      generalize X 6 = z6
      generalize X 7 = z7
      generalize X 8 = z8
      refine wpAny_done (by kernel_rfl) ?_ _
      have hbw := hbw5.trans (hbel.mono hbw5.size)
      go_wp2
      go_ret
      exact ⟨rfl, hbw⟩
end Go.Proofs.YtajllkfoaigdlaaDoor.penApplies
