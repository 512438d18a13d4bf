/- The walk through PenSteps: for every pen and slice of numbers it returns true and leaves old memory as it was. Conditions: the two tables of the attributes hold what the program lays there. -/
import Derived.Test.YtajllkfoaigdlaaDoorAwake12
import Derived.Test.YtajllkfoaigdlaaDoorOpen9
import Derived.Test.YtajllkfoaigdlaaDoorRely2
import Derived.Test.YtajllkfoaigdlaaDoorPen3
namespace Go.Proofs.YtajllkfoaigdlaaDoor.penSteps
open Go.ChangeShapes Go.WideShapes Go.RowKit
theorem stable_rowI {k : IntKind} {n : Nat} {l : List Int} : Stable (fun v W => ∃ A c, v = .slice A n c ∧ ReadsI k W A n c l) := by
  rintro v w w' ⟨A, c, e, h⟩ hb
  exact ⟨A, c, e, h.keep hb⟩
def C11 (a b d a2 b2 d2 j : Nat) (ad : Addr) (n c : Nat) (y : Int) : List (Value → World → Prop) := [fun v _ => v = .agg #[.int .i64 (a : Int), .int .i64 (b : Int), .int .i64 (d : Int)],
  fun v _ => v = .slice (some ad) n c,
  fun v _ => v = .int .i64 (j : Int),
  fun v _ => v = .pointer (some (ad.add j)),
  fun v _ => v = .int .i64 y,
  (fun v W => ∃ A c, v = .slice A 1 c ∧ ReadsI .i64 W A 1 c ([y])),
  fun v _ => v = .agg #[.int .i64 (a2 : Int), .int .i64 (b2 : Int), .int .i64 (d2 : Int)]]
theorem C11_stable (a b d a2 b2 d2 j : Nat) (ad : Addr) (n c : Nat) (y : Int) : ∀ p ∈ C11 a b d a2 b2 d2 j ad n c y, Stable p := (stable_cons (stable_eq _) (stable_cons (stable_eq _) (stable_cons (stable_eq _) (stable_cons (stable_eq _) (stable_cons (stable_eq _) (stable_cons stable_rowI (stable_cons (stable_eq _) stable_nil)))))))
def C12 (a b d u k m : Nat) (A : Option Addr) (n c : Nat) : List (Value → World → Prop) := [fun v _ => v = .agg #[.int .i64 (a : Int), .int .i64 (b : Int), .int .i64 (d : Int)],
  fun v _ => v = .agg #[.int .i64 (u : Int), .int .i64 (k : Int), .int .i64 (m : Int)],
  fun v _ => v = .slice A n c,
  fun v _ => v = .agg #[.int .i64 (a : Int), .int .i64 (b : Int), .int .i64 (d : Int)],
  fun v _ => v = .bool true,
  fun v _ => v = .bool true]
theorem C12_stable (a b d u k m : Nat) (A : Option Addr) (n c : Nat) : ∀ p ∈ C12 a b d u k m A n c, Stable p := (stable_cons (stable_eq _) (stable_cons (stable_eq _) (stable_cons (stable_eq _) (stable_cons (stable_eq _) (stable_cons (stable_eq _) (stable_cons (stable_eq _) stable_nil))))))
/-- The loop: the pen behind the first j numbers. -/
structure PsSt (w wr : World) (z g : Nat) (q : PenN) (A : Option Addr) (n c : Nat) (l : List Int) (j : Nat) : Prop where
  box : Blk wr z 23 (penW q)
  cur : Blk wr g 23 (penW (applyL q (l.take j)))
  row : ReadsI .i64 wr A n c l
  tab : PT wr
  no : ∀ y ∈ l.take j, ¬ (y = 38 ∨ y = 48)
  bel : Below w.heap.size w wr
theorem applyA_one (p : PenN) {n : Int} (h : ¬ (n = 38 ∨ n = 48)) : applyA p [n] = change p n := by
  unfold applyA
  rw [if_neg (by simp), applyL_one _ _ h, applyL_nil]
set_option maxRecDepth 100000 in
set_option maxHeartbeats 12800000 in
theorem walk (p : Int × Int × Int) (A : Option Addr) (n c : Nat) (l : List Int) (w : World) (_ : fit64 p.1 ∧ fit64 p.2.1 ∧ fit64 p.2.2) (hr : ReadsI .i64 w A n c l) (kt : PT w) :
    Calls Tryd.prog 6 #[.agg #[.int .i64 p.1, .int .i64 p.2.1, .int .i64 p.2.2], .slice A n c] w fun e w' => e = .returned (.bool true) ∧ Below w.heap.size w w' := by
  have HA := Lib.hid (fun W (hk : PT W) => awake12_c W hk)
  have HK := Lib.hid kt
  have HR := Lib.hid hr
  have HLen := Lib.hid hr.len
  have HRI0 : Hid (∀ W, Calls Tryd.prog 8 #[.agg #[.int .i64 p.1, .int .i64 p.2.1, .int .i64 p.2.2]] W (BoolPost W (penOk p))) := fun W => pRight_c p W
  clear kt hr
  obtain ⟨z, hz⟩ : ∃ z, Hid (w.heap.size = z) := ⟨_, rfl⟩
  cases hB : penOk p with
  | false =>
    rw [hB] at HRI0
    obtain ⟨x, y, t⟩ := p
    simp only at HRI0 ⊢
    clear hB
    go_enter Tryd.func6, Tryd.ntmps6
    go_upto_region 1 with (fail)
    rw [hz.out]
    refine name_wp (fun w1 => Blk w1 z 23 [.int .i64 x, .int .i64 y, .int .i64 t] ∧ Below w.heap.size w w1) ⟨by rw [← hz.out]; exact Blk.new w _ [.int .i64 x, .int .i64 y, .int .i64 t], alloc_below' _ _⟩ ?_
    rintro w1 ⟨hb1, hbel1⟩
    go_wp2_with fail
    refine (HA.out w1 (HK.out.keep hbel1)).mono ?_
    rintro en w2 ⟨rfl, hb2⟩
    have HB2 := Lib.hid (hb1.below hb2 hb1.lt)
    have HW2 := Lib.hid (hbel1.trans (hb2.mono hbel1.size))
    clear hb1 hbel1 hb2
    obtain ⟨x0, x1, x2⟩ := threeI HB2.out
    go_wp2_with fail
    refine (HRI0.out w2).mono ?_
    rintro en w3 ⟨rfl, hb3⟩
    have HW3 := Lib.hid (HW2.out.trans (hb3.mono HW2.out.size))
    clear hb3
    go_wp2
    go_ret
    exact ⟨rfl, HW3.out⟩
  | true =>
    rw [hB] at HRI0
    obtain ⟨⟨u, k, m⟩, hq, rfl⟩ := penOk_ok hB
    have HQ := Lib.hid hq
    simp only at HRI0 ⊢
    clear hB hq
    by_cases hn : 40 < n
    · have t1 : decide ((40 : Int) < (n : Int)) = true ∧ decide (40 < n) = true := by simp; omega
      obtain ⟨t1, t1'⟩ := t1
      go_enter Tryd.func6, Tryd.ntmps6
      go_upto_region 1 with (fail)
      rw [hz.out]
      refine name_wp (fun w1 => Blk w1 z 23 [.int .i64 (u : Int), .int .i64 (k : Int), .int .i64 (m : Int)] ∧ Below w.heap.size w w1) ⟨by rw [← hz.out]; exact Blk.new w _ [.int .i64 (u : Int), .int .i64 (k : Int), .int .i64 (m : Int)], alloc_below' _ _⟩ ?_
      rintro w1 ⟨hb1, hbel1⟩
      go_wp2_with fail
      refine (HA.out w1 (HK.out.keep hbel1)).mono ?_
      rintro en w2 ⟨rfl, hb2⟩
      have HB2 := Lib.hid (hb1.below hb2 hb1.lt)
      have HW2 := Lib.hid (hbel1.trans (hb2.mono hbel1.size))
      clear hb1 hbel1 hb2
      obtain ⟨x0, x1, x2⟩ := threeI HB2.out
      go_wp2_with fail
      refine (HRI0.out w2).mono ?_
      rintro en w3 ⟨rfl, hb3⟩
      have HW3 := Lib.hid (HW2.out.trans (hb3.mono HW2.out.size))
      clear hb3
      go_wp2
      go_ret
      exact ⟨rfl, HW3.out⟩
    have t1 : decide ((40 : Int) < (n : Int)) = false ∧ decide (40 < n) = false := by simp; omega
    obtain ⟨t1, t1'⟩ := t1
    by_cases hn0 : n = 0
    · subst hn0
      go_enter Tryd.func6, Tryd.ntmps6
      go_upto_region 1 with (fail)
      rw [hz.out]
      refine name_wp (fun w1 => Blk w1 z 23 [.int .i64 (u : Int), .int .i64 (k : Int), .int .i64 (m : Int)] ∧ Below w.heap.size w w1) ⟨by rw [← hz.out]; exact Blk.new w _ [.int .i64 (u : Int), .int .i64 (k : Int), .int .i64 (m : Int)], alloc_below' _ _⟩ ?_
      rintro w1 ⟨hb1, hbel1⟩
      go_wp2_with fail
      refine (HA.out w1 (HK.out.keep hbel1)).mono ?_
      rintro en w2 ⟨rfl, hb2⟩
      have HB2 := Lib.hid (hb1.below hb2 hb1.lt)
      have HW2 := Lib.hid (hbel1.trans (hb2.mono hbel1.size))
      clear hb1 hbel1 hb2
      obtain ⟨x0, x1, x2⟩ := threeI HB2.out
      go_wp2_with fail
      refine (HRI0.out w2).mono ?_
      rintro en w3 ⟨rfl, hb3⟩
      have HW3 := Lib.hid (HW2.out.trans (hb3.mono HW2.out.size))
      clear hb3
      go_wp2
      go_ret
      exact ⟨rfl, HW3.out⟩
    have t2 : ((n : Int) == 0) = false ∧ decide (n = 0) = false := by simp [hn0]
    obtain ⟨t2, t2'⟩ := t2
    go_enter Tryd.func6, Tryd.ntmps6
    go_upto_region 1 with (fail)
    rw [hz.out]
    refine name_wp (fun w1 => Blk w1 z 23 [.int .i64 (u : Int), .int .i64 (k : Int), .int .i64 (m : Int)] ∧ Below w.heap.size w w1) ⟨by rw [← hz.out]; exact Blk.new w _ [.int .i64 (u : Int), .int .i64 (k : Int), .int .i64 (m : Int)], alloc_below' _ _⟩ ?_
    rintro w1 ⟨hb1, hbel1⟩
    go_wp2_with fail
    refine (HA.out w1 (HK.out.keep hbel1)).mono ?_
    rintro en w2 ⟨rfl, hb2⟩
    have HB2 := Lib.hid (hb1.below hb2 hb1.lt)
    have HW2 := Lib.hid (hbel1.trans (hb2.mono hbel1.size))
    clear hb1 hbel1 hb2
    obtain ⟨x0, x1, x2⟩ := threeI HB2.out
    go_wp2_with fail
    refine (HRI0.out w2).mono ?_
    rintro en w3 ⟨rfl, hb3⟩
    have HB3 := Lib.hid (HB2.out.below hb3 HB2.out.lt)
    have HW3 := Lib.hid (HW2.out.trans (hb3.mono HW2.out.size))
    clear hb3 x0 x1 x2
    obtain ⟨x0, x1, x2⟩ := threeI HB3.out
    obtain ⟨g5, hg5⟩ : ∃ g5, Hid (w3.heap.size = g5) := ⟨_, rfl⟩
    have HG5 : Hid (w.heap.size ≤ g5 ∧ z < g5) := ⟨by rw [← hg5.out]; exact HW3.out.size, by rw [← hg5.out]; exact HB3.out.lt⟩
    go_upto_region 7 with (fail)
    rw [hg5.out]
    refine name_wp (fun w5 => PsSt w w5 z g5 (u, k, m) A n c l 0) ?_ ?_
    · refine ⟨HB3.out.alloc _, by rw [← hg5.out, List.take_zero, applyL_nil]; exact Blk.new w3 _ (penW (u, k, m)), HR.out.keep (HW3.out.alloc HW3.out.size _), (HK.out.keep (HW3.out.alloc HW3.out.size _)), by simp, HW3.out.alloc HW3.out.size _⟩
    intro w5 hs5
    have HS := Lib.hid hs5
    clear hs5 x0 x1 x2 t2 t2'
    go_loopw [6] (fun i wr => ∃ j : Nat, j ≤ n ∧ i = .int .i64 j ∧ Hid (PsSt w wr z g5 (u, k, m) A n c l j)) (fun i _ => n - (intOf i).toNat)
    case atStart => exact ⟨0, Nat.zero_le _, rfl, HS⟩
    case round =>
      obtain ⟨j, hj, rfl, HJ⟩ := hrel
      clear HS
      have hok := applyL_ok _ (u, k, m) (l.take j) (Nat.le_refl _) HQ.out
      have HBelW : Hid (∀ W, Below wr.heap.size wr W → Below w.heap.size w W) := fun W h => HJ.out.bel.trans (h.mono HJ.out.bel.size)
      have HC0 : Hid (Blk wr.drew z 23 (penW (u, k, m))) := HJ.out.box.drew
      have hc5 : Blk wr.drew g5 23 (penW (applyL (u, k, m) (l.take j))) := HJ.out.cur.drew
      have HRr : Hid (ReadsI .i64 wr.drew A n c l) := HJ.out.row.of_heap rfl
      have HKt : Hid (PT wr.drew) := HJ.out.tab.of_heap rfl
      by_cases hlt : j < n
      · have q1 : decide ((j : Int) < (n : Int)) = true ∧ decide (j < n) = true := by simp; omega
        obtain ⟨q1, q1'⟩ := q1
        have hlt2 : (j : Int) < (n : Int) := by omega
        have j0 : (0 : Int) ≤ (j : Int) := by omega
        have hjl : j < l.length := by rw [HLen.out]; exact hlt
        obtain ⟨ad, rfl, hadlt, hcx⟩ := HJ.out.row.cell j hjl
        have HWf := Lib.hid (HR.out.wf l[j] (List.getElem_mem hjl))
        have htk := List.take_succ_eq_append_getElem hjl
        obtain ⟨y, hy⟩ : ∃ y, Hid (l[j] = y) := ⟨l[j], rfl⟩
        rw [hy.out] at hcx HWf htk
        by_cases hyy : y = 38 ∨ y = 48
        · rcases hyy with rfl | rfl
          all_goals
            go_wp2
            go_ret
            exact ⟨rfl, HJ.out.bel⟩
        · have q2 : (y == 38) = false ∧ (y == 48) = false ∧ decide (y = 38) = false ∧ decide (y = 48) = false := by simp; omega
          obtain ⟨q2, q3, q4, q5⟩ := q2
          have hsn := applyL_snoc (l.take j) (u, k, m) y HJ.out.no hyy
          have hnx := applyA_one (applyL (u, k, m) (l.take j)) hyy
          have hap : ∀ (A : Option Addr) (c : Nat) W, PT W → ReadsI .i64 W A 1 c [y] → Calls Tryd.prog 9 #[.agg (penW (applyL (u, k, m) (l.take j))).toArray, .slice A 1 c] W (PenPost W (applyA (applyL (u, k, m) (l.take j)) [y])) := fun A c W hk hr => apply_c _ A 1 c [y] W hok hr hk
          rw [hnx] at hap
          rw [← htk] at hsn
          have HCur : Hid (applyL (u, k, m) (l.take (j + 1)) = change (applyL (u, k, m) (l.take j)) y) := hsn
          have HNo : Hid (∀ t ∈ l.take (j + 1), ¬ (t = 38 ∨ t = 48)) := by
            intro t ht
            rw [htk] at ht
            rcases List.mem_append.1 ht with h | h
            · exact HJ.out.no t h
            · simp at h; subst h; exact hyy
          clear hnx hsn hyy htk
          generalize change (applyL (u, k, m) (l.take j)) y = r2 at *
          generalize applyL (u, k, m) (l.take j) = r at *
          obtain ⟨a, b, d⟩ := r
          obtain ⟨a2, b2, d2⟩ := r2
          have HC5 := Lib.hid hc5
          have HAp1 : Hid (∀ (A : Option Addr) (c : Nat) W, PT W → ReadsI .i64 W A 1 c [y] → Calls Tryd.prog 9 #[.agg #[.int .i64 (a : Int), .int .i64 (b : Int), .int .i64 (d : Int)], .slice A 1 c] W fun en w' => en = .returned (.agg #[.int .i64 (a2 : Int), .int .i64 (b2 : Int), .int .i64 (d2 : Int)]) ∧ Below W.heap.size W w') := hap
          have HAd : Hid (ad.block < wr.drew.heap.size) := hadlt
          have HCy : Hid (wr.drew.cell? (ad.add j) = some (.int .i64 y)) := hcx
          clear hap hc5 hadlt hok
          go_upto_region 11 with (fail)
          clear hcx
          refine wp_region_any (by kernel_rfl) ?_
          change wpAny _ _ _ _ _ _ _ (World.drew _)
          refine wpAny_relyG (g := 1) [(0, 41), (1, 42), (2, 43), (3, 44), (4, 45), (5, 46), (6, 47)] (condAt (C11 a b d a2 b2 d2 j ad n c y)) [] (by kernel_rfl) rfl (condAt_keep (C11_stable a b d a2 b2 d2 j ad n c y)) ?hstep ?hend
          case hstep =>
            intro p hp o ho X W hbel hdep K hK
            obtain ⟨y0, y1, y2⟩ := threeP (HC5.out.below hbel HC5.out.lt)
            simp only at y0 y1 y2
            have hcy := (hbel.cell (p := ad.add j) (by rw [block_add]; exact HAd.out)).trans HCy.out
            simp only [List.mem_cons, List.not_mem_nil, or_false] at hp
            rcases hp with rfl | rfl | rfl | rfl | rfl | rfl | rfl
            · cases Option.some.inj ho
              simp only [frm, List.foldl_cons, List.foldl_nil, Act.put, List.setIfInBounds_toArray, List.set_cons_zero, List.set_cons_succ] at hK ⊢
              clear hdep ho
              rw [if_pos (by rfl)]
              go_simp
              exact hK _ _ rfl (Below.refl _ _) (by simp)
            · cases Option.some.inj ho
              simp only [frm, List.foldl_cons, List.foldl_nil, Act.put, List.setIfInBounds_toArray, List.set_cons_zero, List.set_cons_succ] at hK ⊢
              clear hdep ho
              rw [if_pos (by rfl)]
              go_simp
              exact hK _ _ rfl (Below.refl _ _) (by simp)
            · cases Option.some.inj ho
              simp only [frm, List.foldl_cons, List.foldl_nil, Act.put, List.setIfInBounds_toArray, List.set_cons_zero, List.set_cons_succ] at hK ⊢
              clear hdep ho
              rw [if_pos (by rfl)]
              go_simp
              exact hK _ _ rfl (Below.refl _ _) (by simp)
            · cases Option.some.inj ho
              have d1 : X 1 = .slice (some ad) n c := hdep ⟨1, .data⟩ (by simp) rfl rfl
              have d2 : X 2 = .int .i64 (j : Int) := hdep ⟨2, .data⟩ (by simp) rfl rfl
              simp only [frm, List.foldl_cons, List.foldl_nil, Act.put, List.setIfInBounds_toArray, List.set_cons_zero, List.set_cons_succ] at hK ⊢
              clear hdep ho
              rw [d1, d2] at hK ⊢
              clear d1 d2
              rw [if_pos (by rfl)]
              go_simp
              exact hK _ _ rfl (Below.refl _ _) (by simp)
            · cases Option.some.inj ho
              have d3 : X 3 = .pointer (some (ad.add j)) := hdep ⟨3, .data⟩ (by simp) rfl rfl
              simp only [frm, List.foldl_cons, List.foldl_nil, Act.put, List.setIfInBounds_toArray, List.set_cons_zero, List.set_cons_succ] at hK ⊢
              clear hdep ho
              rw [d3] at hK ⊢
              clear d3
              rw [if_pos (by rfl)]
              go_simp
              exact hK _ _ rfl (Below.refl _ _) (by simp)
            · cases Option.some.inj ho
              have d4 : X 4 = .int .i64 y := hdep ⟨4, .data⟩ (by simp) rfl rfl
              simp only [frm, List.foldl_cons, List.foldl_nil, Act.put, List.setIfInBounds_toArray, List.set_cons_zero, List.set_cons_succ] at hK ⊢
              clear hdep ho
              rw [d4] at hK ⊢
              clear d4
              rw [if_pos (by rfl)]
              go_simp
              exact hK _ _ ⟨_, _, rfl, readsI_new rfl rfl (by decide) (by intro t ht; simp at ht; subst ht; exact HWf.out)⟩ (alloc_below' _ _) (by simp)
            · cases Option.some.inj ho
              have d0 : X 0 = .agg #[.int .i64 (a : Int), .int .i64 (b : Int), .int .i64 (d : Int)] := hdep ⟨0, .data⟩ (by simp) rfl rfl
              have h5 : ∃ A c, (X 5) = .slice A 1 c ∧ ReadsI .i64 W A 1 c ([y]) := hdep ⟨5, .data⟩ (by simp) rfl rfl
              simp only [frm, List.foldl_cons, List.foldl_nil, Act.put, List.setIfInBounds_toArray, List.set_cons_zero, List.set_cons_succ] at hK ⊢
              clear hdep ho
              rw [d0] at hK ⊢
              clear d0
              rw [if_pos (by rfl)]
              obtain ⟨A5, c5, d5, ra5⟩ := h5
              rw [d5] at hK ⊢
              clear d5
              go_simp
              refine (HAp1.out _ _ _ (HKt.out.keep hbel) ra5).mono ?_
              rintro e w' ⟨rfl, hb⟩
              exact hK _ _ rfl hb (by simp)
          case hend =>
            intro X W hbel hall _
            have d6 : X 6 = .agg #[.int .i64 (a2 : Int), .int .i64 (b2 : Int), .int .i64 (d2 : Int)] := hall (6, 47) (by simp)
            simp only [frm, List.foldl_cons, List.foldl_nil, Act.put, List.setIfInBounds_toArray, List.set_cons_zero, List.set_cons_succ]
            rw [d6]
            clear hall d6
            generalize X 0 = z0
            generalize X 1 = z1
            generalize X 2 = z2
            generalize X 3 = z3
            generalize X 4 = z4
            generalize X 5 = z5
            refine wpAny_ready (rs := [7]) (by kernel_rfl) (by simp) (AllReady.cons (o := ⟨none, .store 23 (.tmp 5) (.tmp 47), _, _, _, _⟩) rfl (fun K hK => ?_) AllReady.nil)
            refine step_store_blk rfl rfl 23 (.tmp 5) (.tmp 47) rfl g5 rfl (penW (a2, b2, d2)) rfl (penW (a, b, d)) 23 (HC5.out.below hbel HC5.out.lt) rfl (one_penW _) sizePen ?_
            intro w4 hb4 hg4
            refine hK _ _ ?_
            clear hK K
            try simp only [Act.put, List.setIfInBounds_toArray, List.set_cons_zero, List.set_cons_succ]
            refine wpAny_done (by kernel_rfl) ?_ _
            have HS4 : Hid (PsSt w w4 z g5 (u, k, m) (some ad) n c l (j + 1)) := by
              refine ⟨(HC0.out.below hbel HC0.out.lt).grown hg4 (fun e => by have := HG5.out.2; have := Option.some.inj e; omega), by rw [HCur.out]; exact hb4, (HRr.out.keep hbel).off_kept (fun ad' e => by
                  cases e
                  obtain ⟨ad2, e2, h2, _⟩ := HR.out.cell j hjl
                  cases e2
                  have := HG5.out.1
                  omega) hg4, (HKt.out.keep hbel).grown hg4 (fun k e => by have := HK.out.lt.2; have := HG5.out.1; have := Option.some.inj e; omega), HNo.out, ?_⟩
              have hb := HBelW.out _ ((Below.refl wr.heap.size wr).drew.trans hbel)
              exact hb.grown hg4 hb.size (fun k e => by have := HG5.out.1; have := Option.some.inj e; omega)
            clear hb4 hg4 hbel
            go_wp2
            go_roundw
            case rel => exact ⟨j + 1, by omega, by go_num, HS4⟩
            case measure => simp [intOf]; omega
      · have hjn : Hid (j = n) := by show _ = _; omega
        have q1 : decide ((j : Int) < (n : Int)) = false ∧ decide (j < n) = false := by simp; omega
        obtain ⟨q1, q1'⟩ := q1
        have htk : l.take j = l := List.take_of_length_le (by rw [HLen.out, hjn.out]; exact Nat.le_refl _)
        have hne : l ≠ [] := by intro e; have := HLen.out; rw [e] at this; simp at this; omega
        have hap : ∀ W, PT W → ReadsI .i64 W A n c l → Calls Tryd.prog 9 #[.agg #[.int .i64 (u : Int), .int .i64 (k : Int), .int .i64 (m : Int)], .slice A n c] W (PenPost W (applyA (u, k, m) l)) := fun W hk hr => apply_c (u, k, m) A n c l W HQ.out hr hk
        rw [show applyA (u, k, m) l = applyL (u, k, m) l by unfold applyA; rw [if_neg hne]] at hap
        rw [htk] at hc5 hok
        clear htk hne
        generalize applyL (u, k, m) l = r at *
        obtain ⟨a, b, d⟩ := r
        have HC5 := Lib.hid hc5
        have HAp2 : Hid (∀ W, PT W → ReadsI .i64 W A n c l → Calls Tryd.prog 9 #[.agg #[.int .i64 (u : Int), .int .i64 (k : Int), .int .i64 (m : Int)], .slice A n c] W fun en w' => en = .returned (.agg #[.int .i64 (a : Int), .int .i64 (b : Int), .int .i64 (d : Int)]) ∧ Below W.heap.size W w') := hap
        clear hap hc5 hok
        go_upto_region 12 with (fail)
        refine wp_region_any (by kernel_rfl) ?_
        change wpAny _ _ _ _ _ _ _ (World.drew _)
        refine wpAny_relyG (g := 0) [(0, 48), (1, 49), (2, 50), (3, 51), (4, 52), (5, 4)] (condAt (C12 a b d u k m A n c)) [] (by kernel_rfl) rfl (condAt_keep (C12_stable a b d u k m A n c)) ?hstepB ?hendB
        case hstepB =>
          intro p hp o ho X W hbel hdep K hK
          obtain ⟨x0, x1, x2⟩ := threeP (HC0.out.below hbel HC0.out.lt)
          obtain ⟨y0, y1, y2⟩ := threeP (HC5.out.below hbel HC5.out.lt)
          simp only at x0 x1 x2 y0 y1 y2
          simp only [List.mem_cons, List.not_mem_nil, or_false] at hp
          rcases hp with rfl | rfl | rfl | rfl | rfl | rfl
          · cases Option.some.inj ho
            simp only [frm, List.foldl_cons, List.foldl_nil, Act.put, List.setIfInBounds_toArray, List.set_cons_zero, List.set_cons_succ] at hK ⊢
            clear hdep ho
            rw [if_pos (by rfl)]
            go_simp
            exact hK _ _ rfl (Below.refl _ _) (by simp)
          · cases Option.some.inj ho
            simp only [frm, List.foldl_cons, List.foldl_nil, Act.put, List.setIfInBounds_toArray, List.set_cons_zero, List.set_cons_succ] at hK ⊢
            clear hdep ho
            rw [if_pos (by rfl)]
            go_simp
            exact hK _ _ rfl (Below.refl _ _) (by simp)
          · cases Option.some.inj ho
            simp only [frm, List.foldl_cons, List.foldl_nil, Act.put, List.setIfInBounds_toArray, List.set_cons_zero, List.set_cons_succ] at hK ⊢
            clear hdep ho
            rw [if_pos (by rfl)]
            go_simp
            exact hK _ _ rfl (Below.refl _ _) (by simp)
          · cases Option.some.inj ho
            have d1 : X 1 = .agg #[.int .i64 (u : Int), .int .i64 (k : Int), .int .i64 (m : Int)] := hdep ⟨1, .data⟩ (by simp) rfl rfl
            have d2 : X 2 = .slice A n c := hdep ⟨2, .data⟩ (by simp) rfl rfl
            simp only [frm, List.foldl_cons, List.foldl_nil, Act.put, List.setIfInBounds_toArray, List.set_cons_zero, List.set_cons_succ] at hK ⊢
            clear hdep ho
            rw [d1, d2] at hK ⊢
            clear d1 d2
            rw [if_pos (by rfl)]
            go_simp
            refine (HAp2.out _ (HKt.out.keep hbel) (HRr.out.keep hbel)).mono ?_
            rintro e w' ⟨rfl, hb⟩
            exact hK _ _ rfl hb (by simp)
          · cases Option.some.inj ho
            have d0 : X 0 = .agg #[.int .i64 (a : Int), .int .i64 (b : Int), .int .i64 (d : Int)] := hdep ⟨0, .data⟩ (by simp) rfl rfl
            have d3 : X 3 = .agg #[.int .i64 (a : Int), .int .i64 (b : Int), .int .i64 (d : Int)] := hdep ⟨3, .data⟩ (by simp) rfl rfl
            simp only [frm, List.foldl_cons, List.foldl_nil, Act.put, List.setIfInBounds_toArray, List.set_cons_zero, List.set_cons_succ] at hK ⊢
            clear hdep ho
            rw [d0, d3] at hK ⊢
            clear d0 d3
            rw [if_pos (by rfl)]
            go_simp
            exact hK _ _ rfl (Below.refl _ _) (by simp)
          · cases Option.some.inj ho
            have d4 : X 4 = .bool true := hdep ⟨4, .data⟩ (by simp) rfl rfl
            simp only [frm, List.foldl_cons, List.foldl_nil, Act.put, List.setIfInBounds_toArray, List.set_cons_zero, List.set_cons_succ] at hK ⊢
            clear hdep ho
            rw [d4] at hK ⊢
            clear d4
            rw [if_pos (by rfl)]
            go_simp
            exact hK _ _ rfl (Below.refl _ _) (by simp)
        case hendB =>
          intro X W hbel hall _
          have d5 : X 5 = .bool true := hall (5, 4) (by simp)
          simp only [frm, List.foldl_cons, List.foldl_nil, Act.put, List.setIfInBounds_toArray, List.set_cons_zero, List.set_cons_succ]
          rw [d5]
          clear hall d5
          generalize X 0 = z0
          generalize X 1 = z1
          generalize X 2 = z2
          generalize X 3 = z3
          generalize X 4 = z4
          refine wpAny_done (by kernel_rfl) ?_ _
          have hbw := HBelW.out _ ((Below.refl wr.heap.size wr).drew.trans hbel)
          go_wp2
          go_ret
          exact ⟨rfl, hbw⟩
end Go.Proofs.YtajllkfoaigdlaaDoor.penSteps
