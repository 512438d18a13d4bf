/- What the functions Colour and Apply of package pen return, for every slice of numbers and every pen that may be, as walks through the translated text. Conditions: the slice reads as a list; the two tables of the attributes hold what the program lays there. -/
import Derived.Test.YtajllkfoaigdlaaDoorPen1
namespace Go.Proofs.YtajllkfoaigdlaaDoor
open Go.ChangeShapes Go.WideShapes Go.RowKit
theorem ReadsI.first {w : World} {A : Option Addr} {n c : Nat} {x : Int} {r : List Int} (h : ReadsI .i64 w A n c (x :: r)) : ∃ ad, A = some ad ∧ w.cell? ad = some (.int .i64 x) := by
  obtain ⟨ad, e, _, hc⟩ := h.cell 0 (by simp)
  exact ⟨ad, e, hc⟩
theorem ReadsI.second {w : World} {ad : Addr} {n c : Nat} {x y : Int} {r : List Int} (h : ReadsI .i64 w (some ad) n c (x :: y :: r)) : w.cell? ⟨ad.block, ad.off + 1, none⟩ = some (.int .i64 y) := by
  obtain ⟨ad', e, _, hc⟩ := h.cell 1 (by simp)
  cases e
  exact hc
def ColPost (w : World) (r : Int × Nat) (en : Ending) (w' : World) : Prop := en = .returned (.tuple #[.int .i64 r.1, .int .i64 (r.2 : Int)]) ∧ w = w'
set_option maxHeartbeats 1600000 in
theorem colour_c (A : Option Addr) (n c : Nat) (l : List Int) (w : World) (hr : ReadsI .i64 w A n c l) : Calls Tryd.prog 13 #[.slice A n c] w (ColPost w (colZ l)) := by
  have hn : n ≤ 9223372036854775807 := by have := hr.room; have := hr.cap; unfold maxLen at this; omega
  have hlen := hr.len
  cases l with
  | nil =>
    obtain rfl : n = 0 := hlen.symm
    rw [colZ_nil]
    clear hr hlen
    go_enter Tryd.func13, Tryd.ntmps13
    go_wp2
    go_ret2
    exact ⟨rfl, rfl⟩
  | cons x r =>
    obtain ⟨ad, rfl, c0⟩ := hr.first
    have hn1 : r.length + 1 = n := by simpa using hlen
    have t0 : decide (n = 0) = false ∧ ((n : Int) == 0) = false ∧ (0 : Int) < (n : Int) ∧ 0 < n := by simp; omega
    obtain ⟨t0, t0', p0, p1⟩ := t0
    by_cases h2 : x = 2
    · subst h2
      rw [colZ_two, hn1]
      clear hr hlen hn1
      rcases Nat.lt_or_ge n 4 with h4 | h4
      · rw [Nat.min_eq_right (by omega)]
        have d4 : (n : Int) < 4 := by omega
        go_enter Tryd.func13, Tryd.ntmps13
        go_wp2
        go_ret2
        exact ⟨rfl, rfl⟩
      · rw [Nat.min_eq_left h4]
        have d4 : ¬ (n : Int) < 4 := by omega
        have d4' : (4 : Int) ≤ (n : Int) := by omega
        go_enter Tryd.func13, Tryd.ntmps13
        go_wp2
        go_ret2
        exact ⟨rfl, rfl⟩
    · have t1 : (x == 2) = false ∧ decide (x = 2) = false := by simp [h2]
      obtain ⟨t1, t1'⟩ := t1
      by_cases h5 : x = 5
      · subst h5
        cases r with
        | nil =>
          obtain rfl : n = 1 := hn1.symm
          rw [colZ_other [] h2 (.inr rfl)]
          clear hr hlen hn1 t1 t1'
          go_enter Tryd.func13, Tryd.ntmps13
          go_wp2
          go_ret2
          exact ⟨rfl, rfl⟩
        | cons y r =>
          have c1 := hr.second
          have hn2 : r.length + 2 = n := by simpa using hlen
          have t3 : decide (n = 1) = false ∧ ((n : Int) == 1) = false ∧ (1 : Int) < (n : Int) ∧ 1 < n := by simp; omega
          obtain ⟨t3, t3', p2, p3⟩ := t3
          clear t1 t1'
          by_cases hy : y < 0
          · rw [colZ_bad r (.inl hy)]
            have t4 : decide (y < 0) = true := by simpa using hy
            clear hr hlen hn1 hn2
            go_enter Tryd.func13, Tryd.ntmps13
            go_wp2
            go_ret2
            exact ⟨rfl, rfl⟩
          · have t4 : decide (y < 0) = false := by simpa using hy
            by_cases hz : 255 < y
            · rw [colZ_bad r (.inr hz)]
              have t5 : decide (255 < y) = true := by simpa using hz
              clear hr hlen hn1 hn2
              go_enter Tryd.func13, Tryd.ntmps13
              go_wp2
              go_ret2
              exact ⟨rfl, rfl⟩
            · rw [colZ_hit r (by omega) (by omega)]
              have t5 : decide (255 < y) = false := by simpa using hz
              clear hr hlen hn1 hn2
              go_enter Tryd.func13, Tryd.ntmps13
              go_wp2
              go_ret2
              exact ⟨rfl, rfl⟩
      · rw [colZ_other r h2 (.inl h5)]
        have t2 : (x != 5) = true ∧ decide (x ≠ 5) = true ∧ decide (x = 5) = false := by simp [h5]
        obtain ⟨t2, t2', t2''⟩ := t2
        clear hr hlen hn1 h2 h5
        go_enter Tryd.func13, Tryd.ntmps13
        go_wp2
        go_ret2
        exact ⟨rfl, rfl⟩
theorem sizePen : (Tryd.prog.info? 23).map (·.size) = some 3 := by kernel_rfl
theorem one_penW (p : PenN) : ∀ v ∈ penW p, v.oneCell' = true := by
  intro v hv
  simp only [penW, List.mem_cons, List.not_mem_nil, or_false] at hv
  rcases hv with rfl | rfl | rfl <;> rfl
def lenP : Value → Nat
  | .slice _ n _ => n
  | _ => 0
/-- The loop of Apply: the pen as it has become, the numbers that are left. -/
structure ApSt (w wr : World) (z : Nat) (p : PenN) (A : Option Addr) (n c : Nat) (l : List Int) (q : PenN) : Prop where
  box : Blk wr z 23 (penW p)
  res : Blk wr (z + 1) 23 (penW (0, 0, 0))
  row : ReadsI .i64 wr A n c l
  ok : p.ok
  eq : applyL p l = q
  bel : Below z w wr
  off : ∀ ad, A = some ad → ad.block < z
set_option maxHeartbeats 12800000 in
set_option maxRecDepth 100000 in
theorem apply_c (p : PenN) (A : Option Addr) (n c : Nat) (l : List Int) (w : World) (hp : p.ok) (hr : ReadsI .i64 w A n c l) (hk : PT w) : Calls Tryd.prog 9 #[.agg (penW p).toArray, .slice A n c] w (PenPost w (applyA p l)) := by
  have hn : n ≤ 9223372036854775807 := by have := hr.room; have := hr.cap; unfold maxLen at this; omega
  have hlen := hr.len
  cases hl : l with
  | nil =>
    subst hl
    obtain rfl : n = 0 := hlen.symm
    rw [show applyA p [] = (0, 0, 0) from rfl]
    obtain ⟨f, b, m⟩ := p
    simp only [penW]
    clear hr hlen
    go_enter Tryd.func9, Tryd.ntmps9
    go_wp2
    refine bodyPost_ret (v := .agg (penW (0, 0, 0)).toArray) ?_ rfl ⟨rfl, below_two _ _ _⟩
    exact results_cell_row rfl _ _ (w.heap.size + 1) _ _ _ _ rfl (blk_two _ _ _ (0, 0, 0)) Tryd.underlying23 rfl (by kernel_rfl)
  | cons x0 r0 =>
    rw [show applyA p (x0 :: r0) = applyL p l by unfold applyA; rw [if_neg (by simp), hl]]
    have hn0 : 0 < n := by rw [hl] at hlen; simp at hlen; omega
    have t0 : decide (n = 0) = false ∧ ((n : Int) == 0) = false := by simp; omega
    obtain ⟨t0, t0'⟩ := t0
    have hoff : ∀ ad, A = some ad → ad.block < w.heap.size := by
      obtain ⟨ad, e, h, _⟩ := hr.cell 0 (by rw [hlen]; exact hn0)
      intro ad' e'
      rw [e] at e'; cases e'; exact h
    clear hl
    obtain ⟨q, hq⟩ : ∃ q, Hid (applyL p l = q) := ⟨_, rfl⟩
    rw [hq.out]
    obtain ⟨z, hz⟩ : ∃ z, Hid (w.heap.size = z) := ⟨_, rfl⟩
    have HK := Lib.hid hk
    have HR := Lib.hid hr
    have HOff := Lib.hid hoff
    have HP := Lib.hid hp
    clear hr hk hp hlen hoff
    obtain ⟨f, b, m⟩ := p
    simp only [penW]
    go_enter Tryd.func9, Tryd.ntmps9
    go_upto_region 1 with (fail)
    rw [hz.out]
    refine name_wp (fun w1 => ApSt w w1 z (f, b, m) A n c l q) ?_ ?_
    · rw [← hz.out]
      exact ⟨(Blk.new w _ (penW (f, b, m))).alloc _, blk_two _ _ _ (0, 0, 0), HR.out.keep (below_two _ _ _), HP.out, hq.out, below_two _ _ _, HOff.out⟩
    intro w1 hs1
    have HS1 := Lib.hid hs1
    clear hs1 HR HOff HP hq
    go_upto_region 3 with (fail)
    go_loopw [1] (fun v wr => ∃ (A' : Option Addr) (n' c' : Nat) (l' : List Int) (p' : PenN), v = .slice A' n' c' ∧ Hid (ApSt w wr z p' A' n' c' l' q)) (fun v _ => lenP v)
    case atStart => exact ⟨A, n, c, l, (f, b, m), rfl, HS1⟩
    case round =>
      obtain ⟨A', n', c', l', p', rfl, HS⟩ := hrel
      clear HS1 t0 t0' hn0 hn
      have hn' : n' ≤ 9223372036854775807 := by have := HS.out.row.room; have := HS.out.row.cap; unfold maxLen at this; omega
      obtain ⟨f', b', m'⟩ := p'
      have b0 : wr.cell? ⟨z, 0, none⟩ = some (.int .i64 (f' : Int)) := HS.out.box.cell 0
      have b1 : wr.cell? ⟨z, 1, none⟩ = some (.int .i64 (b' : Int)) := HS.out.box.cell 1
      have b2 : wr.cell? ⟨z, 2, none⟩ = some (.int .i64 (m' : Int)) := HS.out.box.cell 2
      cases l' with
      | nil =>
        obtain rfl : n' = 0 := HS.out.row.len.symm
        have hq : q = (f', b', m') := by rw [← HS.out.eq, applyL_nil]
        subst hq
        go_wp2_with ((with_reducible refine at_store 23 ?_); refine wpList_store_at rfl rfl 23 (.tmp 4) (.tmp 47) rfl (z + 1) 0 rfl (penW (f', b', m')) rfl _ _ HS.out.res (Nat.le_refl 3) (one_penW _) sizePen ?_; intro w8 hb8 hg8; rw [splice_all _ _ (by rfl)] at hb8; have HB8 := Lib.hid hb8; have HG8 := Lib.hid hg8; clear hb8 hg8)
        refine bodyPost_ret (v := .agg (penW (f', b', m')).toArray) ?_ rfl ⟨rfl, ?_⟩
        · exact results_cell_row rfl _ _ (z + 1) _ _ _ _ rfl HB8.out Tryd.underlying23 rfl (by kernel_rfl)
        · rw [hz.out]
          exact HS.out.bel.grown HG8.out (by have := HS.out.bel.size; have := hz.out; omega) (fun x hx => by cases hx; omega)
      | cons x r =>
        obtain ⟨ad, rfl, c0⟩ := HS.out.row.first
        have hlen : r.length + 1 = n' := by have := HS.out.row.len; simpa using this
        have p0 : 0 < n' := by omega
        have p1 : (0 : Int) < (n' : Int) := by omega
        have p3 : 1 ≤ n' := by omega
        have hzlt := HS.out.box.lt
        by_cases hx : x = 38 ∨ x = 48
        rotate_left
        · have t1 : (x != 38) = true ∧ (x != 48) = true ∧ decide (x = 38) = false ∧ decide (x = 48) = false := by simp; omega
          obtain ⟨t1, t2, t3, t4⟩ := t1
          have HX : Hid (applyL (change (f', b', m') x) r = q) := by
            show _ = q
            rw [← applyL_one _ r hx]; exact HS.out.eq
          have HCh : Hid (∀ W, PT W → Calls Tryd.prog 15 #[.agg #[.int .i64 (f' : Int), .int .i64 (b' : Int), .int .i64 (m' : Int)], .int .i64 x] W (PenPost W (change (f', b', m') x))) := fun W hk => change_c (f', b', m') x W (range_i64 x (HS.out.row.wf x (by simp))).2 HS.out.ok hk
          have HKr : Hid (PT wr) := HK.out.keep (by rw [hz.out]; exact HS.out.bel)
          have HOk : Hid ((change (f', b', m') x).ok) := change_ok x HS.out.ok
          generalize change (f', b', m') x = p2 at *
          clear hx
          go_wp2_with ((with_reducible refine at_slice_l 24 ?_); refine wpList_cut_lI (k := .i64) (L := x :: r) rfl (.tmp 18) (.const (.int .i64 1)) rfl Tryd.underlying24 (by kernel_rfl) rfl .i64 1 1 rfl rfl p3 ?_; intro A2 hr2 ho2; have HR2 := Lib.hid (hr2 _ HS.out.row); have HO2 := Lib.hid ho2; clear hr2 ho2)
          refine (HCh.out wr HKr.out).mono ?_
          rintro en w3 ⟨rfl, hb3⟩
          have HB3 := Lib.hid hb3
          have hbox3 := HS.out.box.below hb3 hzlt
          clear hb3 b0 b1 b2 c0
          go_wp2_with ((with_reducible refine at_store 23 ?_); refine wpList_store_at rfl rfl 23 (.tmp 2) (.tmp 28) rfl z 0 rfl (penW p2) rfl _ _ hbox3 (Nat.le_refl 3) (one_penW _) sizePen ?_; intro w8 hb8 hg8; rw [splice_all _ _ (by rfl)] at hb8; have HB8 := Lib.hid hb8; have HG8 := Lib.hid hg8; clear hb8 hg8)
          go_roundw
          case rel =>
            refine ⟨A2, n' - 1, c' - 1, r, p2, by trivial, Lib.hid ⟨HB8.out, ?_, ?_, HOk.out, HX.out, ?_, ?_⟩⟩
            · exact (HS.out.res.below HB3.out HS.out.res.lt).grown HG8.out (by simp)
            · exact (HR2.out.keep HB3.out).off_kept (fun ad' e => by obtain ⟨ad2, e2, e3⟩ := HO2.out ad' e; have := HS.out.off ad2 e2; omega) HG8.out
            · exact (HS.out.bel.trans (HB3.out.mono (Nat.le_of_lt hzlt))).grown HG8.out (by have := HB3.out.size; omega) (fun x hx => by cases hx; omega)
            · intro ad' e
              obtain ⟨ad2, e2, e3⟩ := HO2.out ad' e
              have := HS.out.off ad2 e2
              omega
          case measure => simp [lenP]; omega
        · obtain ⟨cr, hcr⟩ : ∃ cr, Hid (colZ r = cr) := ⟨_, rfl⟩
          have hu := colZ_le r
          have hcc := colZ_range r
          have HX : Hid (applyL (paint (f', b', m') x (colZ r).1) (r.drop (colZ r).2) = q) := by
            show _ = q
            rw [← applyL_col _ r hx]; exact HS.out.eq
          have HCo : Hid (∀ (A : Option Addr) (n c : Nat) W, ReadsI .i64 W A n c r → Calls Tryd.prog 13 #[.slice A n c] W (ColPost W cr)) := fun A n c W h => by rw [← hcr.out]; exact colour_c A n c r W h
          rw [hcr.out] at hu hcc HX
          obtain ⟨cc, u⟩ := cr
          simp only at hu hcc HX
          have hu2 : u ≤ n' - 1 := by omega
          have hun : (u : Int) ≤ 9223372036854775807 := by omega
          have fr0 := HS.out.box.frozen 0
          have fr1 := HS.out.box.frozen 1
          have HE : ∀ A2 A3 : Option Addr, (∀ ad', A2 = some ad' → ∃ ad0, some ad = some ad0 ∧ ad'.block = ad0.block) → (∀ ad', A3 = some ad' → ∃ ad0, A2 = some ad0 ∧ ad'.block = ad0.block) → ∀ ad', A3 = some ad' → ad'.block < z := by
            intro A2 A3 h2 h3 ad' e
            obtain ⟨a2, e2, e3⟩ := h3 ad' e
            obtain ⟨a1, e4, e5⟩ := h2 a2 e2
            have := HS.out.off a1 e4
            omega
          replace HE := Lib.hid HE
          clear hcr
          rcases hx with rfl | rfl
          · rcases hcc with rfl | ⟨hc0, hc1⟩
            · simp only [paint] at HX
              rw [if_pos (by decide)] at HX
              go_wp2_with ((with_reducible refine at_slice_l 24 ?_); refine wpList_cut_lI (k := .i64) (L := 38 :: r) rfl (.tmp 18) (.const (.int .i64 1)) rfl Tryd.underlying24 (by kernel_rfl) rfl .i64 1 1 rfl rfl p3 ?_; intro A2 hr2 ho2; have HR2 := Lib.hid (hr2 _ HS.out.row); have HO2 := Lib.hid ho2; clear hr2 ho2)
              refine (HCo.out A2 (n' - 1) (c' - 1) wr HR2.out).mono ?_
              rintro en w3 ⟨rfl, rfl⟩
              go_wp2_with ((with_reducible refine at_slice_l 24 ?_); refine wpList_cut_lI (k := .i64) (L := r) rfl (.tmp 34) (.tmp 35) rfl Tryd.underlying24 (by kernel_rfl) rfl .i64 u (u : Int) rfl rfl hu2 ?_; intro A3 hr3 ho3; have HR3 := Lib.hid (hr3 _ HR2.out); have HO3 := Lib.hid ho3; clear hr3 ho3)
              go_wp2
              go_roundw
              case rel =>
                refine ⟨A3, n' - 1 - u, c' - 1 - u, r.drop u, (f', b', m'), by trivial, Lib.hid ⟨HS.out.box, HS.out.res, HR3.out, HS.out.ok, HX.out, HS.out.bel, HE.out A2 A3 HO2.out HO3.out⟩⟩
              case measure => simp [lenP]; omega
            · obtain ⟨k, rfl⟩ : ∃ k : Nat, cc = k := ⟨cc.toNat, by omega⟩
              have t5 : decide ((k : Int) < 0) = false := by simp
              have hk255 : k ≤ 255 := by omega
              have HX2 : Hid (applyL (k + 1, b', m') (r.drop u) = q) := by
                show _ = q
                rw [← HX.out]
                unfold paint
                rw [if_neg (by omega), if_pos (by decide)]
                rfl
              clear HX
              go_wp2_with ((with_reducible refine at_slice_l 24 ?_); refine wpList_cut_lI (k := .i64) (L := 38 :: r) rfl (.tmp 18) (.const (.int .i64 1)) rfl Tryd.underlying24 (by kernel_rfl) rfl .i64 1 1 rfl rfl p3 ?_; intro A2 hr2 ho2; have HR2 := Lib.hid (hr2 _ HS.out.row); have HO2 := Lib.hid ho2; clear hr2 ho2)
              refine (HCo.out A2 (n' - 1) (c' - 1) wr HR2.out).mono ?_
              rintro en w3 ⟨rfl, rfl⟩
              go_wp2_with ((with_reducible refine at_slice_l 24 ?_); refine wpList_cut_lI (k := .i64) (L := r) rfl (.tmp 34) (.tmp 35) rfl Tryd.underlying24 (by kernel_rfl) rfl .i64 u (u : Int) rfl rfl hu2 ?_; intro A3 hr3 ho3; have HR3 := Lib.hid (hr3 _ HR2.out); have HO3 := Lib.hid ho3; clear hr3 ho3)
              go_wp2
              go_roundw
              case rel =>
                refine ⟨A3, n' - 1 - u, c' - 1 - u, r.drop u, (k + 1, b', m'), by trivial, Lib.hid ⟨HS.out.box.set_ 0 _, HS.out.res.far (by simp) _, ?_, ?_, HX2.out, ?_, HE.out A2 A3 HO2.out HO3.out⟩⟩
                · exact HR3.out.off_kept (fun ad' e => Nat.ne_of_lt (HE.out A2 A3 HO2.out HO3.out ad' e)) (only_setCell (World.grownBy.refl wr _) rfl _)
                · exact ⟨by show k + 1 ≤ 256; omega, HS.out.ok.2⟩
                · exact HS.out.bel.setCell (Nat.le_refl _) _
              case measure => simp [lenP]; omega
          · rcases hcc with rfl | ⟨hc0, hc1⟩
            · simp only [paint] at HX
              rw [if_pos (by decide)] at HX
              go_wp2_with ((with_reducible refine at_slice_l 24 ?_); refine wpList_cut_lI (k := .i64) (L := 48 :: r) rfl (.tmp 18) (.const (.int .i64 1)) rfl Tryd.underlying24 (by kernel_rfl) rfl .i64 1 1 rfl rfl p3 ?_; intro A2 hr2 ho2; have HR2 := Lib.hid (hr2 _ HS.out.row); have HO2 := Lib.hid ho2; clear hr2 ho2)
              refine (HCo.out A2 (n' - 1) (c' - 1) wr HR2.out).mono ?_
              rintro en w3 ⟨rfl, rfl⟩
              go_wp2_with ((with_reducible refine at_slice_l 24 ?_); refine wpList_cut_lI (k := .i64) (L := r) rfl (.tmp 34) (.tmp 35) rfl Tryd.underlying24 (by kernel_rfl) rfl .i64 u (u : Int) rfl rfl hu2 ?_; intro A3 hr3 ho3; have HR3 := Lib.hid (hr3 _ HR2.out); have HO3 := Lib.hid ho3; clear hr3 ho3)
              go_wp2
              go_roundw
              case rel =>
                refine ⟨A3, n' - 1 - u, c' - 1 - u, r.drop u, (f', b', m'), by trivial, Lib.hid ⟨HS.out.box, HS.out.res, HR3.out, HS.out.ok, HX.out, HS.out.bel, HE.out A2 A3 HO2.out HO3.out⟩⟩
              case measure => simp [lenP]; omega
            · obtain ⟨k, rfl⟩ : ∃ k : Nat, cc = k := ⟨cc.toNat, by omega⟩
              have t5 : decide ((k : Int) < 0) = false := by simp
              have hk255 : k ≤ 255 := by omega
              have HX2 : Hid (applyL (f', k + 1, m') (r.drop u) = q) := by
                show _ = q
                rw [← HX.out]
                unfold paint
                rw [if_neg (by omega), if_neg (by decide)]
                rfl
              clear HX
              go_wp2_with ((with_reducible refine at_slice_l 24 ?_); refine wpList_cut_lI (k := .i64) (L := 48 :: r) rfl (.tmp 18) (.const (.int .i64 1)) rfl Tryd.underlying24 (by kernel_rfl) rfl .i64 1 1 rfl rfl p3 ?_; intro A2 hr2 ho2; have HR2 := Lib.hid (hr2 _ HS.out.row); have HO2 := Lib.hid ho2; clear hr2 ho2)
              refine (HCo.out A2 (n' - 1) (c' - 1) wr HR2.out).mono ?_
              rintro en w3 ⟨rfl, rfl⟩
              go_wp2_with ((with_reducible refine at_slice_l 24 ?_); refine wpList_cut_lI (k := .i64) (L := r) rfl (.tmp 34) (.tmp 35) rfl Tryd.underlying24 (by kernel_rfl) rfl .i64 u (u : Int) rfl rfl hu2 ?_; intro A3 hr3 ho3; have HR3 := Lib.hid (hr3 _ HR2.out); have HO3 := Lib.hid ho3; clear hr3 ho3)
              go_wp2
              go_roundw
              case rel =>
                refine ⟨A3, n' - 1 - u, c' - 1 - u, r.drop u, (f', k + 1, m'), by trivial, Lib.hid ⟨HS.out.box.set_ 1 _, HS.out.res.far (by simp) _, ?_, ?_, HX2.out, ?_, HE.out A2 A3 HO2.out HO3.out⟩⟩
                · exact HR3.out.off_kept (fun ad' e => Nat.ne_of_lt (HE.out A2 A3 HO2.out HO3.out ad' e)) (only_setCell (World.grownBy.refl wr _) rfl _)
                · exact ⟨HS.out.ok.1, by show k + 1 ≤ 256; omega, HS.out.ok.2.2⟩
                · exact HS.out.bel.setCell (Nat.le_refl _) _
              case measure => simp [lenP]; omega
end Go.Proofs.YtajllkfoaigdlaaDoor
