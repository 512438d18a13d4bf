/- What Split of the reference batonref04 returns, for every row of bytes, as a walk through the translated text. Conditions: the bytes read as a list. -/
import Derived.Test.YteaebicggjmfdaaLabel3
namespace Go.Proofs.Yteaebicggjmfdaa
open Go.ChangeShapes Go.WideShapes Go.RowKit
theorem be4 (r : List Nat) (h : 4 ≤ r.length) : be (r.take 4) = r[0] * 16777216 + r[1] * 65536 + r[2] * 256 + r[3] := by
  rcases r with _ | ⟨p, _ | ⟨q, _ | ⟨s, _ | ⟨u, t⟩⟩⟩⟩
  · simp at h
  · simp at h
  · simp at h
  · simp at h
  · simp only [be, List.take, List.foldl, List.getElem_cons_zero, List.getElem_cons_succ]
    omega
theorem add_pos_at (ad : Addr) (i : Nat) : ad.add (i + 1) = ⟨ad.block, ad.off + (i + 1), none⟩ := by simp [Addr.add]
theorem four {w wr : World} {ad : Addr} {n c : Nat} {B : List Nat} (hr : Reads .u8 w (some ad) n c B) (hb : Below w.heap.size w wr) (p : Nat) (h : p + 4 ≤ n) :
    ∃ x0 x1 x2 x3 : Nat, (x0 < 256 ∧ x1 < 256 ∧ x2 < 256 ∧ x3 < 256) ∧ wr.cell? (ad.add p) = some (.int .u8 (x0 : Int)) ∧ wr.cell? ⟨ad.block, ad.off + (p + 1), none⟩ = some (.int .u8 (x1 : Int)) ∧ wr.cell? ⟨ad.block, ad.off + (p + 2), none⟩ = some (.int .u8 (x2 : Int)) ∧ wr.cell? ⟨ad.block, ad.off + (p + 3), none⟩ = some (.int .u8 (x3 : Int)) ∧
      be ((B.drop p).take 4) = x0 * 16777216 + x1 * 65536 + x2 * 256 + x3 := by
  have hk := hr.keep hb
  have hl := hk.len
  have cell : ∀ i, (h : i < B.length) → B[i] < 256 ∧ wr.cell? (ad.add i) = some (.int .u8 (B[i] : Int)) := by
    intro i hi
    obtain ⟨ad', e, _, c⟩ := hk.cell i hi
    cases e
    exact ⟨wf_u8.1 (hk.wf _ (List.getElem_mem _)), c⟩
  have h0 := cell p (by omega)
  have h1 := cell (p + 1) (by omega)
  have h2 := cell (p + 2) (by omega)
  have h3 := cell (p + 3) (by omega)
  have hB := be4 (B.drop p) (by rw [List.length_drop]; omega)
  simp only [List.getElem_drop, Nat.add_zero] at hB
  rw [add_pos_at] at h1 h2 h3
  exact ⟨_, _, _, _, ⟨h0.1, h1.1, h2.1, h3.1⟩, h0.2, h1.2, h2.2, h3.2, hB⟩
theorem sum4 (x0 x1 x2 x3 v : Nat) (w0 : x0 < 256) (w1 : x1 < 256) (w2 : x2 < 256) (w3 : x3 < 256) (hv : v = x0 * 16777216 + x1 * 65536 + x2 * 256 + x3) :
    IntKind.i64.wrap (x0 : Int) = x0 ∧ IntKind.i64.wrap (x1 : Int) = x1 ∧ IntKind.i64.wrap (x2 : Int) = x2 ∧ IntKind.i64.wrap (x3 : Int) = x3 ∧
    IntKind.i64.wrap ((x0 : Int) * 16777216) = (x0 : Int) * 16777216 ∧ IntKind.i64.wrap ((x1 : Int) * 65536) = (x1 : Int) * 65536 ∧ IntKind.i64.wrap ((x2 : Int) * 256) = (x2 : Int) * 256 ∧
    IntKind.i64.wrap ((x0 : Int) * 16777216 + (x1 : Int) * 65536) = (x0 : Int) * 16777216 + (x1 : Int) * 65536 ∧
    IntKind.i64.wrap ((x0 : Int) * 16777216 + (x1 : Int) * 65536 + (x2 : Int) * 256) = (x0 : Int) * 16777216 + (x1 : Int) * 65536 + (x2 : Int) * 256 ∧
    IntKind.i64.wrap ((x0 : Int) * 16777216 + (x1 : Int) * 65536 + (x2 : Int) * 256 + (x3 : Int)) = (v : Int) ∧ v < 4294967296 := by
  refine ⟨IntWalk.i64_in _ (by omega), IntWalk.i64_in _ (by omega), IntWalk.i64_in _ (by omega), IntWalk.i64_in _ (by omega), IntWalk.i64_in _ (by omega), IntWalk.i64_in _ (by omega), IntWalk.i64_in _ (by omega), IntWalk.i64_in _ (by omega), IntWalk.i64_in _ (by omega), ?_, by omega⟩
  rw [IntWalk.i64_in _ (by omega)]
  omega
set_option maxHeartbeats 800000 in
theorem refSplit_empty (A : Option Addr) (c : Nat) (w : World) :
    Calls Try.prog 13 #[.slice A 0 c] w fun e w' => e = .returned (.tuple #[.slice none 0 0, .int .i64 4]) ∧ w = w' := by
  go_enter Try.func13, Try.ntmps13
  go_wp2
  go_ret2
  exact ⟨rfl, rfl⟩
set_option maxHeartbeats 800000 in
theorem refSplit_full (A : Option Addr) (n c x : Nat) (b : List Nat) (w : World) (hr : Reads .u8 w A n c (x :: b)) (hx : 64 < x) :
    Calls Try.prog 13 #[.slice A n c] w fun e w' => e = .returned (.tuple #[.slice none 0 0, .int .i64 2]) ∧ w = w' := by
  have hn : 0 < n := by have := hr.len; simp at this; omega
  have hc := hr.room
  have hx8 : x < 256 := wf_u8.1 (hr.wf x (by simp))
  obtain ⟨ad, rfl, hlt, hcell⟩ := hr.cell 0 (by simp)
  have hcell0 : w.cell? ad = some (.int .u8 (x : Int)) := by simpa [Addr.add] using hcell
  have hne : ((n : Int) == 0) = false := by simp; omega
  have hd : decide ((64 : Int) < (x : Int)) = true := by simp; omega
  clear hcell hr
  go_enter Try.func13, Try.ntmps13
  go_wp2
  go_ret2
  exact ⟨rfl, rfl⟩
set_option maxRecDepth 100000 in
set_option maxHeartbeats 3200000 in
theorem refSplit_parts (A : Option Addr) (n c x : Nat) (b : List Nat) (E : Nat) (ps : List (List Nat)) (w : World) (hr : Reads .u8 w A n c (x :: b)) (hx : x ≤ 64) (hS : Hid (splitB x b = (E, ps))) (hbig : n ≤ 1099511627776) :
    Calls Try.prog 13 #[.slice A n c] w fun e w' => ∃ V m d, e = .returned (.tuple #[.slice V m d, .int .i64 (E : Int)]) ∧ ReadsAll .u8 w' V m d ps ∧ Below w.heap.size w w' := by
  obtain ⟨r0, hri, hrz0, hrz1, hrz2⟩ := info_parts infoRow
  have hn : 0 < n := by have := hr.len; simp at this; omega
  have hc := hr.room
  have hx8 : x < 256 := wf_u8.1 (hr.wf x (by simp))
  obtain ⟨ad, rfl, hlt, hcell⟩ := hr.cell 0 (by simp)
  have hcell0 : w.cell? ad = some (.int .u8 (x : Int)) := by simpa [Addr.add] using hcell
  have hne : ((n : Int) == 0) = false := by simp; omega
  have hd : decide ((64 : Int) < (x : Int)) = false := by simp; omega
  obtain ⟨B, hB⟩ : ∃ B, Hid (x :: b = B) := ⟨_, rfl⟩
  have HPS : Hid (preS [] (splitB (x - 0) (B.drop 1)) = (E, ps)) := by show _ = _; rw [preS_nil, ← hB.out]; exact hS.out
  rw [hB.out] at hr
  have HR := Lib.hid hr
  have HC0 := Lib.hid hcell0
  have HA := Lib.hid hlt
  clear hcell hr hS hB hlt
  go_enter Try.func13, Try.ntmps13
  go_wp2_with fail
  go_loopw [4, 5, 6] (fun ov av i wr => ∃ j p cO : Nat, ∃ O vs ds, j ≤ x ∧ i = .int .i64 j ∧ av = .int .i64 p ∧ ov = .slice O j cO ∧ 1 ≤ p ∧ p ≤ n ∧ Hid (wr.ownsRow w.heap.size 25 1 (.slice O j cO) j vs) ∧ Hid (Parts w.heap.size w vs ds) ∧ Below w.heap.size w wr ∧ Hid (preS ds (splitB (x - j) (B.drop p)) = (E, ps))) (fun _ _ i _ => x - (intOf i).toNat)
  case atStart => exact ⟨0, 1, 0, none, [], [], Nat.zero_le _, rfl, rfl, rfl, by omega, by omega, World.ownsRow_nil _ _ _ _, Parts.none, Below.refl _ _, HPS⟩
  case round =>
    clear HPS hcell0 hne hd
    obtain ⟨j, p, cO, O, vs, ds, hj, rfl, rfl, rfl, hp1, hpn, HO, HP, hbel, HPS⟩ := hrel
    have hcr : wr.cell? ad = some (.int .u8 (x : Int)) := (hbel.cell (p := ad) HA.out).trans HC0.out
    have hrl : (B.drop p).length = n - p := by rw [List.length_drop, HR.out.len]
    by_cases hlt : j < x
    · obtain ⟨y, hy⟩ : ∃ y, Hid (x - j = y + 1) := ⟨x - j - 1, by show _ = _; omega⟩
      have hlt2 : (j : Int) < (x : Int) := by omega
      by_cases h4 : n - p < 4
      · have hE : preS ds (splitB (x - j) (B.drop p)) = (4, []) := by
          rw [hy.out]; exact preS_err ds y _ 4 (by unfold firstL; rw [hrl, if_pos h4]) (by decide)
        rw [HPS.out] at hE
        obtain ⟨rfl, rfl⟩ := Prod.mk.inj hE
        have hd4 : decide ((n : Int) - (p : Int) < 4) = true := by simp; omega
        clear hE HPS hrl
        go_wp2
        go_ret2
        exact ⟨_, _, _, rfl, readsAll_nil _, hbel⟩
      · have hd4 : decide ((n : Int) - (p : Int) < 4) = false := by simp; omega
        obtain ⟨x0, x1, x2, x3, ⟨w0, w1, w2, w3⟩, c0, c1, c2, c3, hB4⟩ := four HR.out hbel p (by omega)
        have q0 : (p : Int) < (n : Int) := by omega
        have q1 : (p : Int) + 1 < (n : Int) := by omega
        have q2 : (p : Int) + 2 < (n : Int) := by omega
        have q3 : (p : Int) + 3 < (n : Int) := by omega
        have z0 : (0 : Int) ≤ (p : Int) := by omega
        have z1 : (0 : Int) ≤ (p : Int) + 1 := by omega
        have z2 : (0 : Int) ≤ (p : Int) + 2 := by omega
        have z3 : (0 : Int) ≤ (p : Int) + 3 := by omega
        obtain ⟨v, hv⟩ : ∃ v, Hid (be ((B.drop p).take 4) = v) := ⟨_, rfl⟩
        rw [hv.out] at hB4
        obtain ⟨v0, v1, v2, v3, m0, m1, m2, s1, s2, s3, hvb⟩ := sum4 x0 x1 x2 x3 v w0 w1 w2 w3 hB4
        have p1 : IntKind.i64.wrap ((p : Int) + 1) = (p : Int) + 1 := IntWalk.i64_in _ (by omega)
        have p2 : IntKind.i64.wrap ((p : Int) + 2) = (p : Int) + 2 := IntWalk.i64_in _ (by omega)
        have p3 : IntKind.i64.wrap ((p : Int) + 3) = (p : Int) + 3 := IntWalk.i64_in _ (by omega)
        have HB4 := Lib.hid hB4
        have HRL := Lib.hid hrl
        clear hB4 hrl
        go_wp2_with fail
        go_quiet (fail)
        clear v0 v1 v2 v3 m0 m1 m2 s1 s2 s3 c0 c1 c2 c3 q1 q2 q3 z1 z2 z3
        have hfst : firstL (B.drop p) = if 1048576 < v then (0, 22) else if n - p - 4 < v then (0, 4) else (v, 0) := by
          unfold firstL; rw [HRL.out, if_neg h4, hv.out]
        go_upto_region 13 with (fail)
        refine name_wp (fun w5 => Below w.heap.size w w5 ∧ Hid (w5.ownsRow w.heap.size 25 1 (.slice O j cO) j vs)) ⟨belowDrewN hbel _, HO.out⟩ ?_
        rintro w5 ⟨hbel5, HO5⟩
        clear hbel HO hcr
        by_cases hv1 : 1048576 < v
        · rw [if_pos hv1] at hfst
          have hE : preS ds (splitB (x - j) (B.drop p)) = (22, []) := by
            rw [hy.out]; exact preS_err ds y _ 22 (by rw [hfst]) (by decide)
          rw [HPS.out] at hE
          obtain ⟨rfl, rfl⟩ := Prod.mk.inj hE
          have hd5 : decide ((1048576 : Int) < (v : Int)) = true := by simp; omega
          clear hE HPS hfst
          go_wp2
          go_ret2
          exact ⟨_, _, _, rfl, readsAll_nil _, hbel5⟩
        · rw [if_neg hv1] at hfst
          have hd5 : decide ((1048576 : Int) < (v : Int)) = false := by simp; omega
          by_cases hs : n - p - 4 < v
          · rw [if_pos hs] at hfst
            have hE : preS ds (splitB (x - j) (B.drop p)) = (4, []) := by
              rw [hy.out]; exact preS_err ds y _ 4 (by rw [hfst]) (by decide)
            rw [HPS.out] at hE
            obtain ⟨rfl, rfl⟩ := Prod.mk.inj hE
            have hd6 : decide ((n : Int) - ((p : Int) + 4) < (v : Int)) = true := by simp; omega
            clear hE HPS hfst
            go_wp2
            go_ret2
            exact ⟨_, _, _, rfl, readsAll_nil _, hbel5⟩
          · rw [if_neg hs] at hfst
            have hd6 : decide ((n : Int) - ((p : Int) + 4) < (v : Int)) = false := by simp; omega
            have HPS5 : Hid (preS (ds ++ [(B.drop (p + 4)).take v]) (splitB (x - (j + 1)) (B.drop (p + 4 + v))) = (E, ps)) := by
              show _ = _
              rw [← HPS.out, hy.out, preS_next ds y (B.drop p) v hfst, List.drop_drop, List.drop_drop, Nat.add_assoc]
              congr 2
              have := hy.out
              omega
            have HRW := Lib.hid (HR.out.keep hbel5)
            have hbs := hbel5.size
            clear hfst HPS
            go_upto_region 19 with (first
              | ((with_reducible refine at_slice 25 ?_); refine wpList_cut rfl (.tmp 68) (.tmp 69) (.tmp 72) rfl Try.underlying25 (by kernel_rfl) rfl HRW.out .i64 .i64 (p + 4) v _ _ rfl rfl (by omega) (by omega) (by omega) ?_; intro A2 hr2)
              | (at_builtin; refine wpList_append_own_at _ rfl (.tmp 67) (.tmp 74) 22 rfl w.heap.size 25 r0 (.slice none 0 0) 1 24 Try.underlying22 hri hrz0 hrz1 hrz2 rfl (by decide) (.slice O j cO) j vs rfl (HO5.out.alloc _) ⟨w5.heap.size, 0, none⟩ 1 1 _ rfl rfl (cells_new _ _ _) (by simp [Value.oneCell']) (by unfold maxLen; omega) (by omega) (by simp; omega) ?_; intro v3 w6 hown6 hgrow6 hiff6 hat6; obtain ⟨O6, c6, rfl⟩ := own_form hown6))
            have hbel6 := (mine_grown ⟨HO5.out, hbel5⟩ _ hown6 hgrow6).2
            have hrp := hr2 _ HR.out
            have hP6 := HP.out.snoc hrp (fun h0 => by
              intro ad' e
              obtain ⟨ad2, e2, hl2, _⟩ := hrp.cell 0 (by rw [hrp.len]; exact h0)
              rw [e2] at e; cases e
              omega)
            have HO6 : Hid (w6.ownsRow w.heap.size 25 1 (.slice O6 (j + 1) c6) (j + 1) (vs ++ [.slice A2 v (c - (p + 4))])) := hown6
            have HP6 := Lib.hid hP6
            clear hP6 hrp hr2 hown6 hgrow6 hiff6 hat6 HO5 HP hbel5 HRW hbs
            go_wp2
            go_roundw
            case rel => exact ⟨j + 1, p + 4 + v, c6, O6, _, _, by omega, by go_num, by go_num, rfl, by omega, by omega, HO6, HP6, hbel6, HPS5⟩
            case measure => simp [intOf]; omega
    · have hjx : j = x := by omega
      subst hjx
      by_cases h0 : n = p
      · have hE : preS ds (splitB (j - j) (B.drop p)) = (0, ds) := by rw [Nat.sub_self]; exact preS_end ds _ (by rw [hrl]; omega)
        rw [HPS.out] at hE
        obtain ⟨rfl, rfl⟩ := Prod.mk.inj hE
        have hd7 : decide ((p : Int) < (n : Int)) = false := by simp; omega
        clear hE HPS hrl
        go_wp2
        go_ret2
        obtain ⟨V, d, e1, hall⟩ := (HP.out.keep hbel).all HO.out
        cases e1
        exact ⟨_, _, _, rfl, hall, hbel⟩
      · have hE : preS ds (splitB (j - j) (B.drop p)) = (5, []) := by rw [Nat.sub_self]; exact preS_long ds _ (by rw [hrl]; omega)
        rw [HPS.out] at hE
        obtain ⟨rfl, rfl⟩ := Prod.mk.inj hE
        have hd7 : decide ((p : Int) < (n : Int)) = true := by simp; omega
        clear hE HPS hrl
        go_wp2
        go_ret2
        exact ⟨_, _, _, rfl, readsAll_nil _, hbel⟩
/-- The reference's Split of any bytes. -/
theorem refSplit_c (A : Option Addr) (n c : Nat) (b : List Nat) (E : Nat) (ps : List (List Nat)) (w : World) (hr : Reads .u8 w A n c b) (hS : Hid (splitL b = (E, ps))) (hbig : n ≤ 1099511627776) :
    Calls Try.prog 13 #[.slice A n c] w fun e w' => ∃ V m d, e = .returned (.tuple #[.slice V m d, .int .i64 (E : Int)]) ∧ ReadsAll .u8 w' V m d ps ∧ Below w.heap.size w w' := by
  cases b with
  | nil =>
    have hn : n = 0 := by have := hr.len; simpa using this.symm
    subst hn
    obtain ⟨rfl, rfl⟩ := Prod.mk.inj (show ((4 : Nat), ([] : List (List Nat))) = (E, ps) from hS.out)
    refine (refSplit_empty A c w).mono ?_
    rintro e w' ⟨rfl, rfl⟩
    exact ⟨_, _, _, rfl, readsAll_nil _, Below.refl _ _⟩
  | cons x b =>
    have h := hS.out
    rw [splitL] at h
    by_cases hx : 64 < x
    · rw [if_pos hx] at h
      obtain ⟨rfl, rfl⟩ := Prod.mk.inj h
      refine (refSplit_full A n c x b w hr hx).mono ?_
      rintro e w' ⟨rfl, rfl⟩
      exact ⟨_, _, _, rfl, readsAll_nil _, Below.refl _ _⟩
    · rw [if_neg hx] at h
      exact refSplit_parts A n c x b E ps w hr (by omega) h hbig
end Go.Proofs.Yteaebicggjmfdaa
