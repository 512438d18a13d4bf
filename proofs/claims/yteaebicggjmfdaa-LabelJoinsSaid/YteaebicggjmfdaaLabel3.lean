/- What Split of package label returns, for every row of bytes, as a walk through the translated text. Conditions: the bytes read as a list. -/
import Derived.Test.YteaebicggjmfdaaLabel2
import Derived.Test.YteaebicggjmfdaaCut
namespace Go.Proofs.Yteaebicggjmfdaa
open Go.ChangeShapes Go.WideShapes Go.RowKit
theorem infoRow : (Try.prog.info? 25).map (fun i => (i.zero, i.size, i.bytes)) = some (some (.slice none 0 0), 1, 24) := by kernel_rfl
/-- Slice values that read as the parts ds, none of them in block G. -/
structure Parts (G : Nat) (w : World) (vs : List Value) (ds : List (List Nat)) : Prop where
  len : vs.length = ds.length
  row : ∀ i, (h : i < ds.length) → ∃ R m cr, vs[i]? = some (.slice R m cr) ∧ Reads .u8 w R m cr ds[i] ∧ (0 < m → Off R G)
theorem Reads.only' {w w' : World} {g : Nat} {k : IntKind} {A : Option Addr} {n c : Nat} {l : List Nat} (h : Reads k w A n c l) (ho : 0 < n → Off A g) (hb : w.grownBy w' (some g)) : Reads k w' A n c l := by
  rcases Nat.eq_zero_or_pos n with h0 | h0
  · subst h0
    have : l = [] := List.eq_nil_of_length_eq_zero h.len
    subst this
    exact Reads.nil.2 h.cap
  · exact h.only (ho h0) hb
section
variable {G : Nat} {w w' : World} {vs : List Value} {ds : List (List Nat)}
theorem Parts.none : Parts G w [] [] := ⟨rfl, by simp⟩
theorem Parts.keep (h : Parts G w vs ds) (hb : Below w.heap.size w w') : Parts G w' vs ds :=
  ⟨h.len, fun i hi => by obtain ⟨R, m, cr, e, hr, ho⟩ := h.row i hi; exact ⟨R, m, cr, e, hr.keep hb, ho⟩⟩
theorem Parts.only (h : Parts G w vs ds) (hb : w.grownBy w' (some G)) : Parts G w' vs ds :=
  ⟨h.len, fun i hi => by obtain ⟨R, m, cr, e, hr, ho⟩ := h.row i hi; exact ⟨R, m, cr, e, hr.only' ho hb, ho⟩⟩
theorem Parts.snoc {R : Option Addr} {m cr : Nat} {l : List Nat} (h : Parts G w vs ds) (hr : Reads .u8 w R m cr l) (ho : 0 < m → Off R G) : Parts G w (vs ++ [.slice R m cr]) (ds ++ [l]) := by
  refine ⟨by simp [h.len], fun i hi => ?_⟩
  rcases Nat.lt_or_ge i ds.length with hlt | hge
  · obtain ⟨R', m', cr', e, hr', ho'⟩ := h.row i hlt
    refine ⟨R', m', cr', ?_, ?_, ho'⟩
    · rw [List.getElem?_append_left (by rw [h.len]; exact hlt)]; exact e
    · rw [List.getElem_append_left hlt]; exact hr'
  · have hi' : i = ds.length := by simp at hi; omega
    subst hi'
    refine ⟨R, m, cr, ?_, ?_, ho⟩
    · rw [← h.len]; simp
    · simpa using hr
theorem Parts.one (h : Parts G w vs ds) : ∀ u ∈ vs, u.oneCell' = true := by
  intro u hu
  obtain ⟨i, hi, rfl⟩ := List.getElem_of_mem hu
  obtain ⟨R, m, cr, e, _⟩ := h.row i (by rw [← h.len]; exact hi)
  rw [List.getElem?_eq_getElem hi] at e
  rw [Option.some.inj e]
  rfl
/-- What owns them is a list of lists. -/
theorem Parts.all {base n : Nat} {e : TypeId} {v : Value} (h : Parts G w vs ds) (hown : w.ownsRow base e 1 v n vs) : ∃ A c, v = .slice A n c ∧ ReadsAll .u8 w A n c ds := by
  have hlen : ds.length = n := by rw [← h.len]; simpa using hown.1
  rcases hown.2 with ⟨rfl, rfl⟩ | ⟨g, cap, cur, rfl, hb, hh, hn, hm, hs, ht⟩
  · have : ds = [] := List.eq_nil_of_length_eq_zero hlen
    subst this
    exact ⟨_, 0, rfl, rfl, Nat.le_refl _, by simp [maxLen], by simp⟩
  · refine ⟨_, cap, rfl, hlen, hn, hm, fun i hi => ?_⟩
    obtain ⟨R, m, cr, e1, hr, _⟩ := h.row i hi
    refine ⟨_, R, m, cr, rfl, ?_, hown.cells (g := g) rfl i _ e1, hr⟩
    rcases Nat.lt_or_ge g w.heap.size with hlt | hge
    · exact hlt
    · rw [Array.getElem?_eq_none hge] at hh; cases hh
end
theorem readsAll_nil (w : World) : ReadsAll .u8 w none 0 0 [] := ⟨rfl, Nat.le_refl _, by simp [maxLen], by simp⟩
theorem below_grown_none {w w' : World} (h : w.grownBy w' none) : Below w.heap.size w w' := ⟨h.os, h.tape, h.output, h.size, fun i hi => h.block i hi (by simp)⟩
set_option maxHeartbeats 800000 in
theorem split_empty (A : Option Addr) (c : Nat) (w : World) :
    Calls Try.prog 9 #[.slice A 0 c] w fun e w' => e = .returned (.tuple #[.slice none 0 0, .int .i64 4]) ∧ w = w' := by
  go_enter Try.func9, Try.ntmps9
  go_wp2
  go_ret2
  exact ⟨rfl, rfl⟩
set_option maxHeartbeats 800000 in
theorem split_full (A : Option Addr) (n c x : Nat) (b : List Nat) (w : World) (hr : Reads .u8 w A n c (x :: b)) (hx : 64 < x) :
    Calls Try.prog 9 #[.slice A n c] w fun e w' => e = .returned (.tuple #[.slice none 0 0, .int .i64 2]) ∧ ∃ k, w' = w.drewN k := by
  have hn : 0 < n := by have := hr.len; simp at this; omega
  have hc := hr.room
  have hx8 : x < 256 := wf_u8.1 (hr.wf x (by simp))
  obtain ⟨ad, rfl, hlt, hcell⟩ := hr.cell 0 (by simp)
  have hcell0 : w.cell? ad = some (.int .u8 (x : Int)) := by simpa [Addr.add] using hcell
  have hne : ((n : Int) == 0) = false := by simp; omega
  have hd : decide ((64 : Int) < (x : Int)) = true := by simp; omega
  clear hcell hr
  go_enter Try.func9, Try.ntmps9
  go_wp2_with fail
  go_quiet (fail)
  generalize (if c = 1 then some ad else some ⟨ad.block, ad.off + 1, none⟩) = R
  go_wp2
  go_ret2
  exact ⟨rfl, _, rfl⟩
theorem suf1 {w : World} {ad : Addr} {n c x : Nat} {b : List Nat} (hr : Reads .u8 w (some ad) n c (x :: b)) (hn : 0 < n) : Reads .u8 w (if c = 1 then some ad else some ⟨ad.block, ad.off + 1, none⟩) (n - 1) (c - 1) b := by
  have := reads_suf hr 1 (by omega)
  simpa [Addr.add] using this
set_option maxRecDepth 100000 in
set_option maxHeartbeats 3200000 in
theorem split_parts (A : Option Addr) (n c x : Nat) (b : List Nat) (E : Nat) (ps : List (List Nat)) (w : World) (hr : Reads .u8 w A n c (x :: b)) (hx : x ≤ 64) (hS : Hid (splitB x b = (E, ps))) :
    Calls Try.prog 9 #[.slice A n c] w fun e w' => ∃ V m d, e = .returned (.tuple #[.slice V m d, .int .i64 (E : Int)]) ∧ ReadsAll .u8 w' V m d ps ∧ Below w.heap.size w w' := by
  obtain ⟨i0, hi, hz0, hz1, hz2⟩ := info_parts infoU8
  obtain ⟨r0, hri, hrz0, hrz1, hrz2⟩ := info_parts infoRow
  have hn : 0 < n := by have := hr.len; simp at this; omega
  have hcap : c ≤ 9223372036854775807 := by have := hr.cap; unfold maxLen at this; omega
  have hc := hr.room
  have hx8 : x < 256 := wf_u8.1 (hr.wf x (by simp))
  obtain ⟨ad, rfl, hlt, hcell⟩ := hr.cell 0 (by simp)
  have hcell0 : w.cell? ad = some (.int .u8 (x : Int)) := by simpa [Addr.add] using hcell
  have hne : ((n : Int) == 0) = false := by simp; omega
  have hd : decide ((64 : Int) < (x : Int)) = false := by simp; omega
  have HREST := Lib.hid (suf1 hr hn)
  clear hcell hr
  go_enter Try.func9, Try.ntmps9
  go_wp2_with fail
  go_quiet (fail)
  generalize (if c = 1 then some ad else some ⟨ad.block, ad.off + 1, none⟩) = R at *
  have b2 : r0.bytes * x ≤ 281474976710656 := by rw [hrz2]; omega
  have b3 : x ≤ maxLen := by unfold maxLen; omega
  go_upto_region 7 with (at_make; refine wpList_make_own _ rfl (.const (.int .i64 0)) (.tmp 21) 22 rfl w.heap.size 25 r0 (.slice none 0 0) 1 Try.underlying22 hri hrz0 hrz1 .i64 .i64 _ x rfl rfl (by omega) b2 b3 (Nat.le_refl _) ?_; intro w1 hown hgrow)
  have HO : Hid (w1.ownsRow w.heap.size 25 1 (.slice (some ⟨w.heap.size, 0, none⟩) 0 x) 0 []) := by show World.ownsRow _ _ _ _ _ _ _; simpa using hown
  have hbel1 : Below w.heap.size w w1 := (belowDrewN (Below.refl _ _) _).grown hgrow (Nat.le_refl _) (by simp)
  clear hown hgrow b2 b3 hcell0 hne hd hlt
  have HPS : Hid (preS [] (splitB (x - 0) b) = (E, ps)) := by show _ = _; rw [preS_nil]; exact hS.out
  clear hS
  go_wp2_with fail
  go_loopw [5, 6, 24] (fun rs pv i wr => ∃ j N C : Nat, ∃ R r vs ds, j ≤ x ∧ i = .int .i64 j ∧ rs = .slice R N C ∧ pv = .slice (some ⟨w.heap.size, 0, none⟩) j x ∧ Hid (Reads .u8 w R N C r) ∧ Hid (wr.ownsRow w.heap.size 25 1 (.slice (some ⟨w.heap.size, 0, none⟩) j x) j vs) ∧ Hid (Parts w.heap.size wr vs ds) ∧ Below w.heap.size w wr ∧ Hid (preS ds (splitB (x - j) r) = (E, ps))) (fun _ _ i _ => x - (intOf i).toNat)
  case atStart => exact ⟨0, n - 1, c - 1, R, b, [], [], Nat.zero_le _, rfl, rfl, rfl, HREST, HO, Parts.none, hbel1, HPS⟩
  case round =>
    clear HREST HO hbel1 HPS
    obtain ⟨j, N, C, R, r, vs, ds, hj, rfl, rfl, rfl, HR, HO, HP, hbel, HPS⟩ := hrel
    by_cases hlt : j < x
    · obtain ⟨m, e, hf⟩ : ∃ m e, Hid (firstL r = (m, e)) := ⟨_, _, rfl⟩
      obtain ⟨y, hy⟩ : ∃ y, Hid (x - j = y + 1) := ⟨x - j - 1, by show _ = _; omega⟩
      have hlt2 : (j : Int) < (x : Int) := by omega
      go_wp2_with fail
      refine (firstLength_c R N C r m e _ (HR.out.keep hbel) hf).mono ?_
      rintro en w2 ⟨rfl, rfl⟩
      by_cases he : e = 0
      · subst he
        obtain ⟨h1, h2, h3⟩ := firstL_ok hf.out
        rw [HR.out.len] at h1
        have hCr := HR.out.room
        have hCc : C ≤ 9223372036854775807 := by have := HR.out.cap; unfold maxLen at this; omega
        obtain ⟨rd, rfl, hrdlt⟩ : ∃ rd, R = some rd ∧ rd.block < w.heap.size := by
          obtain ⟨rd, e, hl, _⟩ := HR.out.cell 0 (by rw [HR.out.len]; omega)
          exact ⟨rd, e, hl⟩
        clear h3
        have HRW := Lib.hid (HR.out.keep hbel)
        have HRL := Lib.hid HR.out.len
        go_upto_region 13 with (fail)
        go_upto_region 14 with (first
          | ((with_reducible refine at_slice 25 ?_); refine wpList_cut rfl (.tmp 37) (.const (.int .i64 4)) (.tmp 38) rfl Try.underlying25 (by kernel_rfl) rfl HRW.out .i64 .i64 4 m _ _ rfl rfl rfl (by omega) (by omega) ?_; intro A2 hr2)
          | (at_builtin; refine wpList_app rfl (.const (.slice none 0 0)) (.tmp 39) 25 rfl wr.heap.size 5 i0 (.int .u8 0) 1 Try.underlying25 hi hz0 hz1 hz2 rfl (.slice none 0 0) 0 [] rfl (World.ownsRow_nil _ _ _ _) .u8 A2 m (C - 4) ((r.drop 4).take m) rfl (hr2 _ HRW.out) (by unfold maxLen; omega) (by omega) (Nat.le_refl _) ?_; intro v3 w3 hown3 hgrow3; obtain ⟨A3, c3, rfl⟩ := own_form hown3)
          | (at_builtin; refine wpList_append_fits _ rfl (.tmp 36) (.tmp 41) 22 rfl w.heap.size 25 r0 1 Try.underlying22 hri hrz1 w.heap.size j x vs rfl ((own_keep HO.out hgrow3 (by intro g _ e; cases e)).alloc _) ⟨w3.heap.size, 0, none⟩ 1 1 _ rfl rfl (cells_new _ _ _) (by simp [Value.oneCell']) (by omega) ?_; intro w4 hown4 hgrow4))
        have hb3 := below_grown_none hgrow3
        rw [Nat.zero_add, List.nil_append] at hown3
        obtain ⟨A3', c3', e3, hr3⟩ := Reads.of_own hown3 (fun y hy => (hr2 _ HRW.out).wf y hy)
        cases e3
        have hG := own_lt HO.out w.heap.size rfl
        have hoff : 0 < m → Off A3 w.heap.size := by
          intro h0 ad' e
          have := own_base hown3 ad'.block (by rw [e]; rfl)
          omega
        have hP4 := (((HP.out.keep hb3).keep ((Below.refl _ _).alloc (Nat.le_refl _) (.cells #[.slice A3 m c3] 25))).snoc (hr3.keep ((Below.refl _ _).alloc (Nat.le_refl _) _)) hoff).only hgrow4
        have hbel3 := hbel.trans (hb3.mono hbel.size)
        have hbel4 := below_of_only (hbel3.alloc hbel3.size (.cells #[.slice A3 m c3] 25)) hgrow4 (by have := hbel3.size; simp; omega) (Nat.le_refl _)
        have HO4 : Hid (w4.ownsRow w.heap.size 25 1 (.slice (some ⟨w.heap.size, 0, none⟩) (j + 1) x) (j + 1) (vs ++ [.slice A3 m c3])) := hown4
        have HP4 := Lib.hid hP4
        have HPS4 : Hid (preS (ds ++ [(r.drop 4).take m]) (splitB (x - (j + 1)) (r.drop (4 + m))) = (E, ps)) := by
          show _ = _
          rw [← preS_next ds _ r m hf.out, ← HPS.out, hy.out]
          congr 2
          have := hy.out
          omega
        clear hP4 hown4 hgrow4 hr3 hown3 hgrow3 hb3 hr2 HRW HPS HO HP hoff hbel hbel3
        go_wp2_with ((with_reducible refine at_slice 25 ?_); refine wpList_cut_l rfl (.tmp 43) (.tmp 44) rfl Try.underlying25 (by kernel_rfl) (k := .u8) (L := r) rfl .i64 (4 + m) _ rfl (by omega) (by omega) ?_; intro A5 hr5)
        have HR5 := Lib.hid (hr5 _ HR.out)
        clear hr5
        go_roundw
        case rel => exact ⟨j + 1, N - (4 + m), C - (4 + m), A5, r.drop (4 + m), _, _, by omega, by go_num, rfl, rfl, HR5, HO4, HP4, hbel4, HPS4⟩
        case measure => simp [intOf]; omega
      · have hE : preS ds (splitB (x - j) r) = (e, []) := by rw [hy.out]; exact preS_err ds y r e (congrArg Prod.snd hf.out) he
        rw [HPS.out] at hE
        obtain ⟨rfl, rfl⟩ := Prod.mk.inj hE
        have hde : ((E : Int) != 0) = true := by rw [bne_iff_ne]; omega
        clear hE HPS
        go_wp2
        go_ret2
        exact ⟨_, _, _, rfl, readsAll_nil _, hbel⟩
    · have hjx : j = x := by omega
      subst hjx
      have hrl := HR.out.len
      by_cases h0 : N = 0
      · subst h0
        have hE : preS ds (splitB (j - j) r) = (0, ds) := by rw [Nat.sub_self]; exact preS_end ds r hrl
        rw [HPS.out] at hE
        obtain ⟨rfl, rfl⟩ := Prod.mk.inj hE
        clear hE HPS hrl
        go_wp2
        go_ret2
        obtain ⟨V, d, e1, hall⟩ := HP.out.all HO.out
        cases e1
        exact ⟨_, _, _, rfl, hall, hbel⟩
      · have hE : preS ds (splitB (j - j) r) = (5, []) := by rw [Nat.sub_self]; exact preS_long ds r (by rw [hrl]; exact h0)
        rw [HPS.out] at hE
        obtain ⟨rfl, rfl⟩ := Prod.mk.inj hE
        have hdN : decide ((0 : Int) < (N : Int)) = true := by simp; omega
        clear hE HPS hrl
        go_wp2
        go_ret2
        exact ⟨_, _, _, rfl, readsAll_nil _, hbel⟩
/-- Split of any bytes. -/
theorem split_c (A : Option Addr) (n c : Nat) (b : List Nat) (E : Nat) (ps : List (List Nat)) (w : World) (hr : Reads .u8 w A n c b) (hS : Hid (splitL b = (E, ps))) :
    Calls Try.prog 9 #[.slice A n c] w fun e w' => ∃ V m d, e = .returned (.tuple #[.slice V m d, .int .i64 (E : Int)]) ∧ ReadsAll .u8 w' V m d ps ∧ Below w.heap.size w w' := by
  cases b with
  | nil =>
    have hn : n = 0 := by have := hr.len; simpa using this.symm
    subst hn
    obtain ⟨rfl, rfl⟩ := Prod.mk.inj (show ((4 : Nat), ([] : List (List Nat))) = (E, ps) from hS.out)
    refine (split_empty A c w).mono ?_
    rintro e w' ⟨rfl, rfl⟩
    exact ⟨_, _, _, rfl, readsAll_nil _, Below.refl _ _⟩
  | cons x b =>
    have h := hS.out
    rw [splitL] at h
    by_cases hx : 64 < x
    · rw [if_pos hx] at h
      obtain ⟨rfl, rfl⟩ := Prod.mk.inj h
      refine (split_full A n c x b w hr hx).mono ?_
      rintro e w' ⟨rfl, k, rfl⟩
      exact ⟨_, _, _, rfl, readsAll_nil _, belowDrewN (Below.refl _ _) k⟩
    · rw [if_neg hx] at h
      exact split_parts A n c x b E ps w hr (by omega) h
end Go.Proofs.Yteaebicggjmfdaa
