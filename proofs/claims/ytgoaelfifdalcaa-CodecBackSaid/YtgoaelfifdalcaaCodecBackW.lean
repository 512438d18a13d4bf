/- The walk through CodecBack: the bytes of any items are what the reference says, the first error is kept, and the items are read back, whatever follows. Conditions: the items and the bytes behind read as lists. -/
import Derived.Test.YtgoaelfifdalcaaCodecRead
namespace Go.Proofs.Ytgoaelfifdalcaa.codecBack
open Go.ChangeShapes Go.WideShapes Go.RowKit
/-- What a Writer holds after the items l. -/
def stI (l : List ItemV) : List Nat × Int := l.foldl (fun s x => wrote s (encI x)) ([], 0)
def remI (l : List ItemV) : List Nat := (l.map fun x => (encI x).2).flatten
theorem stI_snoc (l : List ItemV) (i : Nat) (h : i < l.length) : stI (l.take (i + 1)) = wrote (stI (l.take i)) (encI l[i]) := by
  rw [List.take_succ_eq_append_getElem h, stI, List.foldl_append]
  rfl
theorem wrote_ok2 (s : List Nat × Int) (r : Int × List Nat) (h : (wrote s r).2 = 0) : s.2 = 0 ∧ r.1 = 0 := by
  unfold wrote at h
  by_cases h1 : s.2 = 0
  · rw [if_pos h1] at h
    by_cases h2 : r.1 = 0
    · exact ⟨h1, h2⟩
    · rw [if_neg h2] at h; exact absurd h h2
  · rw [if_neg h1] at h; exact absurd h h1
theorem fold_ok : ∀ (l : List ItemV) (s : List Nat × Int), (l.foldl (fun s x => wrote s (encI x)) s).2 = 0 → s.2 = 0 ∧ (∀ x ∈ l, (encI x).1 = 0) ∧ (l.foldl (fun s x => wrote s (encI x)) s).1 = s.1 ++ remI l := by
  intro l
  induction l with
  | nil => intro s h; exact ⟨h, by simp, by simp [remI]⟩
  | cons x l ih =>
    intro s h
    obtain ⟨h1, h2, h3⟩ := ih _ h
    obtain ⟨h4, h5⟩ := wrote_ok2 s _ h1
    refine ⟨h4, ?_, ?_⟩
    · intro y hy
      rcases List.mem_cons.1 hy with rfl | hy
      · exact h5
      · exact h2 y hy
    · have e : wrote s (encI x) = (s.1 ++ (encI x).2, 0) := by rw [wrote, if_pos h4, if_pos h5]
      rw [List.foldl_cons, h3]
      show (wrote s (encI x)).1 ++ remI l = _
      rw [e]
      simp [remI]
theorem stI_ok (l : List ItemV) (h : (stI l).2 = 0) : (∀ x ∈ l, (encI x).1 = 0) ∧ (stI l).1 = remI l := by
  obtain ⟨_, h2, h3⟩ := fold_ok l _ h
  exact ⟨h2, by simpa [stI] using h3⟩
theorem fold_len : ∀ (l : List ItemV) (s : List Nat × Int), (∀ x ∈ l, (encI x).2.length ≤ 308) → (l.foldl (fun s x => wrote s (encI x)) s).1.length ≤ s.1.length + 308 * l.length := by
  intro l
  induction l with
  | nil => intro s _; simp
  | cons x l ih =>
    intro s h
    have h1 := ih (wrote s (encI x)) (fun y hy => h y (by simp [hy]))
    have h2 := wrote_len s (encI x)
    have h3 := h x (by simp)
    rw [List.foldl_cons, List.length_cons]
    omega
theorem stI_len (l : List ItemV) (h : ∀ x ∈ l, (encI x).2.length ≤ 308) : (stI l).1.length ≤ 308 * l.length := by
  have := fold_len l ([], 0) h
  simpa [stI] using this
theorem encI_len (x : ItemV) {w : World} (hx : x.Ok w) (h : x.len ≤ 300) : (encI x).2.length ≤ 308 := by
  have h1 := hx.row.len
  have h2 := hx.keyLen
  have h3 := numL_len 7 x.len (by omega)
  unfold encI
  split
  · simp
  split
  · unfold encN; split
    · have := numL_len 7 x.num.toNat (by omega); simp only; omega
    · simp
  split
  · unfold encS; split
    · rename_i h0; have := numL_len 7 (sgnN x.num) (sgnN_lt _ h0.1 h0.2); simp only; omega
    · simp
  split
  · simp only [List.length_append]; omega
  split
  · simp only; omega
  · simp
theorem remI_drop (l : List ItemV) (i : Nat) (h : i < l.length) : remI (l.drop i) = (encI l[i]).2 ++ remI (l.drop (i + 1)) := by
  rw [List.drop_eq_getElem_cons h]; simp only [remI, List.map_cons, List.flatten_cons]
theorem remI_len (l : List ItemV) (h : ∀ x ∈ l, (encI x).2.length ≤ 308) : (remI l).length ≤ 308 * l.length := by
  induction l with
  | nil => simp [remI]
  | cons x l ih =>
    have h1 := ih (fun y hy => h y (by simp [hy]))
    have h2 := h x (by simp)
    have e : remI (x :: l) = (encI x).2 ++ remI l := by simp [remI]
    rw [e, List.length_append, List.length_cons]
    omega
/-- Where the walk stands ahead of item i: the row 'want', the Writer. -/
structure Half (w wr : World) (g i : Nat) (l : List ItemV) (Aw : Option Addr) (k cw : Nat) (z : Int) : Prop where
  ex : ∃ (F : Nat → Prop) (ws : List Nat), ws.length = k ∧ (∀ x ∈ ws, x < 256) ∧ wr.ownsRow w.heap.size 5 1 (.slice Aw k cw) k (ints .u8 ws) ∧ WAt wr g F (stI (l.take i)) ∧ (∀ h, (Value.slice Aw k cw).ownBlock = some h → ¬ F h) ∧ (∀ h, F h → w.heap.size ≤ h) ∧ ((stI (l.take i)).2 = 0 → ws = (stI (l.take i)).1)
  bad : (stI (l.take i)).2 = z
  bel : Below w.heap.size w wr
  len : k ≤ 308 * i
set_option maxRecDepth 100000 in
set_option maxHeartbeats 6400000 in
theorem walk (A : Option Addr) (n c : Nat) (l : List ItemV) (BA : Option Addr) (bn bc : Nat) (Bh : List Nat) (w : World) (hl : ReadsItems w A n c l) (hr : Reads .u8 w BA bn bc Bh) :
    Calls Try.prog 3 #[.slice A n c, .slice BA bn bc] w fun e w' => e = .returned (.bool true) ∧ Below w.heap.size w w' := by
  obtain ⟨i0, hi, hz0, hz1, hz2⟩ := info_parts infoU8
  have HL := Lib.hid hl
  have HR := Lib.hid hr
  have HLL := Lib.hid hl.len
  have HRL := Lib.hid hr.len
  clear hl hr
  go_enter Try.func3, Try.ntmps3
  go_wp2_with fail
  refine (awake6_c w).mono ?_
  rintro en w1 ⟨rfl, hb1⟩
  go_wp2_with fail
  refine (few_c A n c l w1 (HL.out.keep hb1)).mono ?_
  rintro en w2 ⟨b, rfl, rfl, hfew⟩
  cases b with
  | false =>
    clear hfew
    go_wp2
    go_ret
    exact ⟨rfl, hb1⟩
  | true =>
    obtain ⟨hn30, hall⟩ := hfew rfl
    rw [HLL.out] at hn30
    have HALL : Hid (∀ x ∈ l, x.len ≤ 300) := hall
    have HENC : Hid (∀ x ∈ l, (encI x).2.length ≤ 308) := by
      intro x hx
      obtain ⟨i, hi, rfl⟩ := List.getElem_of_mem hx
      obtain ⟨_, _, _, _, hok⟩ := HL.out.item i hi
      exact encI_len _ hok (hall _ (List.getElem_mem _))
    clear hfew hall
    by_cases hbn : 100 < bn
    · have d1 : decide ((100 : Int) < (bn : Int)) = true := by simp; omega
      go_wp2
      go_ret
      exact ⟨rfl, hb1⟩
    · have d1 : decide ((100 : Int) < (bn : Int)) = false := by simp; omega
      go_wp2_with fail
      refine (newWriter_c w1).mono ?_
      rintro en w2 ⟨rfl, h2, hb⟩
      have hs0 := hb1.size
      have HHALF : Hid (Half w w2 w1.heap.size 0 l none 0 0 0) := ⟨⟨newer w1, [], rfl, by simp, World.ownsRow_nil _ _ _ _, h2, (fun h e => by cases e), (fun h hh => Nat.le_trans hs0 hh), fun _ => rfl⟩, rfl, hb1.trans (hb.mono hs0), Nat.le_refl _⟩
      clear h2 hb
      generalize w1.heap.size = g at *
      go_wp2_with fail
      go_loopw [6, 7, 8] (fun p z x wr => ∃ (i k cw : Nat) (Aw : Option Addr) (zz : Int), i ≤ n ∧ p = .slice Aw k cw ∧ z = .int .i64 zz ∧ x = .int .i64 (i : Int) ∧ Hid (Half w wr g i l Aw k cw zz)) (fun _ _ x _ => n - (intOf x).toNat)
      case atStart => exact ⟨0, 0, 0, none, 0, Nat.zero_le _, rfl, rfl, rfl, HHALF⟩
      case round =>
        clear HHALF
        obtain ⟨i, k, cw, Aw, zz, hin, rfl, rfl, rfl, HH⟩ := hrel
        by_cases hlt : i < n
        · have hil : i < l.length := by rw [HLL.out]; exact hlt
          have hlt2 : (i : Int) < (n : Int) := by omega
          have hi0 : (0 : Int) ≤ (i : Int) := by omega
          have hbw := HH.out.bel
          have hbs := hbw.size
          have hklen := HH.out.len
          obtain ⟨x, hx⟩ : ∃ x, Hid (l[i] = x) := ⟨l[i], rfl⟩
          obtain ⟨ad, rfl, hadlt, hc, hok⟩ := HL.out.item i hil
          rw [hx.out] at hc hok
          have HXL : Hid (x.len ≤ 300) := by rw [← hx.out]; exact HALL.out _ (List.getElem_mem _)
          have HST : Hid (stI (l.take (i + 1)) = wrote (stI (l.take i)) (encI x)) := by show _ = _; rw [stI_snoc l i hil, hx.out]
          have HSL : Hid ((stI (l.take i)).1.length ≤ 308 * i) := by
            have := stI_len (l.take i) (fun y hy => HENC.out y (List.mem_of_mem_take hy))
            rw [List.length_take] at this
            show _ ≤ _
            omega
          have HEL : Hid ((encI x).2.length ≤ 308) := by rw [← hx.out]; exact HENC.out _ (List.getElem_mem _)
          have hcr : ∀ W, Below w.heap.size w W → ∀ j v, x.cells[j]? = some v → W.cell? ((ad.add (i * 35)).add j) = some v := by
            intro W hW j v hv
            rw [add_add, hW.cell (by rw [block_add]; exact hadlt)]
            exact hc j v hv
          have HC := Lib.hid hcr
          have HOK := Lib.hid hok
          have HCL := Lib.hid (length_cells x hok)
          clear hc hok hcr
          obtain ⟨F, ws, e1, e2, e3, e4, e5, e6, e7⟩ := HH.out.ex
          have hbad := HH.out.bad
          rw [show (stI (l.take i)).2 = zz from hbad] at e7
          have E1 := Lib.hid e1
          have E2 := Lib.hid e2
          have E3 := Lib.hid e3
          have E4 := Lib.hid e4
          have E5 := Lib.hid e5
          have E6 := Lib.hid e6
          have E7 := Lib.hid e7
          have HBAD := Lib.hid hbad
          clear e1 e2 e3 e4 e5 e6 e7 hbad HH hadlt
          go_wp2_with ((with_reducible refine at_load 33 ?_); refine wpList_load_at rfl 33 (.tmp 37) rfl (ad.add (i * 35)) rfl x.cells _ (HC.out wr hbw) Try.underlying33 rfl (by rw [HCL.out]; kernel_rfl) ?_)
          refine (write_c g F (stI (l.take i)) x wr E4.out (HOK.out.keep hbw) (fun h0 ad' e hF => ?_) (by have := HSL.out; have := HXL.out; omega)).mono ?_
          · have := E6.out _ hF
            obtain ⟨ad'', e'', hl'', _⟩ := HOK.out.row.cell 0 (by rw [HOK.out.row.len]; exact h0)
            rw [e] at e''
            cases e''
            omega
          rw [← HST.out]
          rintro en w3 ⟨⟨v, rfl⟩, h3, k3⟩
          have hb3 := k3.below hbw hbs E6.out
          have hs3 := k3.size
          have H3 := Lib.hid h3
          have O3 := Lib.hid (own_chg E3.out k3 E5.out)
          clear h3
          go_wp2_with ((with_reducible refine at_load 33 ?_); refine wpList_load_at rfl 33 (.tmp 43) rfl (ad.add (i * 35)) rfl x.cells _ (HC.out w3 hb3) Try.underlying33 rfl (by rw [HCL.out]; kernel_rfl) ?_)
          refine (bytesI_c x w3 (HOK.out.keep hb3) (by have := HXL.out; omega)).mono ?_
          rintro en w4 ⟨V, m, d, rfl, hr4, hV, hb⟩
          have hb4 := hb3.trans (hb.mono hb3.size)
          have hs4 := hb.size
          have HR4 := Lib.hid hr4
          have H4 := Lib.hid (H3.out.below hb)
          have O4 := Lib.hid (own_keep O3.out (only_of_below hb none) (by intro g _ e; cases e))
          have hlt4 : ∀ h, (Value.slice Aw k cw).ownBlock = some h → h < wr.heap.size := own_lt E3.out
          have hml := hr4.len
          have hm308 : m ≤ 308 := by have := HEL.out; omega
          have hk : k ≤ 9240 := by omega
          have HV := Lib.hid hV
          have HML := Lib.hid hml
          have HLT4 := Lib.hid hlt4
          clear hr4 hb H3 O3 hV hml hlt4
          obtain ⟨zz', hzz'⟩ : ∃ z, Hid ((encI x).1 = z) := ⟨_, rfl⟩
          rw [hzz'.out]
          by_cases hz : zz = 0
          · subst hz
            have hbe : (stI (l.take (i + 1))).2 = zz' := by
              rw [HST.out, wrote, if_pos HBAD.out]
              by_cases h0 : (encI x).1 = 0
              · rw [if_pos h0, ← hzz'.out, h0]
              · rw [if_neg h0, ← hzz'.out]
            have HBE := Lib.hid hbe
            clear hbe
            go_upto_region 10 with (at_builtin; refine wpList_appB rfl (.tmp 51) (.tmp 52) 23 rfl w.heap.size 5 i0 (.int .u8 0) 1 Try.underlying23 hi hz0 hz1 hz2 rfl _ k _ rfl O4.out .u8 V m d _ rfl HR4.out (by unfold maxLen; omega) (by omega) hb4.size ?_; intro v1 w5 hown5 hgrow5 hat5; obtain ⟨A5, c5, rfl⟩ := own_form hown5)
            have hb5 : Below w.heap.size w w5 := hb4.grown hgrow5 hb4.size (own_base O4.out)
            have hchg : Chg (fun h => (Value.slice Aw k cw).ownBlock = some h) w4 w5 := Chg.of_only hgrow5 (fun h e => e)
            have hW5 : WAt w5 g (fun h => orNew F wr h ∧ h < w4.heap.size) (stI (l.take (i + 1))) := (H4.out.clip).chg hchg (fun h hF e => hF.1.elim (E5.out h e) (fun hge => by have := HLT4.out h e; omega))
            have HH5 : Hid (Half w w5 g (i + 1) l A5 (k + m) c5 zz') := by
              refine ⟨⟨_, ws ++ (encI x).2, ?_, ?_, ?_, hW5, ?_, ?_, ?_⟩, HBE.out, hb5, by omega⟩
              · rw [List.length_append, E1.out, HML.out]
              · intro y hy
                rcases List.mem_append.1 hy with h | h
                · exact E2.out y h
                · exact wf_u8.1 (HR4.out.wf y h)
              · rw [ints_append]; exact hown5
              · intro h e hF
                rcases hat5 with e' | e'
                · have e'' : (Value.slice Aw k cw).ownBlock = some h := by rw [← e]; exact e'.symm
                  exact hF.1.elim (E5.out h e'') (fun hge => by have := HLT4.out h e''; omega)
                · rw [e] at e'
                  cases e'
                  exact Nat.lt_irrefl _ hF.2
              · intro h hF
                rcases hF.1 with h1 | h1
                · exact E6.out h h1
                · omega
              · intro h0
                have hr0 := (wrote_ok2 _ _ (by rw [← HST.out]; exact h0)).2
                rw [HST.out, wrote, if_pos HBAD.out, if_pos hr0, E7.out (by trivial)]
            clear hown5 hgrow5 hat5 hchg hW5
            go_wp2
            go_roundw
            case rel => exact ⟨i + 1, k + m, c5, A5, zz', by omega, rfl, rfl, by go_num, HH5⟩
            case measure => simp [intOf]; omega
          · have hz2 : (zz == 0) = false := by simpa using hz
            have hst : stI (l.take (i + 1)) = stI (l.take i) := by rw [HST.out, wrote, if_neg (by rw [HBAD.out]; exact hz)]
            have HH4 : Hid (Half w w4 g (i + 1) l Aw k cw zz) := by
              refine ⟨⟨orNew F wr, ws, E1.out, E2.out, O4.out, H4.out, ?_, ?_, ?_⟩, by rw [hst]; exact HBAD.out, hb4, by omega⟩
              · intro h e hF
                exact hF.elim (E5.out h e) (fun hge => by have := HLT4.out h e; omega)
              · intro h hF
                rcases hF with h1 | h1
                · exact E6.out h h1
                · omega
              · intro h0
                rw [hst, HBAD.out] at h0
                exact absurd h0 hz
            clear hz hst
            go_wp2
            go_roundw
            case rel => exact ⟨i + 1, k, cw, Aw, zz, by omega, rfl, rfl, by go_num, HH4⟩
            case measure => simp [intOf]; omega
        · obtain rfl : i = n := by omega
          have HTK : Hid (l.take i = l) := List.take_of_length_le (by rw [HLL.out]; omega)
          have hbw := HH.out.bel
          have hbs := hbw.size
          obtain ⟨F, ws, e1, e2, e3, e4, e5, e6, e7⟩ := HH.out.ex
          have hbad := HH.out.bad
          rw [HTK.out] at e4 e7 hbad
          have HSL : Hid ((stI l).1.length ≤ 9240) := by
            have := stI_len l HENC.out
            rw [HLL.out] at this
            show _ ≤ _
            omega
          have hk : k ≤ 9240 := by have := HH.out.len; omega
          obtain ⟨sb, hsb⟩ : ∃ sb, stI l = (sb, zz) := ⟨(stI l).1, Prod.ext rfl hbad⟩
          have HSB := Lib.hid hsb
          have HSLb : Hid (sb.length ≤ 9240) := by have := HSL.out; rw [hsb] at this; exact this
          rw [hsb] at e4 e7
          have E1 := Lib.hid e1
          have E2 := Lib.hid e2
          have E3 := Lib.hid e3
          have E4 := Lib.hid e4.clip
          have E5 := Lib.hid e5
          have E6 := Lib.hid e6
          have E7 := Lib.hid e7
          clear e1 e2 e3 e4 e5 e6 e7 hbad HH hsb HSL
          go_wp2_with fail
          refine (bytes_c g _ _ wr E4.out (by have := HSLb.out; simp only; omega)).mono ?_
          rintro en w4 ⟨V, m, d, rfl, hr4, hV4, hb⟩
          have hb4 := hbw.trans (hb.mono hbs)
          have hs4 := hb.size
          have HR4 := Lib.hid hr4
          have HV4 := Lib.hid hV4
          have H4 := Lib.hid (E4.out.below hb)
          have O4 := Lib.hid (own_keep E3.out (only_of_below hb none) (by intro g _ e; cases e))
          have hlt4 : ∀ h, (Value.slice Aw k cw).ownBlock = some h → h < wr.heap.size := own_lt E3.out
          have HLT4 := Lib.hid hlt4
          have hml := hr4.len
          have HML := Lib.hid hml
          clear hr4 hV4 hb hlt4 hml
          simp only at *
          by_cases hz : zz = 0
          · subst hz
            go_wp2_with fail
            refine (wfail_c g _ _ 20 w4 H4.out (by decide)).mono ?_
            rw [wrote_fail _ _ rfl (by decide)]
            rintro en w5 ⟨⟨v, rfl⟩, h5, k5⟩
            have H5 := Lib.hid h5
            have K5 := Lib.hid k5
            clear h5 k5
            go_wp2_with fail
            refine (wfail_c g _ _ 21 w5 H5.out (by decide)).mono ?_
            rw [wrote_err _ _ (by decide)]
            rintro en w6 ⟨⟨v, rfl⟩, h6, k6⟩
            have H6 := Lib.hid h6
            have k46 := K5.out.trans k6
            have hb6 := k46.below hb4 hb4.size (fun h hF => E6.out h hF.1)
            have HR6 := Lib.hid (HR4.out.chg k46 (fun _ ad e hF => by have := HV4.out ad e; have := hF.2; omega))
            have O6 := Lib.hid (own_chg O4.out k46 (fun h e hF => E5.out h e hF.1))
            clear h6 k6 k46 K5 H5 HR4 O4 H4
            go_wp2_with fail
            refine (bytes_c g _ _ w6 H6.out (by decide)).mono ?_
            rintro en w7 ⟨V2, m2, d2, rfl, hr7, _, hb⟩
            obtain rfl : 0 = m2 := hr7.len
            have hb7 := hb6.trans (hb.mono hb6.size)
            have HR7 := Lib.hid (HR6.out.keep hb)
            have O7 := Lib.hid (own_keep O6.out (only_of_below hb none) (by intro g _ e; cases e))
            clear hr7 hb HR6 O6 hb6 H6
            obtain ⟨Aw', cw', ew, hrw⟩ := Reads.of_own O7.out (fun y hy => wf_u8.2 (E2.out y hy))
            have ew' : Aw = Aw' ∧ cw = cw' := by simpa using ew
            obtain ⟨rfl, rfl⟩ := ew'
            have HRW := Lib.hid hrw
            clear hrw ew
            go_wp2_with fail
            refine (same_c V Aw m d k cw sb ws w7 HR7.out HRW.out).mono ?_
            rintro en w8 ⟨rfl, kk, rfl⟩
            have hsame : decide (sb = ws) = true := by rw [decide_eq_true_iff]; exact (E7.out (by trivial)).symm
            rw [hsame]
            clear hsame
            go_upto_region 26 with (fail)
            refine name_wp (fun w8 => w8.heap = w7.heap ∧ Below w.heap.size w w8) ⟨rfl, belowDrewN hb7 kk⟩ ?_
            rintro w8 ⟨heq8, hb8⟩
            have HR8 := Lib.hid (HR7.out.of_heap heq8)
            have hm : m ≤ 9240 := by have := HML.out; have := HSLb.out; omega
            have hsz8 := hb8.size
            clear heq8 HR7 HRW O7 hb7
            go_wp2_with (first
              | (at_builtin; refine wpList_appB rfl (.tmp 93) (.tmp 94) 23 rfl w8.heap.size 5 i0 (.int .u8 0) 1 Try.underlying23 hi hz0 hz1 hz2 rfl _ 0 [] rfl (blk_own (Blk.new w8 5 []) rfl (Nat.le_refl _) (by decide)) .u8 V m d sb rfl (HR8.out.keep (alloc_below _ _)) (by unfold maxLen; omega) (by omega) (by simp) ?_; intro v1 w9 hown9 hgrow9 hat9; obtain ⟨A9, c9, rfl⟩ := own_form hown9; have hown9' : w9.ownsRow w8.heap.size 5 1 (.slice A9 m c9) m (ints .u8 sb) := (by simpa using hown9); have hbel9 : Below w8.heap.size w8 w9 := below_of_only (g := w8.heap.size) (alloc_below w8 _) hgrow9 (by simp) (Nat.le_refl _))
              | (at_builtin; refine wpList_appB rfl (.tmp 95) (.tmp 96) 23 rfl w8.heap.size 5 i0 (.int .u8 0) 1 Try.underlying23 hi hz0 hz1 hz2 rfl _ m _ rfl hown9' .u8 BA bn bc Bh rfl (HR.out.keep (hb8.trans (hbel9.mono hb8.size))) (by unfold maxLen; omega) (by omega) hbel9.size ?_; intro v2 w10 hown10 hgrow10 hat10; obtain ⟨A10, c10, rfl⟩ := own_form hown10))
            have hbel10 : Below w8.heap.size w8 w10 := hbel9.grown hgrow10 hbel9.size (own_base hown9')
            have hb10 := hb8.trans (hbel10.mono hb8.size)
            have hown10' : w10.ownsRow w8.heap.size 5 1 (.slice A10 (m + bn) c10) (m + bn) (ints .u8 (sb ++ Bh)) := by simpa [ints_append] using hown10
            obtain ⟨A11, c11, e11, hr11⟩ := Reads.of_own hown10' (fun y hy => by rcases List.mem_append.1 hy with h | h; exact HR8.out.wf y h; exact HR.out.wf y h)
            have e12 : A10 = A11 ∧ c10 = c11 := by simpa using e11
            obtain ⟨rfl, rfl⟩ := e12
            have HR11 := Lib.hid hr11
            clear hown9 hown9' hgrow9 hat9 hown10 hgrow10 hat10 hbel9 hbel10 hown10' e11 hr11
            obtain ⟨hallok, hsbrem⟩ := stI_ok l (by rw [HSB.out])
            rw [HSB.out] at hsbrem
            have HAO := Lib.hid hallok
            have HSR : Hid (sb = remI l) := hsbrem
            clear hallok hsbrem
            refine (newReader_c A10 (m + bn) c10 (sb ++ Bh) w10 HR11.out (by omega)).mono ?_
            rintro en w11 ⟨g2, D, rfl, hg2, _, h11, hb⟩
            have hb11 := hb10.trans (hb.mono hb10.size)
            have hgw : w.heap.size ≤ g2 := Nat.le_trans hb10.size hg2
            have H11 : Hid (RAt w11 g2 D (remI (l.drop 0) ++ Bh, 0)) := by show RAt _ _ _ _; rw [List.drop_zero, ← HSR.out]; exact h11
            clear h11 hb hg2 hb10 HR11 HR8 hb8 hsz8
            clear HSR HSB E1 E2 E3 E4 E5 E6 E7 HLT4 HV4 HML HSLb hb4 hs4 hbw hbs
            generalize wr = wo at *
            generalize hiN : i = N at *
            have HN := Lib.hid hiN
            clear hiN
            go_wp2_with fail
            go_loopw [16] (fun q wr => ∃ j : Nat, j ≤ N ∧ q = .int .i64 (j : Int) ∧ Hid (RAt wr g2 D (remI (l.drop j) ++ Bh, 0)) ∧ Below w.heap.size w wr) (fun q _ => N - (intOf q).toNat)
            case atStart => exact ⟨0, Nat.zero_le _, rfl, H11, hb11⟩
            case round =>
              clear H11 hb11
              obtain ⟨j, hj, rfl, HA, hbw⟩ := hrel
              by_cases hjlt : j < N
              · have hjl : j < l.length := by rw [HLL.out]; exact hjlt
                have hlt2 : (j : Int) < (N : Int) := by omega
                have hj0 : (0 : Int) ≤ (j : Int) := by omega
                obtain ⟨x, hx⟩ : ∃ x, Hid (l[j] = x) := ⟨l[j], rfl⟩
                obtain ⟨ad, rfl, hadlt, hc, hok⟩ := HL.out.item j hjl
                rw [hx.out] at hc hok
                have HXL : Hid (x.len ≤ 300) := by rw [← hx.out]; exact HALL.out _ (List.getElem_mem _)
                have HXE : Hid ((encI x).1 = 0) := by show _ = _; rw [← hx.out]; exact HAO.out _ (List.getElem_mem _)
                have hrl : (remI (l.drop (j + 1)) ++ Bh).length ≤ 1000000 := by
                  have h1 := remI_len (l.drop (j + 1)) (fun y hy => HENC.out y (List.mem_of_mem_drop hy))
                  rw [List.length_drop, HLL.out] at h1
                  rw [List.length_append, HRL.out]
                  omega
                have HRLN := Lib.hid hrl
                rw [remI_drop l j hjl, hx.out, List.append_assoc] at HA
                have hcr : ∀ j' v, x.cells[j']? = some v → wr.cell? ((ad.add (j * 35)).add j') = some v := by
                  intro j' v hv
                  rw [add_add, hbw.cell (by rw [block_add]; exact hadlt)]
                  exact hc j' v hv
                have HC := Lib.hid hcr
                have HOK := Lib.hid hok
                have HCL := Lib.hid (length_cells x hok)
                have hoff : 0 < x.len → Off x.adr g2 := by
                  intro h0 ad' e
                  obtain ⟨ad'', e'', hl'', _⟩ := hok.row.cell 0 (by rw [hok.row.len]; exact h0)
                  rw [e] at e''
                  cases e''
                  omega
                have HOFF := Lib.hid hoff
                clear hc hok hcr hoff hadlt hrl
                go_wp2_with ((with_reducible refine at_load 33 ?_); refine wpList_load_at rfl 33 (.tmp 110) rfl (ad.add (j * 35)) rfl x.cells _ HC.out Try.underlying33 rfl (by rw [HCL.out]; kernel_rfl) ?_)
                refine (readI_c g2 D x (remI (l.drop (j + 1)) ++ Bh) wr HA.out (HOK.out.keep hbw) HXE.out (by have := HXL.out; omega) HRLN.out HOFF.out).mono ?_
                rintro en w12 ⟨rfl, h12, k12⟩
                have H12 := Lib.hid h12
                have hb12 := below_of_only hbw k12 hbw.size hgw
                clear h12 k12 HA hbw
                go_wp2_with fail
                refine (rerr_c g2 D _ w12 H12.out).mono ?_
                rintro en w13 ⟨rfl, rfl⟩
                go_wp2
                go_roundw
                case rel => exact ⟨j + 1, by omega, by go_num, H12, hb12⟩
                case measure => simp [intOf]; omega
              · obtain rfl : j = N := by omega
                have hnil : remI (l.drop j) = [] := by rw [List.drop_eq_nil_of_le (by rw [HLL.out]; omega)]; rfl
                rw [hnil, List.nil_append] at HA
                clear hnil
                have hdl : doneR (Bh, 0) = if 0 < bn then 5 else 0 := by
                  unfold doneR
                  simp only [true_and, HRL.out]
                by_cases hb0 : 0 < bn
                · rw [if_pos hb0] at hdl
                  have HD := Lib.hid hdl
                  have z1 : ((bn : Int) == 0) = false := by simp; omega
                  clear hdl
                  go_wp2_with fail
                  refine (rleft_c g2 D _ wr HA.out).mono ?_
                  simp only [HRL.out]
                  rintro en w13 ⟨rfl, rfl⟩
                  go_wp2_with fail
                  refine (rdone_c g2 D _ wr HA.out).mono ?_
                  rw [HD.out]
                  rintro en w13 ⟨rfl, rfl⟩
                  go_wp2_with fail
                  refine (rdone_c g2 D _ wr HA.out).mono ?_
                  rw [HD.out]
                  rintro en w13 ⟨rfl, rfl⟩
                  go_wp2
                  go_ret
                  exact ⟨rfl, hbw⟩
                · obtain rfl : bn = 0 := by omega
                  rw [if_neg hb0] at hdl
                  have HD := Lib.hid hdl
                  clear hdl hb0
                  go_wp2_with fail
                  refine (rleft_c g2 D _ wr HA.out).mono ?_
                  simp only [HRL.out]
                  rintro en w13 ⟨rfl, rfl⟩
                  go_wp2_with fail
                  refine (rdone_c g2 D _ wr HA.out).mono ?_
                  rw [HD.out]
                  rintro en w13 ⟨rfl, rfl⟩
                  go_wp2
                  go_ret
                  exact ⟨rfl, hbw⟩
          · have hz2 : (zz != 0) = true := by simpa using hz
            obtain rfl : sb = [] := E4.out.err hz
            obtain rfl : 0 = m := HML.out
            clear hz
            go_wp2
            go_ret
            exact ⟨rfl, hb4⟩
end Go.Proofs.Ytgoaelfifdalcaa.codecBack
