/- What the reference batonref08's Put, All and Valid return, for every row of at most 2^40 bytes, as a walk through the translated text. Conditions: the slices read as lists. -/
import Derived.Test.YtgkbgckpdkdngaaDoorRuneR3
import Derived.Test.YtgkbgckpdkdngaaDoorCut
namespace Go.Proofs.YtgkbgckpdkdngaaDoor
open Go.ChangeShapes Go.WideShapes Go.RowKit Go.Lib
theorem infoI64 : (Tryd.prog.info? 3).map (fun i => (i.zero, i.size, i.bytes)) = some (some (.int .i64 0), 1, 8) := by kernel_rfl
theorem wf_i64 {x : Nat} : (Lit.int .i64 (x : Int)).wf = true ↔ x < 9223372036854775808 := by
  simp [Lit.wf, IntKind.min, IntKind.max, IntKind.signed, IntKind.bits]; omega
theorem reads_newK {k : IntKind} {w : World} {t : TypeId} {l : List Nat} {n : Nat} {cs : Array Value} {fr : Nat × Nat} (hc : cs.toList = ints k l) (hl : l.length = n) (hm : n ≤ maxLen) (hx : ∀ x ∈ l, (Lit.int k (x : Int)).wf = true) : Reads k (w.alloc (.cells cs t fr)) (some ⟨w.heap.size, 0, none⟩) n n l := by
  refine ⟨hl, Nat.le_refl _, hm, hx, fun i hi => ⟨_, rfl, by simp, ?_⟩⟩
  rw [add_head, cell_of_row _ _ _ cs t fr (heap_alloc_new w _), ← Array.getElem?_toList, hc]
  simp [ints, hi]
def RefPut (w : World) (r : List Nat × List Nat) (en : Ending) (w' : World) : Prop := ∃ R m d V k e, en = .returned (.tuple #[.slice R m d, .slice V k e]) ∧ Reads .u8 w' R m d r.1 ∧ Reads .i64 w' V k e r.2 ∧ Below w.heap.size w w' ∧ (∀ ad, R = some ad → w.heap.size ≤ ad.block) ∧ ∀ ad, V = some ad → w.heap.size ≤ ad.block
theorem nil_reads (k : IntKind) (w : World) : Reads k w none 0 0 [] := Reads.nil.2 (by simp [maxLen])
set_option maxHeartbeats 3200000 in
set_option maxRecDepth 100000 in
theorem refPut_gen (A : Option Addr) (n c : Nat) (h : List Nat) (b : Nat) (w : World) (hr : Reads .u8 w A n c h) (hn : n ≤ 1099511627776) (hb : b < 256) (hrec : h ≠ [] → ∀ w, Calls Tryd.prog 8 #[.slice none 0 0, .int .u8 (b : Int)] w (RefPut w (putN [] b))) :
    Calls Tryd.prog 8 #[.slice A n c, .int .u8 (b : Int)] w (RefPut w (putN h b)) := by
  obtain ⟨i0, hi, hz0, hz1, hz2⟩ := info_parts infoU8
  obtain ⟨i1, hj, hy0, hy1, hy2⟩ := info_parts infoI64
  have HLEN := Lib.hid hr.len
  have HR := Lib.hid hr
  have HREC := Lib.hid hrec
  clear hr hrec
  go_enter Tryd.func8, Tryd.ntmps8
  go_wp2_with (at_builtin; refine wpList_app rfl (.tmp 10) (.tmp 11) 22 rfl w.heap.size 5 i0 (.int .u8 0) 1 Tryd.underlying22 hi hz0 hz1 hz2 rfl (.slice (some ⟨w.heap.size, 0, none⟩) 0 0) 0 [] rfl (blk_own (Blk.new _ _ []) rfl (Nat.le_refl _) (by decide)) .u8 A n c h rfl (HR.out.keep ((Below.refl _ _).alloc (Nat.le_refl _) _)) (by unfold maxLen; omega) (by omega) (by simp) ?_)
  intro v4 w4 hown4 hgrow4
  have hm4 : Mine w w4 5 v4 n (ints .u8 h) := ⟨by simpa using hown4, ((Below.refl _ _).alloc (Nat.le_refl _) _).grown hgrow4 (by simp) (by intro k hk; simp [Value.ownBlock] at hk; omega)⟩
  obtain ⟨A4, c4, rfl⟩ := own_form hm4.1
  clear hown4 hgrow4
  have HM4 := Lib.hid hm4
  clear hm4
  go_upto_region 2 with (at_builtin; refine wpList_app rfl (.tmp 12) (.tmp 14) 22 rfl w.heap.size 5 i0 (.int .u8 0) 1 Tryd.underlying22 hi hz0 hz1 hz2 rfl (.slice A4 n c4) n (ints .u8 h) rfl (HM4.out.1.alloc _) .u8 (some ⟨w4.heap.size, 0, none⟩) 1 1 [b] rfl (reads_new rfl rfl (by decide) (by simpa using hb)) (by unfold maxLen; omega) (by omega) (by have := HM4.out.2.size; rw [World.size_alloc]; omega) ?_; intro v5 w5 hown5 hgrow5; obtain ⟨A5, c5, rfl⟩ := own_form hown5)
  have hm5 := mine_grown HM4.out _ hown5 hgrow5
  rw [← ints_append] at hm5
  have hbx : ∀ y ∈ h ++ [b], y < 256 := by
    intro y hy
    rcases List.mem_append.1 hy with hy | hy
    · exact wf_u8.1 (HR.out.wf y hy)
    · rw [List.mem_singleton.1 hy]; exact hb
  obtain ⟨A7, c7, e7, hr7⟩ := Reads.of_own hm5.1 (fun y hy => wf_u8.2 (hbx y hy))
  cases e7
  have HR5 := Lib.hid hr7
  have HA5 : Hid (∀ ad, A5 = some ad → w.heap.size ≤ ad.block) := Lib.hid fun ad e => own_base hm5.1 ad.block (by rw [e]; rfl)
  have HB5 := Lib.hid hm5.2
  clear hm5 hown5 hgrow5 HM4 hbx hr7
  by_cases hok : okL (h ++ [b]) = true
  · have HWZ : Hid (wholeZ (h ++ [b]) = (valL (h ++ [b]) : Int)) := by show _ = _; rw [wholeZ, if_pos hok]
    have HN := Lib.hid (put_ok h b hok)
    have hvl := ok_val _ hok
    obtain ⟨u, hu⟩ : ∃ u, Hid (valL (h ++ [b]) = u) := ⟨_, Lib.hid rfl⟩
    rw [hu.out] at HWZ HN hvl
    have hu0 : (0 : Int) ≤ (u : Int) := by omega
    clear hok
    go_wp2_with fail
    refine (whole_c _ _ _ _ w5 HR5.out).mono ?_
    rw [HWZ.out]
    rintro en w8 ⟨rfl, hb8⟩
    have HB8 := Lib.hid hb8
    clear hb8
    go_wp2
    go_ret2
    rw [HN.out]
    exact ⟨_, _, _, _, _, _, rfl, nil_reads _ _, reads_newK rfl rfl (by decide) (by intro x hx; rw [List.mem_singleton.1 hx]; exact wf_i64.2 (by omega)), HB5.out.trans ((HB8.out.trans ((Below.refl _ _).alloc HB8.out.size _)).mono HB5.out.size), (fun ad e => by cases e), fun ad e => by cases e; exact Nat.le_trans HB5.out.size HB8.out.size⟩
  · have HWZ : Hid (wholeZ (h ++ [b]) = -1) := by show _ = _; rw [wholeZ, if_neg hok]
    by_cases hp : preL (h ++ [b]) = true
    · have HN := Lib.hid (put_pre h b hp)
      have HP := Lib.hid hp
      clear hok hp
      go_wp2_with fail
      refine (whole_c _ _ _ _ w5 HR5.out).mono ?_
      rw [HWZ.out]
      rintro en w8 ⟨rfl, hb8⟩
      have HB8 := Lib.hid hb8
      clear hb8
      go_wp2_with fail
      refine (begins_c _ _ _ _ w8 (HR5.out.keep HB8.out)).mono ?_
      rw [HP.out]
      rintro en w9 ⟨rfl, hb9⟩
      have HB9 := Lib.hid hb9
      clear hb9
      go_wp2
      go_ret2
      rw [HN.out]
      exact ⟨_, _, _, _, _, _, rfl, (HR5.out.keep HB8.out).keep HB9.out, nil_reads _ _, HB5.out.trans ((HB8.out.trans (HB9.out.mono HB8.out.size)).mono HB5.out.size), HA5.out, fun ad e => by cases e⟩
    · have hp' : preL (h ++ [b]) = false := by simpa using hp
      have HP := Lib.hid hp'
      by_cases h0 : h = []
      · have HN : Hid (putN h b = ([], [65533])) := by show _ = _; rw [putN, if_neg hok, if_neg hp, if_pos h0]
        obtain rfl : n = 0 := by have := HLEN.out; rw [h0] at this; simpa using this.symm
        clear hok hp hp' h0
        go_wp2_with fail
        refine (whole_c _ _ _ _ w5 HR5.out).mono ?_
        rw [HWZ.out]
        rintro en w8 ⟨rfl, hb8⟩
        have HB8 := Lib.hid hb8
        clear hb8
        go_wp2_with fail
        refine (begins_c _ _ _ _ w8 (HR5.out.keep HB8.out)).mono ?_
        rw [HP.out]
        rintro en w9 ⟨rfl, hb9⟩
        have HB9 := Lib.hid hb9
        clear hb9
        go_wp2
        go_ret2
        rw [HN.out]
        exact ⟨_, _, _, _, _, _, rfl, nil_reads _ _, reads_newK rfl rfl (by decide) (by intro x hx; rw [List.mem_singleton.1 hx]; decide), HB5.out.trans ((HB8.out.trans ((HB9.out.trans ((Below.refl _ _).alloc HB9.out.size _)).mono HB8.out.size)).mono HB5.out.size), (fun ad e => by cases e), fun ad e => by cases e; exact Nat.le_trans HB5.out.size (Nat.le_trans HB8.out.size HB9.out.size)⟩
      · have HN : Hid (putN h b = ((putN [] b).1, 65533 :: (putN [] b).2)) := by
          show _ = _
          rw [putN_nil, putN, if_neg hok, if_neg hp, if_neg h0]
        have hn0 : ((n : Int) == 0) = false := by
          have := HLEN.out
          have h2 : n ≠ 0 := fun e => h0 (List.eq_nil_of_length_eq_zero (by omega))
          simpa using h2
        have HRC := Lib.hid (HREC.out h0)
        have HLN := Lib.hid (put_len [] b)
        clear hok hp hp' h0
        go_wp2_with fail
        refine (whole_c _ _ _ _ w5 HR5.out).mono ?_
        rw [HWZ.out]
        rintro en w8 ⟨rfl, hb8⟩
        have HB8 := Lib.hid hb8
        clear hb8
        go_wp2_with fail
        refine (begins_c _ _ _ _ w8 (HR5.out.keep HB8.out)).mono ?_
        rw [HP.out]
        rintro en w9 ⟨rfl, hb9⟩
        have HB9 := Lib.hid hb9
        clear hb9
        go_wp2_with fail
        refine (HRC.out w9).mono ?_
        rintro en w10 ⟨R, m, d, V, k, e, rfl, hra, hrb, hb10, ha10, _⟩
        have HRA := Lib.hid hra
        have HRB := Lib.hid hrb
        have HB10 := Lib.hid hb10
        have HA10 := Lib.hid ha10
        have hkl : k ≤ 2 := by have h1 := hrb.len; have h2 := HLN.out.2; omega
        clear hra hrb hb10 ha10
        go_wp2_with (at_builtin; refine wpList_app rfl (.tmp 35) (.tmp 36) 26 rfl w10.heap.size 3 i1 (.int .i64 0) 8 Tryd.underlying26 hj hy0 hy1 hy2 rfl (.slice (some ⟨w10.heap.size, 0, none⟩) 1 1) 1 (ints .i64 [65533]) rfl (blk_own (Blk.new _ _ _) rfl (Nat.le_refl _) (by decide)) .i64 V k e _ rfl (HRB.out.keep ((Below.refl _ _).alloc (Nat.le_refl _) _)) (by unfold maxLen; omega) (by omega) (by simp) ?_; intro v6 w6 hown6 hgrow6; obtain ⟨A6, c6, rfl⟩ := own_form hown6)
        have hb6 : Below w10.heap.size w10 w6 := ((Below.refl _ _).alloc (Nat.le_refl _) _).grown hgrow6 (by simp) (by intro k hk; simp [Value.ownBlock] at hk; omega)
        rw [← ints_append] at hown6
        have HO6 := Lib.hid hown6
        have HB6 := Lib.hid hb6
        clear hown6 hgrow6 hb6
        go_wp2
        go_ret2
        rw [HN.out]
        obtain ⟨A8, c8, e8, hr8⟩ := Reads.of_own HO6.out (fun y hy => by
          rcases List.mem_append.1 hy with hy | hy
          · rw [List.mem_singleton.1 hy]; decide
          · exact HRB.out.wf y hy)
        cases e8
        exact ⟨_, _, _, _, _, _, rfl, HRA.out.keep HB6.out, hr8, HB5.out.trans ((HB8.out.trans ((HB9.out.trans ((HB10.out.trans (HB6.out.mono HB10.out.size)).mono HB9.out.size)).mono HB8.out.size)).mono HB5.out.size), (fun ad e => by
          have h1 := HA10.out ad e
          have h2 := HB5.out.size
          have h3 := HB8.out.size
          have h4 := HB9.out.size
          omega), fun ad e => by
          have h1 := own_base HO6.out ad.block (by rw [e]; rfl)
          have h2 := HB5.out.size
          have h3 := HB8.out.size
          have h4 := HB9.out.size
          have h5 := HB10.out.size
          omega⟩
theorem refPut_c (A : Option Addr) (n c : Nat) (h : List Nat) (b : Nat) (w : World) (hr : Reads .u8 w A n c h) (hn : n ≤ 1099511627776) (hb : b < 256) : Calls Tryd.prog 8 #[.slice A n c, .int .u8 (b : Int)] w (RefPut w (putN h b)) :=
  refPut_gen A n c h b w hr hn hb fun _ w' => refPut_gen none 0 0 [] b w' (nil_reads _ _) (by decide) hb fun e => absurd rfl e
def feedTo' (l : List Nat) (k : Nat) : List Nat × List Nat := feed ([], []) (l.take k)
theorem feedTo'_succ (l : List Nat) (k : Nat) (h : k < l.length) : feedTo' l (k + 1) = ((putN (feedTo' l k).1 l[k]).1, (feedTo' l k).2 ++ (putN (feedTo' l k).1 l[k]).2) := feed_succ _ _ _ h
theorem feedTo'_all (l : List Nat) (n : Nat) (h : l.length = n) : feedTo' l n = feed ([], []) l := by rw [feedTo', List.take_of_length_le (by omega)]
theorem feedTo'_len (l : List Nat) (k : Nat) : (feedTo' l k).2.length ≤ 2 * l.length := by
  have := feed_len ([], []) (l.take k)
  simp only [feedTo', List.length_nil, List.length_take] at this ⊢
  omega
theorem feedTo'_held (l : List Nat) (k : Nat) : HeldL (feedTo' l k).1 := feed_held _ _ (.inl rfl)
set_option maxHeartbeats 3200000 in
set_option maxRecDepth 100000 in
theorem refAll_c (A : Option Addr) (n c : Nat) (l : List Nat) (w : World) (hr : Reads .u8 w A n c l) (hn : n ≤ 1099511627776) : Calls Tryd.prog 18 #[.slice A n c] w (RowPost w 3 (allN l).length (ints .i64 (allN l))) := by
  obtain ⟨i1, hj, hy0, hy1, hy2⟩ := info_parts infoI64
  have HL := Lib.hid hr.len
  have HR := Lib.hid hr
  clear hr
  go_enter Tryd.func18, Tryd.ntmps18
  go_wp2_with fail
  go_loopw [3, 4, 5] (fun u v i wr => ∃ k m d N cB : Nat, ∃ R B, k ≤ n ∧ i = .int .i64 k ∧ u = .slice R m d ∧ v = .slice B N cB ∧ Hid ((feedTo' l k).2.length = N) ∧ Hid (Reads .u8 wr R m d (feedTo' l k).1) ∧ Hid (Mine w wr 3 (.slice B N cB) N (ints .i64 (feedTo' l k).2))) (fun _ _ i _ => n - (RowKit.intOf i).toNat)
  case atStart => exact ⟨0, 0, 0, 0, 0, none, none, Nat.zero_le _, rfl, rfl, rfl, rfl, Lib.hid (nil_reads _ _), Lib.hid ⟨World.ownsRow_nil _ _ _ _, Below.refl _ _⟩⟩
  case round =>
    obtain ⟨k, m, d, N, cB, R, B, hk, rfl, rfl, rfl, HN, HRD, HM⟩ := hrel
    by_cases hlt : k < n
    · have hkl : k < l.length := by rw [HL.out]; exact hlt
      obtain ⟨ad, rfl, hadlt, hcell⟩ := HR.out.cell k hkl
      have hcellr := (HM.out.2.cell (p := ad.add k) (by rw [block_add]; exact hadlt)).trans hcell
      have HFS := Lib.hid (feedTo'_succ l k hkl)
      have HFL := Lib.hid (feedTo'_len l (k + 1))
      have hbyte := wf_u8.1 (HR.out.wf l[k] (List.getElem_mem hkl))
      generalize l[k] = z at *
      have hlt2 : (k : Int) < (n : Int) := by omega
      have HML : Hid (m ≤ 1099511627776) := by
        show _ ≤ _
        have h1 := HRD.out.len
        have h2 := held_len _ (feedTo'_held l k)
        omega
      clear hcell
      go_wp2_with fail
      refine (refPut_c _ _ _ _ z wr HRD.out HML.out hbyte).mono ?_
      rintro en w1 ⟨R1, m1, d1, V1, k1, e1, rfl, hra, hrb, hb1, ha1, _⟩
      have HRA := Lib.hid hra
      have HRB := Lib.hid hrb
      have HB1 := Lib.hid hb1
      have HA1 := Lib.hid ha1
      have HM1 := Lib.hid (mine_below HM.out hb1)
      have HLE : Hid (N + k1 ≤ 2199023255552) := by
        show _ ≤ _
        have h1 := HFL.out
        rw [HFS.out, HL.out] at h1
        simp only [List.length_append] at h1
        have h2 := hrb.len
        rw [HN.out, h2] at h1
        omega
      have hbs : w.heap.size ≤ w1.heap.size := HM1.out.2.size
      clear hra hrb hb1 ha1
      go_wp2_with (at_builtin; refine wpList_appB rfl (.tmp 24) (.tmp 25) 26 rfl w.heap.size 3 i1 (.int .i64 0) 8 Tryd.underlying26 hj hy0 hy1 hy2 rfl _ _ _ rfl HM1.out.1 .i64 _ _ _ _ rfl HRB.out (by have := HLE.out; unfold maxLen; omega) (by have := HLE.out; omega) hbs ?_; intro v6 w6 h6 hg6 _; obtain ⟨A6, c6, rfl⟩ := own_form h6; have HO6 := Lib.hid h6; have HG6 := Lib.hid hg6; clear h6 hg6)
      have hm6 : Mine w w6 3 (.slice A6 (N + k1) c6) (N + k1) (ints .i64 (feedTo' l (k + 1)).2) := by
        rw [HFS.out, ints_append]
        exact ⟨HO6.out, HM1.out.2.grown HG6.out HM1.out.2.size (own_base HM1.out.1)⟩
      have HM6 := Lib.hid hm6
      have HN2 : Hid ((feedTo' l (k + 1)).2.length = N + k1) := by
        show _ = _
        rw [HFS.out, List.length_append, HN.out, HRB.out.len]
      have HRD2 : Hid (Reads .u8 w6 R1 m1 d1 (feedTo' l (k + 1)).1) := by
        show Reads _ _ _ _ _ _
        rw [HFS.out]
        refine HRA.out.chg (Chg.of_only HG6.out (F := fun i => (Value.slice B N cB).ownBlock = some i) (fun g hg => hg)) (fun _ ad e hF => ?_)
        have h1 := own_lt HM.out.1 _ hF
        have h2 := HA1.out ad e
        omega
      clear hm6 HO6 HG6 HM1 HM HRD
      go_roundw
      case rel => exact ⟨k + 1, m1, d1, N + k1, c6, R1, A6, by omega, by go_num, rfl, rfl, HN2, HRD2, HM6⟩
      case measure => simp [RowKit.intOf]; omega
    · have hkn : k = n := by omega
      subst hkn
      have HFA := Lib.hid (feedTo'_all l k HL.out)
      have HFL := Lib.hid (feedTo'_len l k)
      have HML := Lib.hid HRD.out.len
      by_cases hm0 : m = 0
      · have HE : Hid (allN l = (feedTo' l k).2) := by
          show _ = _
          rw [allN, ← HFA.out, endN, if_pos (List.eq_nil_of_length_eq_zero (by rw [HML.out, hm0])), List.append_nil]
        subst hm0
        go_wp2
        go_ret
        refine ⟨_, rfl, ?_⟩
        rw [HE.out, HN.out]
        exact HM.out
      · have HE : Hid (allN l = (feedTo' l k).2 ++ [65533]) := by
          show _ = _
          rw [allN, ← HFA.out, endN, if_neg (fun e => hm0 (by rw [← HML.out, e]; rfl))]
        have hm1 : (0 : Int) < (m : Int) := by omega
        have hbs : w.heap.size ≤ wr.heap.size := HM.out.2.size
        have HLE : Hid (N ≤ 2199023255552) := by
          show _ ≤ _
          have h1 := HFL.out
          rw [HN.out, HL.out] at h1
          omega
        clear hm0
        go_wp2_with (at_builtin; refine wpList_app rfl (.tmp 30) (.tmp 31) 26 rfl w.heap.size 3 i1 (.int .i64 0) 8 Tryd.underlying26 hj hy0 hy1 hy2 rfl (.slice B N cB) N _ rfl (HM.out.1.alloc _) .i64 (some ⟨wr.heap.size, 0, none⟩) 1 1 [65533] rfl (reads_newK rfl rfl (by decide) (by decide)) (by have := HLE.out; unfold maxLen; omega) (by have := HLE.out; omega) (by rw [World.size_alloc]; omega) ?_; intro v6 w6 hown6 hgrow6; obtain ⟨A6, c6, rfl⟩ := own_form hown6)
        have hm6 := mine_grown HM.out _ hown6 hgrow6
        rw [← ints_append, ← HE.out] at hm6
        have HM6 := Lib.hid hm6
        clear hm6 hown6 hgrow6
        go_wp2
        go_ret
        refine ⟨_, rfl, ?_⟩
        rw [show (allN l).length = N + 1 from by rw [HE.out, List.length_append, HN.out]; rfl]
        exact HM6.out
end Go.Proofs.YtgkbgckpdkdngaaDoor
