/- The statement RunesPieces walked: code points are read of their text as they were, also behind a whole text. Conditions: the slice reads as a list; the two tables of unicode/utf8 hold what their text lays. -/
import Derived.Test.YtgkbgckpdkdngaaDoorAwake8
import Derived.Test.YtgkbgckpdkdngaaDoorRune4
import Derived.Test.YtgkbgckpdkdngaaDoorRuneR1
namespace Go.Proofs.YtgkbgckpdkdngaaDoor.runesPieces
open Go.ChangeShapes Go.WideShapes Go.RowKit Go.Lib
theorem range_i32 (z : Int) (h : (Lit.int .i32 z).wf = true) : -2147483648 ≤ z ∧ z ≤ 2147483647 := by
  simp [Lit.wf, IntKind.min, IntKind.max, IntKind.signed, IntKind.bits] at h; omega
theorem wrap_in (z : Int) (h0 : -2147483648 ≤ z) (h1 : z ≤ 2147483647) : IntKind.i64.wrap z = z := by
  rw [IntKind.wrap_i64]
  omega
def intsI (l : List Int) : List Value := l.map fun z => Value.int .i32 z
theorem readsI_own {w : World} {base : Nat} {e : TypeId} {v : Value} {n : Nat} {l : List Int} (h : w.ownsRow base e 1 v n (intsI l)) (hwf : ∀ x ∈ l, (Lit.int .i32 x).wf = true) : ∃ A c, v = .slice A n c ∧ ReadsI .i32 w A n c l := by
  have hlen : l.length = n := by simpa [intsI] using h.1
  rcases h.2 with ⟨rfl, rfl⟩ | ⟨g, cap, cur, rfl, hb, hh, hn, hm, hs, ht⟩
  · have : l = [] := List.eq_nil_of_length_eq_zero hlen
    subst this
    exact ⟨none, 0, rfl, rfl, Nat.le_refl _, by simp [maxLen], by simp, by simp⟩
  · refine ⟨_, cap, rfl, hlen, hn, hm, hwf, fun i hi => ⟨_, rfl, ?_, ?_⟩⟩
    · show g < w.heap.size
      rcases Nat.lt_or_ge g w.heap.size with hlt | hge
      · exact hlt
      · rw [Array.getElem?_eq_none hge] at hh; cases hh
    · rw [h.cells (g := g) rfl i (.int .i32 l[i]) (by simp [intsI, hi])]
theorem fix_int (z : Int) : ((fixZ z : Nat) : Int) = if signZ z = true then z else 65533 := by
  rw [fixZ]
  by_cases hs : signZ z = true
  · have h := hs
    simp only [signZ, decide_eq_true_eq] at h
    rw [if_pos hs, if_pos hs]; omega
  · rw [if_neg hs, if_neg hs]; rfl
theorem text_len (l : List Int) : (textZ l).length ≤ 4 * l.length := by
  induction l with
  | nil => simp [textZ]
  | cons z l ih =>
    have h1 := (uniZ_len z).2
    rw [show textZ (z :: l) = uniZ z ++ textZ l from by simp [textZ], List.length_append, List.length_cons]
    omega
set_option maxHeartbeats 6400000 in
set_option maxRecDepth 100000 in
theorem walk (A : Option Addr) (n c : Nat) (l : List Int) (s : ByteArray) (w : World) (hr : ReadsI .i32 w A n c l) (_ws : s.size ≤ maxLen) (kt : Tabs w) : Calls Tryd.prog 6 #[.slice A n c, .string s] w fun e w' => e = .returned (.bool true) ∧ Below w.heap.size w w' := by
  obtain ⟨i0, hi, hz0, hz1, hz2⟩ := info_parts infoI32
  have HA := Lib.hid (awake8_c w kt)
  have HT := Lib.hid kt
  have HL := Lib.hid hr.len
  have HR := Lib.hid hr
  clear kt hr
  go_enter Tryd.func6, Tryd.ntmps6
  go_wp2_with fail
  refine HA.out.mono ?_
  rintro en w1 ⟨rfl, hb1⟩
  have HB1 := Lib.hid hb1
  clear hb1
  by_cases hn : 40 < n
  · have q1 : (40 : Int) < (n : Int) := by omega
    go_wp2
    go_ret
    exact ⟨rfl, HB1.out⟩
  · have q1 : ¬ ((40 : Int) < (n : Int)) := by omega
    by_cases hs : 60 < s.size
    · have q2 : (60 : Int) < (s.size : Int) := by omega
      go_wp2
      go_ret
      exact ⟨rfl, HB1.out⟩
    · have q2 : ¬ ((60 : Int) < (s.size : Int)) := by omega
      have HT1 := Lib.hid (HT.out.keep HB1.out)
      have HR1 := Lib.hid (HR.out.keep HB1.out)
      go_wp2_with fail
      go_loopw [5, 6] (fun v i wr => ∃ k cB : Nat, ∃ B, k ≤ n ∧ i = .int .i64 k ∧ v = .slice B k cB ∧ Hid (Mine w1 wr 21 (.slice B k cB) k (intsI (l.take k)))) (fun _ i _ => n - (RowKit.intOf i).toNat)
      case atStart => exact ⟨0, 0, none, Nat.zero_le _, rfl, rfl, Lib.hid ⟨World.ownsRow_nil _ _ _ _, Below.refl _ _⟩⟩
      case round =>
        obtain ⟨k, cB, B, hk, rfl, rfl, HM⟩ := hrel
        by_cases hlt : k < n
        · have hkl : k < l.length := by rw [HL.out]; exact hlt
          obtain ⟨ad, rfl, hadlt, hcell⟩ := HR1.out.cell k hkl
          have hcellr := (HM.out.2.cell (p := ad.add k) (by rw [block_add]; exact hadlt)).trans hcell
          have HTK : Hid (intsI (l.take (k + 1)) = intsI (l.take k) ++ [.int .i32 l[k]]) := by
            show _ = _
            rw [List.take_succ_eq_append_getElem hkl, intsI, List.map_append]; rfl
          generalize l[k] = z at *
          have hlt2 : (k : Int) < (n : Int) := by omega
          clear hcell hadlt
          go_wp2_with (at_builtin; refine wpList_append_own_at _ rfl (.tmp 27) (.tmp 32) 30 rfl w1.heap.size 21 i0 (.int .i32 0) 1 4 Tryd.underlying30 hi hz0 hz1 hz2 rfl (by decide) (.slice B k cB) k _ rfl (HM.out.1.alloc _) ⟨wr.heap.size, 0, none⟩ 1 1 _ rfl rfl (cells_new _ _ _) (by simp [Value.oneCell']) (by unfold maxLen; omega) (by omega) (by have := HM.out.2.size; rw [World.size_alloc]; omega) ?_; intro v3 w3 hown3 hgrow3 hiff3 hat3; obtain ⟨A3, c3, rfl⟩ := own_form hown3)
          have hm3 : Mine w1 w3 21 (.slice A3 (k + 1) c3) (k + 1) (intsI (l.take (k + 1))) := by
            rw [HTK.out]; exact mine_grown HM.out _ hown3 hgrow3
          have HM3 := Lib.hid hm3
          clear hown3 hgrow3 hiff3 hat3 HM hm3 hcellr
          go_roundw
          case rel => exact ⟨k + 1, c3, A3, by omega, by go_num, rfl, HM3⟩
          case measure => simp [RowKit.intOf]; omega
        · have hkn : k = n := by omega
          subst hkn
          have hm := HM.out
          rw [List.take_of_length_le (by rw [HL.out]; exact Nat.le_refl _)] at hm
          obtain ⟨A4, c4, e4, hr4⟩ := readsI_own hm.1 (fun x hx => HR.out.wf x hx)
          cases e4
          have HR4 := Lib.hid hr4
          have HB4 := Lib.hid hm.2
          clear hm hr4 HM hk hlt
          go_wp2_with fail
          refine (text_c _ _ _ _ wr HR4.out).mono ?_
          rintro en w5 ⟨t, rfl, ht, rfl⟩
          have HTX := Lib.hid ht
          have HTS : Hid (t.size ≤ 160) := by
            show _ ≤ _
            have h1 := text_len l
            rw [← ht, length_strL, HL.out] at h1
            omega
          have HT5 := Lib.hid (HT1.out.keep HB4.out)
          have HR5 := Lib.hid (HR1.out.keep HB4.out)
          clear ht HR4
          go_wp2_with fail
          refine (runes_c t _ HT5.out (by have := HTS.out; omega)).mono ?_
          rw [HTX.out, all_text]
          rintro en w6 ⟨v6, rfl, ho6, hb6⟩
          obtain ⟨A6, c6, rfl, hr6⟩ := Reads.of_own ho6 (fun x hx => wf_i32.2 (by
            obtain ⟨z, _, rfl⟩ := List.mem_map.1 hx
            have h := fixZ_sign z
            simp only [signZ, decide_eq_true_eq] at h
            omega))
          have hlm : (l.map fixZ).length = k := by rw [List.length_map, HL.out]
          have HR6 := Lib.hid hr6
          have HB6 := Lib.hid hb6
          have HR7 := Lib.hid (HR5.out.keep hb6)
          have HT6 := Lib.hid (HT5.out.keep hb6)
          have HBT := Lib.hid (HB1.out.trans ((HB4.out.trans (hb6.mono HB4.out.size)).mono HB1.out.size))
          clear ho6 hb6 hr6
          rw [hlm]
          clear hlm
          go_wp2_with fail
          go_loopw [9] (fun i wr => ∃ j : Nat, j ≤ k ∧ i = .int .i64 j ∧ w6 = wr) (fun i _ => k - (RowKit.intOf i).toNat)
          case atStart => exact ⟨0, Nat.zero_le _, rfl, rfl⟩
          case round =>
            obtain ⟨j, hj, rfl, rfl⟩ := hrel
            by_cases hlt : j < k
            · have hjl : j < l.length := by rw [HL.out]; exact hlt
              obtain ⟨ad, e1, hadlt, hcell⟩ := HR7.out.cell j hjl
              subst e1
              obtain ⟨bd, e2, hbdlt, hcellb⟩ := HR6.out.cell j (by rw [List.length_map]; exact hjl)
              subst e2
              have hwz := range_i32 _ (HR7.out.wf l[j] (List.getElem_mem hjl))
              rw [List.getElem_map, fix_int] at hcellb
              generalize l[j] = z at *
              have hwr := wrap_in z hwz.1 hwz.2
              have hlt2 : (j : Int) < (k : Int) := by omega
              have hj0 : (0 : Int) ≤ (j : Int) := by omega
              have HS := Lib.hid (sign_c z w6)
              clear hwz
              by_cases hsg : signZ z = true
              · rw [if_pos hsg] at hcellb
                rw [hsg] at HS
                clear hsg
                go_wp2_with fail
                refine HS.out.mono ?_
                rintro en w8 ⟨rfl, rfl⟩
                go_wp2_with fail
                go_roundw
                case rel => exact ⟨j + 1, by omega, by go_num, trivial⟩
                case measure => simp [RowKit.intOf]; omega
              · have hsg' : signZ z = false := by simpa using hsg
                rw [if_neg hsg] at hcellb
                rw [hsg'] at HS
                clear hsg hsg'
                go_wp2_with fail
                refine HS.out.mono ?_
                rintro en w8 ⟨rfl, rfl⟩
                go_wp2_with fail
                go_roundw
                case rel => exact ⟨j + 1, by omega, by go_num, trivial⟩
                case measure => simp [RowKit.intOf]; omega
            · have hjk : ¬ ((j : Int) < (k : Int)) := by omega
              go_wp2_with fail
              refine (rvalid_c s w6).mono ?_
              rintro en w8 ⟨b, rfl, hbg, hb8⟩
              have HB8 := Lib.hid hb8
              have HT8 := Lib.hid (HT6.out.keep hb8)
              have HBG := Lib.hid hbg
              clear hb8 hbg
              cases b with
              | false =>
                go_wp2
                go_ret
                exact ⟨rfl, HBT.out.trans (HB8.out.mono HBT.out.size)⟩
              | true =>
                have HGD := Lib.hid (HBG.out.1 rfl)
                have hcat : ¬ 9223372036854775807 < s.size + t.size := by have := HTS.out; omega
                clear HBG
                have HCT : Hid ((allN (strL (s ++ t))).length = (allN (strL s)).length + k) := by
                  show _ = _
                  rw [strL_append, all_good_append _ _ HGD.out, List.length_append, HTX.out, all_text, List.length_map, HL.out]
                have HCL : Hid ((allN (strL s)).length ≤ 121) := by
                  show _ ≤ _
                  have h1 := allN_len (strL s)
                  rw [length_strL] at h1
                  omega
                go_wp2_with fail
                refine (count_c (s ++ t) w8 HT8.out (by rw [ByteArray.size_append]; have := HTS.out; omega)).mono ?_
                rw [HCT.out]
                rintro en w9 ⟨rfl, hb9⟩
                have HB9 := Lib.hid hb9
                clear hb9
                go_wp2_with fail
                refine (count_c s w9 (HT8.out.keep HB9.out) (by omega)).mono ?_
                rintro en w10 ⟨rfl, hb10⟩
                have HB10 := Lib.hid hb10
                clear hb10
                have hcl := HCL.out
                generalize (allN (strL s)).length = N at *
                go_wp2
                go_ret
                exact ⟨rfl, HBT.out.trans ((HB8.out.trans ((HB9.out.trans (HB10.out.mono HB9.out.size)).mono HB8.out.size)).mono HBT.out.size)⟩
end Go.Proofs.YtgkbgckpdkdngaaDoor.runesPieces
