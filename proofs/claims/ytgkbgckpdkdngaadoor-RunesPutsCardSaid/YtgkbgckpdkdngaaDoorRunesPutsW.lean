/- The statement RunesPuts walked: for any bytes, one by one, a Decoder tells and holds what the reference does. Conditions: the slice reads as a list; the two tables of unicode/utf8 hold what their text lays. -/
import Derived.Test.YtgkbgckpdkdngaaDoorAwake8
import Derived.Test.YtgkbgckpdkdngaaDoorRuneR4
namespace Go.Proofs.YtgkbgckpdkdngaaDoor.runesPuts
open Go.ChangeShapes Go.WideShapes Go.RowKit Go.Lib
/-- After k bytes: the Decoder at g and the reference's row hold the same. -/
structure Both (w wr : World) (g : Nat) (l : List Nat) (k : Nat) (R : Option Addr) (m d : Nat) : Prop where
  st : DAt wr g (feedTo' l k).1
  low : w.heap.size ≤ g
  rd : Reads .u8 wr R m d (feedTo' l k).1
  off : ∀ ad, R = some ad → ad.block ≠ g
  below : Below w.heap.size w wr
  tab0 : Tabs w
set_option maxHeartbeats 6400000 in
set_option maxRecDepth 100000 in
theorem walk (A : Option Addr) (n c : Nat) (l : List Nat) (w : World) (hr : Reads .u8 w A n c l) (kt : Tabs w) : Calls Tryd.prog 3 #[.slice A n c] w fun e w' => e = .returned (.bool true) ∧ Below w.heap.size w w' := by
  have HA := Lib.hid (awake8_c w kt)
  have HT := Lib.hid kt
  have HL := Lib.hid hr.len
  have HR := Lib.hid hr
  clear kt hr
  go_enter Tryd.func3, Tryd.ntmps3
  go_wp2_with fail
  refine HA.out.mono ?_
  rintro en w1 ⟨rfl, hb1⟩
  have HB1 := Lib.hid hb1
  clear hb1
  by_cases hn : 100 < n
  · have q1 : (100 : Int) < (n : Int) := by omega
    go_wp2
    go_ret
    exact ⟨rfl, HB1.out⟩
  · have q1 : ¬ ((100 : Int) < (n : Int)) := by omega
    have HT1 := Lib.hid (HT.out.keep HB1.out)
    have HST := Lib.hid (drow_start w1 HT1.out)
    have HR1 := Lib.hid (HR.out.keep HB1.out)
    go_wp2_with fail
    go_loopw [4, 5] (fun u i wr => ∃ k m d : Nat, ∃ R, k ≤ n ∧ i = .int .i64 k ∧ u = .slice R m d ∧ Hid (Both w1 wr w1.heap.size l k R m d)) (fun _ i _ => n - (RowKit.intOf i).toNat)
    case atStart => exact ⟨0, 0, 0, none, Nat.zero_le _, rfl, rfl, Lib.hid ⟨HST.out.st, Nat.le_refl _, nil_reads _ _, (fun ad e => by cases e), HST.out.below, HT1.out⟩⟩
    case round =>
      clear HST
      obtain ⟨k, m, d, R, hk, rfl, rfl, HBO⟩ := hrel
      by_cases hlt : k < n
      · have hkl : k < l.length := by rw [HL.out]; exact hlt
        obtain ⟨ad, rfl, hadlt, hcell⟩ := HR1.out.cell k hkl
        have hcellr := (HBO.out.below.cell (p := ad.add k) (by rw [block_add]; exact hadlt)).trans hcell
        have HFS := Lib.hid (feedTo'_succ l k hkl)
        have hbyte := wf_u8.1 (HR1.out.wf l[k] (List.getElem_mem hkl))
        generalize l[k] = z at *
        have hlt2 : (k : Int) < (n : Int) := by omega
        have HML : Hid (m ≤ 1099511627776) := by
          show _ ≤ _
          have h1 := HBO.out.rd.len
          have h2 := held_len _ (feedTo'_held l k)
          omega
        have HAL : Hid (ad.block < w1.heap.size) := Lib.hid hadlt
        have HCL := Lib.hid hcell
        clear hcell hadlt
        go_wp2_with fail
        refine (refPut_c _ _ _ _ z wr HBO.out.rd HML.out hbyte).mono ?_
        rintro en w2 ⟨R2, m2, d2, V2, k2, e2, rfl, hra, hrb, hb2, ha2, hv2⟩
        have hbt := HBO.out.below.trans (hb2.mono HBO.out.below.size)
        have hcell2 := (hbt.cell (p := ad.add k) (by rw [block_add]; exact HAL.out)).trans HCL.out
        have HRA := Lib.hid hra
        have HRB := Lib.hid hrb
        have HB2 := Lib.hid hb2
        have HA2 := Lib.hid ha2
        have HBT := Lib.hid hbt
        have HD2 := Lib.hid (HBO.out.st.below hb2)
        clear hra hrb hb2 ha2 hcellr hbt
        go_wp2_with fail
        refine (put_c w1.heap.size _ z w2 HD2.out (HT1.out.keep HBT.out) (feedTo'_held l k) hbyte).mono ?_
        rintro en w3 ⟨v3, rfl, ho3, hd3, hg3⟩
        have hle := (put_byte (feedTo' l k).1 z HD2.out.byte hbyte).2
        obtain ⟨A3, c3, rfl, hr3⟩ := Reads.of_own ho3 (fun x hx => wf_i32.2 (by have := hle x hx; omega))
        have HR3 := Lib.hid hr3
        have HD3 := Lib.hid hd3
        have HG3 := Lib.hid hg3
        have hgl : w1.heap.size < wr.heap.size := HBO.out.st.lt
        have HRB3 : Hid (Reads .i64 w3 V2 k2 e2 (putN (feedTo' l k).1 z).2) := Lib.hid (HRB.out.chg (Chg.of_only hg3 (F := fun i => i = w1.heap.size) (fun g hg => by cases hg; rfl)) (fun _ ad' e hF => by have := hv2 ad' e; omega))
        have HRA3 : Hid (Reads .u8 w3 R2 m2 d2 (putN (feedTo' l k).1 z).1) := Lib.hid (HRA.out.chg (Chg.of_only hg3 (F := fun i => i = w1.heap.size) (fun g hg => by cases hg; rfl)) (fun _ ad' e hF => by have := HA2.out ad' e; omega))
        have HB3 : Hid (Below w1.heap.size w1 w3) := Lib.hid (HBT.out.grown hg3 HBT.out.size (fun k hk => by cases hk; exact Nat.le_refl _))
        clear ho3 hd3 hg3 hr3 hle hv2 hcell2
        go_wp2_with fail
        refine (lsame_c _ _ _ _ _ _ _ _ w3 HR3.out HRB3.out).mono ?_
        rw [decide_eq_true rfl]
        rintro en w4 ⟨rfl, q, rfl⟩
        go_wp2_with fail
        refine (waits_c w1.heap.size _ (w3.drewN q) (HD3.out.of_heap rfl)).mono ?_
        rintro en w5 ⟨rfl, rfl⟩
        have HML2 := Lib.hid HRA3.out.len
        rw [HML2.out]
        have HBO2 : Hid (Both w1 (w3.drewN q) w1.heap.size l (k + 1) R2 m2 d2) := by
          show Both _ _ _ _ _ _ _ _
          refine ⟨?_, Nat.le_refl _, ?_, (fun ad' e => by have := HA2.out ad' e; omega), belowDrewN HB3.out _, HT1.out⟩
          · rw [HFS.out]; exact HD3.out.of_heap rfl
          · rw [HFS.out]; exact HRA3.out.drewN _
        clear HBO HR3 HRB3 HRA3 HD3 HG3 HD2 HRA HRB HB2
        go_wp2_with fail
        go_roundw
        case rel => exact ⟨k + 1, m2, d2, R2, by omega, by go_num, rfl, HBO2⟩
        case measure => simp [RowKit.intOf]; omega
      · have hkn : k = n := by omega
        subst hkn
        have HML := Lib.hid HBO.out.rd.len
        have HC := Lib.hid (dend_c w1.heap.size _ wr HBO.out.st)
        clear hk hlt
        by_cases hm0 : m = 0
        · have HE : Hid (endN (feedTo' l k).1 = []) := by
            show _ = _
            rw [endN, if_pos (List.eq_nil_of_length_eq_zero (by rw [HML.out, hm0]))]
          rw [HE.out] at HC
          subst hm0
          go_wp2_with fail
          refine HC.out.mono ?_
          rintro en w2 ⟨v2, rfl, ho2, hd2, hg2⟩
          obtain ⟨A2, c2, rfl⟩ := own_form ho2
          have HB2 := Lib.hid (HBO.out.below.grown hg2 HBO.out.below.size (fun k hk => by cases hk; exact Nat.le_refl _))
          clear ho2 hd2 hg2
          go_wp2
          go_ret
          exact ⟨rfl, HB1.out.trans (HB2.out.mono HB1.out.size)⟩
        · have HE : Hid (endN (feedTo' l k).1 = [65533]) := by
            show _ = _
            rw [endN, if_neg (fun e => hm0 (by rw [← HML.out, e]; rfl))]
          rw [HE.out] at HC
          have hm1 : ((m : Int) == 0) = false := by simpa using hm0
          clear hm0
          go_wp2_with fail
          refine HC.out.mono ?_
          rintro en w2 ⟨v2, rfl, ho2, hd2, hg2⟩
          obtain ⟨A2, c2, rfl, hr2⟩ := Reads.of_own ho2 (fun x hx => wf_i32.2 (by rw [List.mem_singleton.1 hx]; decide))
          obtain ⟨ad, rfl, hlt2, hc2⟩ := hr2.cell 0 (by simp)
          simp only [List.getElem_cons_zero, show ad.add 0 = ad from by simp [Addr.add]] at hc2
          have HB2 := Lib.hid (HBO.out.below.grown hg2 HBO.out.below.size (fun k hk => by cases hk; exact Nat.le_refl _))
          have HD2 := Lib.hid hd2
          clear ho2 hd2 hg2 hr2
          go_wp2_with fail
          refine (waits_c w1.heap.size _ w2 HD2.out).mono ?_
          rintro en w3 ⟨rfl, rfl⟩
          go_wp2_with fail
          refine (dend_c w1.heap.size _ _ HD2.out).mono ?_
          rw [show endN [] = [] from rfl]
          rintro en w4 ⟨v4, rfl, ho4, hd4, hg4⟩
          obtain ⟨A4, c4, rfl⟩ := own_form ho4
          have HB4 := Lib.hid (HB2.out.grown hg4 HB2.out.size (fun k hk => by cases hk; exact Nat.le_refl _))
          clear ho4 hd4 hg4
          go_wp2
          go_ret
          exact ⟨rfl, HB1.out.trans (HB4.out.mono HB1.out.size)⟩
end Go.Proofs.YtgkbgckpdkdngaaDoor.runesPuts
