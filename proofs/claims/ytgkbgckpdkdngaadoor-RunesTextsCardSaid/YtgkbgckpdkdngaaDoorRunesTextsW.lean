/- The statement RunesTexts walked: whether a string is encodings alone, its code points, their number and their text. Conditions: the two tables of unicode/utf8 hold what their text lays. -/
import Derived.Test.YtgkbgckpdkdngaaDoorAwake8
import Derived.Test.YtgkbgckpdkdngaaDoorRune4
import Derived.Test.YtgkbgckpdkdngaaDoorRuneR5
import Derived.Lib.ConvBytes
namespace Go.Proofs.YtgkbgckpdkdngaaDoor.runesTexts
open Go.ChangeShapes Go.WideShapes Go.RowKit Go.Lib
theorem reads_bytes (w : World) (e : TypeId) (s : ByteArray) (hs : s.size ≤ maxLen) : Reads .u8 (bytesWorld w e s) (some ⟨w.heap.size, 0, none⟩) s.size (grownCap w s.size 0 e) (strL s) := by
  refine ⟨length_strL s, grownCap_ge w s.size 0 e, grownCap_le_maxLen w s.size 0 e hs, fun x hx => wf_u8.2 (strL_lt s x hx), fun i hi => ⟨_, rfl, by rw [bytesWorld_size]; exact Nat.lt_succ_self _, ?_⟩⟩
  rw [length_strL] at hi
  rw [add_head, bytesWorld_cell w e s i hi, List.getD_eq_getElem?_getD, List.getElem?_eq_getElem (by rw [Array.length_toList]; exact hi)]
  simp [strL]
theorem below_bytes (w : World) (e : TypeId) (s : ByteArray) : Below w.heap.size w (bytesWorld w e s) :=
  ⟨rfl, rfl, rfl, by rw [bytesWorld_size]; omega, fun k hk => bytesWorld_at_old w e s k hk⟩
theorem readsI_of {k : IntKind} {w : World} {A : Option Addr} {n c : Nat} {l : List Nat} (h : Reads k w A n c l) : ReadsI k w A n c (l.map fun x : Nat => (x : Int)) :=
  ⟨by rw [List.length_map, h.len], h.room, h.cap, fun x hx => by obtain ⟨y, hy, rfl⟩ := List.mem_map.1 hx; exact h.wf y hy, fun i hi => by
    rw [List.length_map] at hi
    obtain ⟨ad, e, hlt, hc⟩ := h.cell i hi
    exact ⟨ad, e, hlt, by rw [hc]; simp⟩⟩
theorem list_eq (s t : ByteArray) : (s.toList == t.toList) = decide (strL s = strL t) := by
  rw [Bool.eq_iff_iff, beq_iff_eq, decide_eq_true_eq, Lib.toList_data, Lib.toList_data]
  constructor
  · intro h; rw [strL, strL, h]
  · intro h; rw [strL_inj h]
set_option maxHeartbeats 6400000 in
set_option maxRecDepth 100000 in
theorem walk (s : ByteArray) (w : World) (ws : s.size ≤ maxLen) (kt : Tabs w) : Calls Tryd.prog 5 #[.string s] w fun e w' => e = .returned (.bool true) ∧ Below w.heap.size w w' := by
  have HA := Lib.hid (awake8_c w kt)
  have HT := Lib.hid kt
  have HWS := Lib.hid ws
  clear kt ws
  go_enter Tryd.func5, Tryd.ntmps5
  go_wp2_with fail
  refine HA.out.mono ?_
  rintro en w1 ⟨rfl, hb1⟩
  have HB1 := Lib.hid hb1
  clear hb1
  by_cases hn : 100 < s.size
  · have q1 : (100 : Int) < (s.size : Int) := by omega
    go_wp2
    go_ret
    exact ⟨rfl, HB1.out⟩
  · have q1 : ¬ ((100 : Int) < (s.size : Int)) := by omega
    have hn2 : s.size ≤ 1099511627776 := by omega
    have hcv := fun (W : World) => Lib.run_convert_string_bytes (P := Tryd.prog) W 9 22 5 s Tryd.underlying9 Tryd.underlying22 Tryd.underlying5
    go_wp2_with fail
    refine (refAll_c _ _ _ _ _ (reads_bytes w1 5 s HWS.out) hn2).mono ?_
    rintro en w2 ⟨v2, rfl, ho2, hb2⟩
    obtain ⟨A2, c2, rfl, hr2⟩ := Reads.of_own ho2 (fun x hx => wf_i64.2 (by have := allN_le _ (strL_lt s) x hx; omega))
    have HR2 := Lib.hid hr2
    have HB2 : Hid (Below w1.heap.size w1 w2) := Lib.hid ((below_bytes w1 _ s).trans (hb2.mono (below_bytes w1 _ s).size))
    clear ho2 hb2 hr2
    go_wp2_with fail
    refine (refValid_c _ _ _ _ _ (reads_bytes w2 5 s HWS.out) hn2).mono ?_
    rintro en w3 ⟨b, rfl, hg3, hb3⟩
    have HG3 := Lib.hid hg3
    have HB3 : Hid (Below w2.heap.size w2 w3) := Lib.hid ((below_bytes w2 _ s).trans (hb3.mono (below_bytes w2 _ s).size))
    have HT3 := Lib.hid (((HT.out.keep HB1.out).keep HB2.out).keep HB3.out)
    have HR3 := Lib.hid (HR2.out.keep HB3.out)
    clear hg3 hb3
    go_wp2_with fail
    refine (runes_c s w3 HT3.out hn2).mono ?_
    rintro en w4 ⟨v4, rfl, ho4, hb4⟩
    obtain ⟨A4, c4, rfl, hr4⟩ := Reads.of_own ho4 (fun x hx => wf_i32.2 (by have := allN_le _ (strL_lt s) x hx; omega))
    have HR4 := Lib.hid hr4
    have HB4 := Lib.hid hb4
    have HR34 := Lib.hid (HR3.out.keep hb4)
    have HT4 := Lib.hid (HT3.out.keep hb4)
    clear ho4 hb4 hr4
    go_wp2_with fail
    refine (lsame_c _ _ _ _ _ _ _ _ w4 HR4.out HR34.out).mono ?_
    rw [decide_eq_true rfl]
    rintro en w5 ⟨rfl, k5, rfl⟩
    obtain ⟨w5, hw5⟩ : ∃ w5, Hid (w4.drewN k5 = w5) := ⟨_, Lib.hid rfl⟩
    have HB5 : Hid (Below w4.heap.size w4 w5) := by rw [← hw5.out]; exact Lib.hid (belowDrewN (Below.refl _ _) _)
    rw [hw5.out]
    clear hw5
    have HR45 := Lib.hid (HR4.out.keep HB5.out)
    have HR35 := Lib.hid (HR34.out.keep HB5.out)
    have HT5 := Lib.hid (HT4.out.keep HB5.out)
    go_wp2_with fail
    refine (all_c _ _ _ _ _ (reads_bytes w5 5 s HWS.out) (HT5.out.keep (below_bytes w5 _ s)) hn2).mono ?_
    rintro en w6 ⟨v6, rfl, ho6, hb6⟩
    obtain ⟨A6, c6, rfl, hr6⟩ := Reads.of_own ho6 (fun x hx => wf_i32.2 (by have := allN_le _ (strL_lt s) x hx; omega))
    have HR6 := Lib.hid hr6
    have HB6 : Hid (Below w5.heap.size w5 w6) := Lib.hid ((below_bytes w5 _ s).trans (hb6.mono (below_bytes w5 _ s).size))
    have HR36 := Lib.hid (HR35.out.keep HB6.out)
    have HR46 := Lib.hid (HR45.out.keep HB6.out)
    have HT6 := Lib.hid (HT5.out.keep HB6.out)
    clear ho6 hb6 hr6
    go_wp2_with fail
    refine (lsame_c _ _ _ _ _ _ _ _ w6 HR6.out HR36.out).mono ?_
    rw [decide_eq_true rfl]
    rintro en w7 ⟨rfl, k7, rfl⟩
    obtain ⟨w7, hw7⟩ : ∃ w7, Hid (w6.drewN k7 = w7) := ⟨_, Lib.hid rfl⟩
    have HB7 : Hid (Below w6.heap.size w6 w7) := by rw [← hw7.out]; exact Lib.hid (belowDrewN (Below.refl _ _) _)
    rw [hw7.out]
    clear hw7 HR6 HR36 HR35 HR45
    have HR47 := Lib.hid (HR46.out.keep HB7.out)
    have HT7 := Lib.hid (HT6.out.keep HB7.out)
    go_wp2_with fail
    refine (count_c s w7 HT7.out hn2).mono ?_
    rintro en w8 ⟨rfl, hb8⟩
    have HB8 := Lib.hid hb8
    have HR48 := Lib.hid (HR47.out.keep hb8)
    clear hb8
    go_wp2_with fail
    refine (rvalid_c s w8).mono ?_
    rintro en w9 ⟨b2, rfl, hg9, hb9⟩
    obtain rfl : b2 = b := by
      have h1 := HG3.out
      rw [Bool.eq_iff_iff]
      exact hg9.trans h1.symm
    have HB9 := Lib.hid hb9
    have HR49 := Lib.hid (HR48.out.keep hb9)
    clear hb9 hg9
    go_wp2_with fail
    refine (text_c _ _ _ _ w9 (readsI_of HR49.out)).mono ?_
    rintro en w10 ⟨t, rfl, ht, rfl⟩
    have HTX := Lib.hid ht
    have heq : (t.toList == s.toList) = b2 := by
      rw [list_eq, HTX.out, Bool.eq_iff_iff, decide_eq_true_eq, text_all _ (strL_lt s)]
      exact HG3.out.symm
    have HBX : Hid (Below w.heap.size w w10) := Lib.hid (HB1.out.trans ((HB2.out.trans ((HB3.out.trans ((HB4.out.trans ((HB5.out.trans ((HB6.out.trans ((HB7.out.trans ((HB8.out.trans (HB9.out.mono HB8.out.size)).mono HB7.out.size)).mono HB6.out.size)).mono HB5.out.size)).mono HB4.out.size)).mono HB3.out.size)).mono HB2.out.size)).mono HB1.out.size))
    clear ht
    go_wp2_with fail
    refine (rvalid_c t _).mono ?_
    rintro en w11 ⟨b3, rfl, hg11, hb11⟩
    obtain rfl : b3 = true := hg11.2 ⟨_, HTX.out⟩
    have HB11 := Lib.hid hb11
    clear hg11 hb11
    go_wp2
    go_ret
    exact ⟨rfl, HBX.out.trans (HB11.out.mono HBX.out.size)⟩
end Go.Proofs.YtgkbgckpdkdngaaDoor.runesTexts
