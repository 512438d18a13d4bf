/- What Next and Back of package tabs do, for every column and number, as walks through the translated text. Conditions: the Stops lies in memory of its own. -/
import Derived.Test.YtdjpeopjfhoglaaTabs2
namespace Go.Proofs.Ytdjpeopjfhoglaa
open Go.ChangeShapes Go.WideShapes Go.RowKit
theorem sizeI : (Try.prog.info? 3).map (·.size) = some 1 := by kernel_rfl
set_option maxRecDepth 100000 in
set_option maxHeartbeats 1600000 in
theorem next_c (g : Nat) (F : Nat → Prop) (n : Nat) (p : Nat → Bool) (c k : Int) (w : World) (h : TAt w g F n p) :
    Calls Try.prog 13 #[.pointer (some ⟨g, 0, none⟩), .int .i64 c, .int .i64 k] w fun en w' => en = .returned (.int .i64 ((onP n p (cl n c) k.toNat : Nat) : Int)) ∧ ∃ q, w' = w.drewN q := by
  obtain ⟨v, hblk, hown, _⟩ := h.ex
  have hn := h.cap
  have h1 := h.pos
  have HX := Lib.hid (existing_c g F n p c w h)
  have hC := cl_lt c h1
  generalize cl n c = C at HX hC ⊢
  obtain ⟨A, K, rfl⟩ := own_form hown
  have c0 : w.cell? ⟨g, 0, none⟩ = _ := hblk.cell 0
  have c1 : w.cell? ⟨g, 1, none⟩ = _ := hblk.cell 1
  simp only [List.getElem?_cons_zero, List.getElem?_cons_succ] at c0 c1
  by_cases hk : k < 1
  · have e : onP n p C k.toNat = C := by rw [show k.toNat = 0 by omega]; rfl
    rw [e]
    clear hown hblk h
    go_enter Try.func13, Try.ntmps13
    go_wp2_with fail
    refine HX.out.mono ?_
    rintro en w' ⟨rfl, rfl⟩
    go_wp2
    go_ret
    exact ⟨rfl, 0, rfl⟩
  · obtain ⟨j, hkj⟩ : ∃ j : Nat, k - 1 = (j : Int) := ⟨(k - 1).toNat, by omega⟩
    have HS := Lib.hid (search_c _ 0 n p ((C : Int) + 1) w hown hn)
    rw [show ((C : Int) + 1).toNat = C + 1 by omega, Nat.min_eq_left (by omega)] at HS
    have hR := own_reads hown (stp_small p hn)
    have hD := stp_drop p (show C + 1 ≤ n by omega)
    have hlen := stp_length n p
    have hle : (stp (C + 1) p).length ≤ (stp n p).length := by rw [stp_split p (show C + 1 ≤ n by omega), List.length_append]; omega
    have hRl : (stpR (C + 1) n p).length = (stp n p).length - (stp (C + 1) p).length := by rw [← hD, List.length_drop]
    have eN : onP n p C k.toNat = (stpR (C + 1) n p).getD j (n - 1) := by
      rw [show k.toNat = j + 1 by omega]
      rfl
    rw [eN]
    generalize (decide (0 ≤ (C : Int) + 1 ∧ (C : Int) + 1 < n) && p (C + 1)) = B at HS
    generalize stpR (C + 1) n p = R at *
    generalize (stp (C + 1) p).length = I at *
    generalize stp n p = L at *
    generalize L.length = N at *
    obtain ⟨M, hM⟩ : ∃ M, N - I = M := ⟨_, rfl⟩
    have HR := Lib.hid hR
    have HM := Lib.hid hM
    have hM2 : M ≤ 132 := by omega
    have HD := Lib.hid hD
    have HRl := Lib.hid hRl
    have hw1 : (-9223372036854775808 : Int) ≤ (C : Int) + 1 := by omega
    have hw2 : (C : Int) + 1 ≤ 9223372036854775807 := by omega
    have hj1 : decide (k < 1) = false := by simp; omega
    by_cases hjM : j < M
    · have hd : decide ((M : Int) < k) = false := by simp; omega
      have hjR : j < R.length := by rw [HRl.out, HM.out]; exact hjM
      have hjN : (j : Int) < (M : Int) := by omega
      have e2 : R.getD j (n - 1) = R[j] := by simp [List.getD_eq_getElem?_getD, hjR]
      rw [e2]
      obtain ⟨x, hx⟩ : ∃ x, Hid (R[j]? = some x) := ⟨R[j], List.getElem?_eq_getElem hjR⟩
      rw [show R[j] = x from Option.some.inj ((List.getElem?_eq_getElem hjR).symm.trans hx.out)]
      have HJR := Lib.hid hjR
      clear hown hblk h hR hM hD hRl e2 eN hjR
      go_enter Try.func13, Try.ntmps13
      go_wp2_with fail
      refine HX.out.mono ?_
      rintro en w' ⟨rfl, rfl⟩
      go_wp2_with fail
      refine HS.out.mono ?_
      rintro en w' ⟨rfl, q, rfl⟩
      go_wp2_with ((with_reducible refine at_slice_l 34 ?_); refine wpList_cut_l (k := .i64) (L := L) rfl (.tmp 29) (.tmp 30) rfl Try.underlying34 sizeI rfl .i64 I _ rfl rfl hle ?_; intro A' hA'; rw [HM.out] at hA' ⊢; obtain ⟨ad, rfl, hlt, hc⟩ := (hA' w HR.out).cell j (by rw [HD.out]; exact HJR.out); replace hc : w.cell? (ad.add j) = some (.int .i64 (x : Int)) := hc.trans (congrArg (fun z : Nat => some (Value.int .i64 (z : Int))) (Option.some.inj (((List.getElem?_eq_getElem _).symm.trans (congrArg (fun l : List Nat => l[j]?) HD.out)).trans hx.out))); clear hA' hlt)
      go_ret
      exact ⟨rfl, _, rfl⟩
    · have hd : decide ((M : Int) < k) = true := by simp; omega
      have e2 : R.getD j (n - 1) = n - 1 := by rw [List.getD_eq_getElem?_getD, List.getElem?_eq_none (by omega)]; rfl
      rw [e2, show ((n - 1 : Nat) : Int) = (n : Int) - 1 by omega]
      clear hown hblk h hR hM hD hRl e2 eN
      go_enter Try.func13, Try.ntmps13
      go_wp2_with fail
      refine HX.out.mono ?_
      rintro en w' ⟨rfl, rfl⟩
      go_wp2_with fail
      refine HS.out.mono ?_
      rintro en w' ⟨rfl, q, rfl⟩
      go_wp2_with ((with_reducible refine at_slice_l 34 ?_); refine wpList_cut_l (k := .i64) (L := L) rfl (.tmp 29) (.tmp 30) rfl Try.underlying34 sizeI rfl .i64 I _ rfl rfl hle ?_; intro A' hA'; rw [HM.out] at hA' ⊢; clear hA')
      go_ret
      exact ⟨rfl, _, rfl⟩
set_option maxRecDepth 100000 in
set_option maxHeartbeats 1600000 in
theorem back_c (g : Nat) (F : Nat → Prop) (n : Nat) (p : Nat → Bool) (c k : Int) (w : World) (h : TAt w g F n p) :
    Calls Try.prog 14 #[.pointer (some ⟨g, 0, none⟩), .int .i64 c, .int .i64 k] w fun en w' => en = .returned (.int .i64 ((upP p (cl n c) k.toNat : Nat) : Int)) ∧ ∃ q, w' = w.drewN q := by
  obtain ⟨v, hblk, hown, _⟩ := h.ex
  have hn := h.cap
  have h1 := h.pos
  have HX := Lib.hid (existing_c g F n p c w h)
  have hC := cl_lt c h1
  generalize cl n c = C at HX hC ⊢
  obtain ⟨A, K, rfl⟩ := own_form hown
  have c1 : w.cell? ⟨g, 1, none⟩ = _ := hblk.cell 1
  simp only [List.getElem?_cons_zero, List.getElem?_cons_succ] at c1
  by_cases hk : k < 1
  · have e : upP p C k.toNat = C := by rw [show k.toNat = 0 by omega]; rfl
    rw [e]
    clear hown hblk h
    go_enter Try.func14, Try.ntmps14
    go_wp2_with fail
    refine HX.out.mono ?_
    rintro en w' ⟨rfl, rfl⟩
    go_wp2
    go_ret
    exact ⟨rfl, 0, rfl⟩
  · obtain ⟨j, rfl⟩ : ∃ j : Nat, k = (j : Int) := ⟨k.toNat, by omega⟩
    have HS := Lib.hid (search_c _ 0 n p (C : Int) w hown hn)
    rw [show ((C : Int)).toNat = C by omega, Nat.min_eq_left (by omega)] at HS
    have hR := own_reads hown (stp_small p hn)
    have hT := stp_take p (show C ≤ n by omega)
    have hlen := stp_length n p
    have hle : (stp C p).length ≤ (stp n p).length := by rw [stp_split p (show C ≤ n by omega), List.length_append]; omega
    have eN : upP p C ((j : Int)).toNat = if j ≤ (stp C p).length then (stp C p).getD ((stp C p).length - j) 0 else 0 := by
      rw [show ((j : Int)).toNat = j by omega]
      unfold upP
      rw [if_neg (by omega)]
    rw [eN]
    generalize (decide (0 ≤ (C : Int) ∧ (C : Int) < n) && p C) = B at HS
    generalize stp C p = R at *
    generalize hI : R.length = I at *
    generalize stp n p = L at *
    generalize hN : L.length = N at *
    have hKr := hR.room
    have HR := Lib.hid hR
    have HT := Lib.hid hT
    have HN := Lib.hid hN
    have HI := Lib.hid hI
    have hj1 : decide ((j : Int) < 1) = false := by simp; omega
    by_cases hjI : j ≤ I
    · obtain ⟨m, hm⟩ : ∃ m, I - j = m := ⟨_, rfl⟩
      have hd : decide ((I : Int) < (j : Int)) = false := by simp; omega
      have em : (I : Int) - (j : Int) = (m : Int) := by omega
      have hmI : (m : Int) < (I : Int) := by omega
      have hmR : m < R.length := by omega
      have hmL : m < L.length := by omega
      rw [if_pos hjI, hm]
      have e2 : R.getD m 0 = L[m] := by
        rw [List.getD_eq_getElem?_getD, List.getElem?_eq_getElem hmR]
        show R[m] = L[m]
        simp only [← hT]
        rw [List.getElem_take]
      rw [e2]
      obtain ⟨ad, rfl, hlt, hc⟩ := hR.cell m hmL
      clear hown hblk h hR hT hN hI eN e2 hlt hm
      go_enter Try.func14, Try.ntmps14
      go_wp2_with fail
      refine HX.out.mono ?_
      rintro en w' ⟨rfl, rfl⟩
      go_wp2_with fail
      refine HS.out.mono ?_
      rintro en w' ⟨rfl, q, rfl⟩
      go_wp2_with ((with_reducible refine at_slice_h 34 ?_); refine wpList_cut_h rfl (.tmp 28) (.tmp 29) rfl Try.underlying34 sizeI rfl .i64 I _ rfl rfl (by omega) ?_)
      go_ret
      exact ⟨rfl, _, rfl⟩
    · have hd : decide ((I : Int) < (j : Int)) = true := by simp; omega
      rw [if_neg hjI]
      clear hown hblk h hR hT hN hI eN
      go_enter Try.func14, Try.ntmps14
      go_wp2_with fail
      refine HX.out.mono ?_
      rintro en w' ⟨rfl, rfl⟩
      go_wp2_with fail
      refine HS.out.mono ?_
      rintro en w' ⟨rfl, q, rfl⟩
      go_wp2_with ((with_reducible refine at_slice_h 34 ?_); refine wpList_cut_h rfl (.tmp 28) (.tmp 29) rfl Try.underlying34 sizeI rfl .i64 I _ rfl rfl (by omega) ?_)
      go_ret
      exact ⟨rfl, _, rfl⟩
end Go.Proofs.Ytdjpeopjfhoglaa
