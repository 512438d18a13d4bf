/- What the reference batonref08's Valid returns, for every row of at most 2^40 bytes, as a walk through the translated text. Conditions: the slice reads as a list. -/
import Derived.Test.YtgkbgckpdkdngaaDoorRuneR4
namespace Go.Proofs.YtgkbgckpdkdngaaDoor
open Go.ChangeShapes Go.WideShapes Go.RowKit Go.Lib
def GoodPost (w : World) (l : List Nat) (en : Ending) (w' : World) : Prop := ∃ b : Bool, en = .returned (.bool b) ∧ (b = true ↔ Good l) ∧ Below w.heap.size w w'
theorem none_ok (r : List Nat) (q : Nat) (h : ∀ i, 1 ≤ i → i < q → okL (r.take i) = false) (hq : 5 ≤ q ∨ r.length < q) : ∀ k, okL (r.take k) = false := by
  intro k
  cases ho : okL (r.take k) with
  | false => rfl
  | true =>
    have h1 := ok_len _ ho
    rw [List.length_take] at h1
    by_cases hk : k ≤ r.length
    · rw [h k (by omega) (by omega)] at ho
      cases ho
    · rw [List.take_of_length_le (by omega)] at ho
      have h2 := h r.length (by omega) (by omega)
      rw [List.take_length, ho] at h2
      cases h2
theorem good_take (l : List Nat) (at_ q : Nat) (h : Good (l.take at_)) (hq : okL ((l.drop at_).take q) = true) : Good (l.take (at_ + q)) := by
  rw [List.take_add]
  exact good_snoc h hq
set_option maxHeartbeats 6400000 in
set_option maxRecDepth 100000 in
theorem refValid_c (A : Option Addr) (n c : Nat) (l : List Nat) (w : World) (hr : Reads .u8 w A n c l) (hn : n ≤ 1099511627776) : Calls Tryd.prog 19 #[.slice A n c] w (GoodPost w l) := by
  have HL := Lib.hid hr.len
  have HR := Lib.hid hr
  have hroom := hr.room
  have hcap : c ≤ maxLen := hr.cap
  unfold maxLen at hcap
  clear hr
  go_enter Tryd.func19, Tryd.ntmps19
  go_wp2_with fail
  go_loopw [3] (fun v wr => ∃ p : Nat, p ≤ n ∧ v = .int .i64 p ∧ Hid (Good (l.take p)) ∧ Hid (Below w.heap.size w wr)) (fun v _ => n - (RowKit.intOf v).toNat)
  case atStart => exact ⟨0, Nat.zero_le _, rfl, Lib.hid good_nil, Lib.hid (Below.refl _ _)⟩
  case round =>
    obtain ⟨p, hp, rfl, HG, HB⟩ := hrel
    by_cases hlt : p < n
    · have hlt2 : (p : Int) < (n : Int) := by omega
      have hA : ∃ ad, A = some ad := by
        obtain ⟨ad, e, _⟩ := HR.out.cell 0 (by rw [HL.out]; omega)
        exact ⟨ad, e⟩
      obtain ⟨ad, rfl⟩ := hA
      go_wp2_with fail
      generalize wr = wo at *
      go_loopw [4] (fun v wr => ∃ q : Nat, 1 ≤ q ∧ q ≤ 5 ∧ p + q ≤ n + 1 ∧ v = .int .i64 q ∧ Hid (∀ i, 1 ≤ i → i < q → okL ((l.drop p).take i) = false) ∧ Hid (Below w.heap.size w wr)) (fun v _ => 5 - (RowKit.intOf v).toNat)
      case atStart => exact ⟨1, Nat.le_refl _, by omega, by omega, rfl, Lib.hid (fun i h1 h2 => by omega), HB⟩
      case round =>
        obtain ⟨q, hq1, hq5, hpq, rfl, HNO, HB2⟩ := hrel
        by_cases h4 : q ≤ 4 ∧ p + q ≤ n
        · obtain ⟨h4, hpn⟩ := h4
          have t1 : (q : Int) ≤ 4 := by omega
          have t2 : (p : Int) + (q : Int) ≤ (n : Int) := by omega
          have t3 : (0 : Int) ≤ (p : Int) := by omega
          have t4 : (p : Int) ≤ (p : Int) + (q : Int) := by omega
          have t5 : (p : Int) + (q : Int) ≤ (c : Int) := by omega
          have HSB : Hid (Reads .u8 wr (some (ad.add p)) q (c - p) ((l.drop p).take q)) := Lib.hid ((HR.out.keep HB2.out).sub p q (by omega))
          by_cases hok : okL ((l.drop p).take q) = true
          · have HWZ : Hid (wholeZ ((l.drop p).take q) = (valL ((l.drop p).take q) : Int)) := by show _ = _; rw [wholeZ, if_pos hok]
            obtain ⟨u, hu⟩ : ∃ u, Hid (valL ((l.drop p).take q) = u) := ⟨_, Lib.hid rfl⟩
            rw [hu.out] at HWZ
            have hu0 : ¬ ((u : Int) < 0) := by omega
            have HG2 := Lib.hid (good_take l p q HG.out hok)
            clear hok
            go_wp2_with fail
            refine (whole_c _ _ _ _ wr HSB.out).mono ?_
            rw [HWZ.out]
            rintro en w3 ⟨rfl, hb3⟩
            have HB3 := Lib.hid (HB2.out.trans (hb3.mono HB2.out.size))
            clear hb3
            have t6 : ¬ ((4 : Int) < (q : Int)) := by omega
            have t7 : ¬ ((n : Int) < (p : Int) + (q : Int)) := by omega
            go_wp2_with fail
            go_roundw
            case rel => exact ⟨p + q, by omega, by go_num, HG2, HB3⟩
            case measure => simp [RowKit.intOf]; omega
          · have HWZ : Hid (wholeZ ((l.drop p).take q) = -1) := by show _ = _; rw [wholeZ, if_neg hok]
            have HNO2 : Hid (∀ i, 1 ≤ i → i < q + 1 → okL ((l.drop p).take i) = false) := Lib.hid fun i h1 h2 => by
              by_cases e : i = q
              · subst e; simpa using hok
              · exact HNO.out i h1 (by omega)
            clear hok
            go_wp2_with fail
            refine (whole_c _ _ _ _ wr HSB.out).mono ?_
            rw [HWZ.out]
            rintro en w3 ⟨rfl, hb3⟩
            have HB3 := Lib.hid (HB2.out.trans (hb3.mono HB2.out.size))
            clear hb3
            go_wp2_with fail
            go_roundw
            case rel => exact ⟨q + 1, by omega, by omega, by omega, by go_num, HNO2, HB3⟩
            case measure => simp [RowKit.intOf]; omega
        · have HBD : Hid (¬ Good l) := by
            show ¬ Good l
            have h1 := none_ok (l.drop p) q HNO.out (by rw [List.length_drop, HL.out]; omega)
            have h2 := bad_not HG.out (r := l.drop p) (fun e => by have := congrArg List.length e; rw [List.length_drop, HL.out] at this; simp at this; omega) h1
            rwa [List.take_append_drop] at h2
          by_cases hq4 : q ≤ 4
          · have t1 : (q : Int) ≤ 4 := by omega
            have t2 : ¬ ((p : Int) + (q : Int) ≤ (n : Int)) := by omega
            have t3 : ¬ ((4 : Int) < (q : Int)) := by omega
            have t4 : (n : Int) < (p : Int) + (q : Int) := by omega
            go_wp2
            go_ret
            exact ⟨false, rfl, ⟨fun h => Bool.noConfusion h, fun h => absurd h HBD.out⟩, HB2.out⟩
          · have t1 : ¬ ((q : Int) ≤ 4) := by omega
            have t3 : (4 : Int) < (q : Int) := by omega
            go_wp2
            go_ret
            exact ⟨false, rfl, ⟨fun h => Bool.noConfusion h, fun h => absurd h HBD.out⟩, HB2.out⟩
    · have hpn : p = n := by omega
      subst hpn
      have HG2 : Hid (Good l) := by
        have := HG.out
        rwa [List.take_of_length_le (by rw [HL.out]; exact Nat.le_refl _)] at this
      go_wp2
      go_ret
      exact ⟨true, rfl, ⟨fun _ => HG2.out, fun _ => rfl⟩, HB.out⟩
end Go.Proofs.YtgkbgckpdkdngaaDoor
