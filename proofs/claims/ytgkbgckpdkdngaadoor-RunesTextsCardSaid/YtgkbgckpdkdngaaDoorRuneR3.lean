/- What the reference batonref08's Begins returns, for every row of bytes, as a walk through the translated text. Conditions: the slice reads as a list. -/
import Derived.Test.YtgkbgckpdkdngaaDoorRuneR2
namespace Go.Proofs.YtgkbgckpdkdngaaDoor
open Go.ChangeShapes Go.WideShapes Go.RowKit Go.Lib
def BoolPost (w : World) (b : Bool) (en : Ending) (w' : World) : Prop := en = .returned (.bool b) ∧ Below w.heap.size w w'
theorem begins_short (A : Option Addr) (n c : Nat) (l : List Nat) (w : World) (hr : Reads .u8 w A n c l) (h : n = 0 ∨ 3 < n) : Calls Tryd.prog 25 #[.slice A n c] w (BoolPost w (preL l)) := by
  have HW : Hid (preL l = false) := by
    show _ = _
    cases ho : preL l with
    | false => rfl
    | true => have := pre_len l ho; have := hr.len; omega
  rw [HW.out]
  clear hr HW
  rcases h with rfl | h
  · go_enter Tryd.func25, Tryd.ntmps25
    go_wp2
    go_ret
    exact ⟨rfl, Below.refl _ _⟩
  · have q1 : ((n : Int) == 0) = false := by simpa using (by omega : n ≠ 0)
    have q2 : (3 : Int) < (n : Int) := by omega
    go_enter Tryd.func25, Tryd.ntmps25
    go_wp2
    go_ret
    exact ⟨rfl, Below.refl _ _⟩
theorem nexts_get (j : Nat) (h : j < nextsL.length) : nextsL[j] < 256 := by
  have : ∀ x ∈ nextsL, x < 256 := by decide
  exact this _ (List.getElem_mem h)
def lenV : Value → Nat
  | .slice _ n _ => n
  | _ => 0
/-- No try of fewer than N bytes, and none with the first j of those with N, is an encoding. -/
structure NoTry (l : List Nat) (N j : Nat) : Prop where
  less : ∀ n x, l.length < n → n < N → x ∈ nextsL → okL (tryL l n x) = false
  some : ∀ i, i < j → (h : i < nextsL.length) → okL (tryL l N nextsL[i]) = false
theorem NoTry.all {l : List Nat} {N j : Nat} (h : NoTry l N j) (hj : nextsL.length ≤ j) : NoTry l (N + 1) 0 where
  less := by
    intro n x h1 h2 h3
    by_cases e : n = N
    · subst e
      obtain ⟨i, hi, rfl⟩ := List.getElem_of_mem h3
      exact h.some i (by omega) hi
    · exact h.less n x h1 (by omega) h3
  some := fun i hi => by omega
theorem NoTry.next {l : List Nat} {N j : Nat} (h : NoTry l N j) (hj : j < nextsL.length) (hn : okL (tryL l N nextsL[j]) = false) : NoTry l N (j + 1) where
  less := h.less
  some := by
    intro i hi hl
    by_cases e : i = j
    · subst e; exact hn
    · exact h.some i (by omega) hl
theorem NoTry.pre {l : List Nat} {j : Nat} (h : NoTry l 5 j) : preL l = false := by
  cases hp : preL l with
  | false => rfl
  | true =>
    obtain ⟨n, x, h1, h2, h3, h4⟩ := pre_try l hp
    rw [h.less n x h1 (by omega) h3] at h4
    cases h4
set_option maxHeartbeats 6400000 in
set_option maxRecDepth 100000 in
theorem begins_long (A : Option Addr) (n c : Nat) (l : List Nat) (w : World) (hr : Reads .u8 w A n c l) (h0 : 0 < n) (h3 : n ≤ 3) : Calls Tryd.prog 25 #[.slice A n c] w (BoolPost w (preL l)) := by
  obtain ⟨i0, hi, hz0, hz1, hz2⟩ := info_parts infoU8
  have HLEN := Lib.hid hr.len
  have HR := Lib.hid hr
  have q1 : ((n : Int) == 0) = false := by simpa using (by omega : n ≠ 0)
  have q2 : ¬ ((3 : Int) < (n : Int)) := by omega
  have q3 : (n : Int) ≤ 3 := by omega
  clear hr
  go_enter Tryd.func25, Tryd.ntmps25
  go_wp2_with fail
  go_loopw [3] (fun v wr => ∃ N : Nat, n < N ∧ N ≤ 5 ∧ v = .int .i64 N ∧ Hid (NoTry l N 0) ∧ Hid (Below w.heap.size w wr)) (fun v _ => 5 - (RowKit.intOf v).toNat)
  case atStart => exact ⟨n + 1, by omega, by omega, by go_num, Lib.hid ⟨fun n' x h1 h2 _ => by have := HLEN.out; omega, fun i hi => by omega⟩, Lib.hid (Below.refl _ _)⟩
  case round =>
    obtain ⟨N, hN, hN5, rfl, HNT, HB⟩ := hrel
    by_cases hlt : N ≤ 4
    · have q4 : (N : Int) ≤ 4 := by omega
      go_wp2_with fail
      refine name_wp (fun w1 => Hid (Blk w1 wr.heap.size 3 (ints .i64 nextsL)) ∧ Hid (Below wr.heap.size wr w1)) ⟨Lib.hid (Blk.new wr 3 (ints .i64 nextsL)), Lib.hid ((Below.refl _ _).alloc (Nat.le_refl _) _)⟩ ?_
      rintro w1 ⟨HBK, HB1⟩
      generalize wr = wo at *
      have hNl : (N : Int) ≤ 4 := by omega
      go_loopw [24] (fun v wr => ∃ j : Nat, j ≤ 6 ∧ v = .int .i64 j ∧ Hid (NoTry l N j) ∧ Hid (Below w1.heap.size w1 wr)) (fun v _ => 6 - (RowKit.intOf v).toNat)
      case atStart => exact ⟨0, by omega, rfl, HNT, Lib.hid (Below.refl _ _)⟩
      case round =>
        obtain ⟨j, hj, rfl, HNT2, HB2⟩ := hrel
        have HBT : Hid (Below w.heap.size w wr) := Lib.hid (HB.out.trans ((HB1.out.trans (HB2.out.mono HB1.out.size)).mono HB.out.size))
        by_cases hj6 : j < 6
        · have hjl : j < nextsL.length := hj6
          have hcn : wr.cell? ⟨wo.heap.size, j, none⟩ = some (.int .i64 (nextsL[j] : Int)) := by
            rw [(HBK.out.below HB2.out HBK.out.lt).cell j]
            simp [ints, hjl]
          have hnx := nexts_get j hjl
          have HNX : Hid (okL (tryL l N nextsL[j]) = false → NoTry l N (j + 1)) := Lib.hid (fun h => HNT2.out.next hjl h)
          have HTP : Hid (okL (tryL l N nextsL[j]) = true → preL l = true) := Lib.hid (fun h => tryL_pre l N _ h (fun e => by have := HLEN.out; rw [e] at this; simp at this; omega))
          generalize nextsL[j] = x at *
          have hj0 : (0 : Int) ≤ (j : Int) := by omega
          have hj1 : (j : Int) < 6 := by omega
          have hx0 : (0 : Int) ≤ (x : Int) := by omega
          have hx1 : (x : Int) ≤ 255 := by omega
          have HRW := Lib.hid (HR.out.keep HBT.out)
          clear hjl
          go_wp2_with (at_builtin; refine wpList_app rfl (.tmp 28) (.tmp 29) 22 rfl wr.heap.size 5 i0 (.int .u8 0) 1 Tryd.underlying22 hi hz0 hz1 hz2 rfl (.slice (some ⟨wr.heap.size, 0, none⟩) 0 0) 0 [] rfl (blk_own (Blk.new _ _ []) rfl (Nat.le_refl _) (by decide)) .u8 A n c l rfl (HRW.out.keep ((Below.refl _ _).alloc (Nat.le_refl _) _)) (by unfold maxLen; omega) (by omega) (by simp) ?_)
          intro v4 w4 hown4 hgrow4
          have hm4 : Mine wr w4 5 v4 n (ints .u8 l) := ⟨by simpa using hown4, ((Below.refl _ _).alloc (Nat.le_refl _) _).grown hgrow4 (by simp) (by intro k hk; simp [Value.ownBlock] at hk; omega)⟩
          obtain ⟨A4, c4, rfl⟩ := own_form hm4.1
          clear hown4 hgrow4 hcn
          have HM4 := Lib.hid hm4
          clear hm4
          go_wp2_with (at_builtin; refine wpList_app rfl (.tmp 30) (.tmp 33) 22 rfl wr.heap.size 5 i0 (.int .u8 0) 1 Tryd.underlying22 hi hz0 hz1 hz2 rfl (.slice A4 n c4) n (ints .u8 l) rfl (HM4.out.1.alloc _) .u8 (some ⟨w4.heap.size, 0, none⟩) 1 1 [x] rfl (reads_new rfl rfl (by decide) (by simpa using hnx)) (by unfold maxLen; omega) (by omega) (by have := HM4.out.2.size; rw [World.size_alloc]; omega) ?_; intro v5 w5 hown5 hgrow5; obtain ⟨A5, c5, rfl⟩ := own_form hown5)
          have hm5 : Mine wr w5 5 (.slice A5 (n + 1) c5) (n + 1) (ints .u8 (l ++ x :: List.replicate 0 128)) := by
            have := mine_grown HM4.out _ hown5 hgrow5
            rw [← ints_append] at this
            exact this
          have HM5 := Lib.hid hm5
          clear hm5 hown5 hgrow5 HM4
          generalize wr = wm at *
          go_loopw [6] (fun v wr => ∃ M m cX : Nat, ∃ X, M ≤ N ∧ v = .slice X M cX ∧ Hid (M = n + 1 + m) ∧ Hid (Mine wm wr 5 (.slice X M cX) M (ints .u8 (l ++ x :: List.replicate m 128)))) (fun v _ => N - lenV v)
          case atStart => exact ⟨n + 1, 0, c5, A5, by omega, rfl, rfl, HM5⟩
          case round =>
            obtain ⟨M, m, cX, X, hMN, rfl, HM, HMI⟩ := hrel
            by_cases hlt3 : M < N
            · have hlt4 : (M : Int) < (N : Int) := by omega
              go_wp2_with (at_builtin; refine wpList_app rfl (.tmp 39) (.tmp 40) 22 rfl wm.heap.size 5 i0 (.int .u8 0) 1 Tryd.underlying22 hi hz0 hz1 hz2 rfl (.slice X M cX) M _ rfl (HMI.out.1.alloc _) .u8 (some ⟨wr.heap.size, 0, none⟩) 1 1 [128] rfl (reads_new rfl rfl (by decide) (by decide)) (by unfold maxLen; omega) (by omega) (by have := HMI.out.2.size; rw [World.size_alloc]; omega) ?_; intro v6 w6 hown6 hgrow6; obtain ⟨A6, c6, rfl⟩ := own_form hown6)
              have hm6 : Mine wm w6 5 (.slice A6 (M + 1) c6) (M + 1) (ints .u8 (l ++ x :: List.replicate (m + 1) 128)) := by
                have := mine_grown HMI.out _ hown6 hgrow6
                rw [← ints_append, List.append_assoc, List.cons_append, ← List.replicate_succ'] at this
                exact this
              have HM6 := Lib.hid hm6
              clear hm6 hown6 hgrow6
              go_roundw
              case rel => exact ⟨M + 1, m + 1, c6, A6, by omega, rfl, by have := HM.out; show _ = _; omega, HM6⟩
              case measure => simp only [lenV]; omega
            · have hMN2 : M = N := by omega
              subst hMN2
              have HT : Hid (l ++ x :: List.replicate m 128 = tryL l M x) := by
                show _ = _
                rw [tryL, show M - l.length - 1 = m from by have := HM.out; have := HLEN.out; omega]
              have hbx : ∀ y ∈ tryL l M x, y < 256 := by
                rw [← HT.out]
                intro y hy
                rcases List.mem_append.1 hy with hy | hy
                · exact wf_u8.1 (HR.out.wf y hy)
                · rcases List.mem_cons.1 hy with rfl | hy
                  · exact hnx
                  · rw [List.eq_of_mem_replicate hy]; decide
              have hmi := HMI.out
              rw [HT.out] at hmi
              obtain ⟨A7, c7, e7, hr7⟩ := Reads.of_own hmi.1 (fun y hy => wf_u8.2 (hbx y hy))
              cases e7
              have HR7 := Lib.hid hr7
              have HB7 := Lib.hid hmi.2
              clear hmi hr7 hbx HT HMI HM hMN hlt3
              by_cases hok : okL (tryL l M x) = true
              · have HWZ : Hid (wholeZ (tryL l M x) = (valL (tryL l M x) : Int)) := by show _ = _; rw [wholeZ, if_pos hok]
                have HPR := Lib.hid (HTP.out hok)
                obtain ⟨u, hu⟩ : ∃ u, Hid (valL (tryL l M x) = u) := ⟨_, Lib.hid rfl⟩
                rw [hu.out] at HWZ
                have hu0 : (0 : Int) ≤ (u : Int) := by omega
                clear hok
                go_wp2_with fail
                refine (whole_c _ _ _ _ wr HR7.out).mono ?_
                rw [HWZ.out]
                rintro en w8 ⟨rfl, hb8⟩
                have HB8 := Lib.hid hb8
                clear hb8
                go_wp2
                go_ret
                rw [HPR.out]
                exact ⟨rfl, HBT.out.trans ((HB7.out.trans (HB8.out.mono HB7.out.size)).mono HBT.out.size)⟩
              · have hok' : okL (tryL l M x) = false := by simpa using hok
                have HWZ : Hid (wholeZ (tryL l M x) = -1) := by show _ = _; rw [wholeZ, if_neg hok]
                have HNY := HNX.out hok'
                clear hok hok'
                go_wp2_with fail
                refine (whole_c _ _ _ _ wr HR7.out).mono ?_
                rw [HWZ.out]
                rintro en w8 ⟨rfl, hb8⟩
                have HB8 := Lib.hid hb8
                have HNY2 := Lib.hid HNY
                clear hb8 HNY
                go_wp2_with fail
                go_roundw
                case rel => exact ⟨j + 1, by omega, by go_num, HNY2, Lib.hid (HB2.out.trans ((HB7.out.trans (HB8.out.mono HB7.out.size)).mono HB2.out.size))⟩
                case measure => simp [RowKit.intOf]; omega
        · have HNA := Lib.hid (HNT2.out.all (show 6 ≤ j by omega))
          have hj7 : j = 6 := by omega
          subst hj7
          clear HNT2 hj6 hj
          go_wp2_with fail
          go_roundw
          case rel => exact ⟨N + 1, by omega, by omega, by go_num, HNA, HBT⟩
          case measure => simp [RowKit.intOf]; omega
    · have hN5' : N = 5 := by omega
      subst hN5'
      have HW := Lib.hid HNT.out.pre
      go_wp2
      go_ret
      rw [HW.out]
      exact ⟨rfl, HB.out⟩
theorem begins_c (A : Option Addr) (n c : Nat) (l : List Nat) (w : World) (hr : Reads .u8 w A n c l) : Calls Tryd.prog 25 #[.slice A n c] w (BoolPost w (preL l)) := by
  by_cases h : n = 0 ∨ 3 < n
  · exact begins_short A n c l w hr h
  · exact begins_long A n c l w hr (by omega) (by omega)
end Go.Proofs.YtgkbgckpdkdngaaDoor
