/- What the reference batonref08's Whole returns, for every row of bytes, as a walk through the translated text. Conditions: the slice reads as a list. -/
import Derived.Test.YtgkbgckpdkdngaaDoorRuneR1
namespace Go.Proofs.YtgkbgckpdkdngaaDoor
open Go.ChangeShapes Go.WideShapes Go.RowKit Go.Lib
theorem acc_bound (c : Int) (r : List Nat) (hb : ∀ x ∈ r, x < 256) (hl : r.length ≤ 3) (h0 : -300 ≤ c) (h1 : c ≤ 300) : -134217728 ≤ accZ c r ∧ accZ c r ≤ 134217728 := by
  match r with
  | [] => simp only [accZ, List.foldl]; omega
  | [x] => have := hb x (by simp); simp only [accZ, List.foldl]; omega
  | [x, y] => have := hb x (by simp); have := hb y (by simp); simp only [accZ, List.foldl]; omega
  | [x, y, z] => have := hb x (by simp); have := hb y (by simp); have := hb z (by simp); simp only [accZ, List.foldl]; omega
  | x :: y :: z :: u :: r => simp at hl
theorem acc_succ (c : Int) (r : List Nat) (k : Nat) (h : k < r.length) : accZ c (r.take (k + 1)) = accZ c (r.take k) * 64 + (r[k] : Int) - 128 := by
  rw [accZ, List.take_succ_eq_append_getElem h, List.foldl_append]; rfl
theorem offs_bound (n : Nat) : 0 ≤ offsZ n ∧ offsZ n ≤ 240 := by unfold offsZ; repeat' split <;> omega
/-- The number of the first k bytes, of n in all. -/
def numTo (a : Nat) (r : List Nat) (k : Nat) : Int := accZ ((a : Int) - offsZ (r.length + 1)) (r.take (k - 1))
theorem numTo_one (a : Nat) (r : List Nat) : numTo a r 1 = (a : Int) - offsZ (r.length + 1) := rfl
theorem numTo_succ (a : Nat) (r : List Nat) (k : Nat) (h0 : 1 ≤ k) (h : k < r.length + 1) (h' : k < (a :: r).length) : numTo a r (k + 1) = numTo a r k * 64 + ((a :: r)[k] : Int) - 128 := by
  obtain ⟨j, rfl⟩ : ∃ j, k = j + 1 := ⟨k - 1, by omega⟩
  rw [numTo, numTo, show j + 1 + 1 - 1 = j + 1 from rfl, show j + 1 - 1 = j from rfl, acc_succ _ _ _ (by omega)]
  rfl
theorem numTo_all (a : Nat) (r : List Nat) (k : Nat) (h : k = r.length + 1) : numTo a r k = numZ (a :: r) := by
  subst h
  rw [numTo, show r.length + 1 - 1 = r.length from rfl, List.take_length]; rfl
theorem numTo_bound (a : Nat) (r : List Nat) (k : Nat) (hb : ∀ x ∈ a :: r, x < 256) (hl : r.length ≤ 3) : -134217728 ≤ numTo a r k ∧ numTo a r k ≤ 134217728 := by
  have h1 := hb a (by simp)
  have h2 := offs_bound (r.length + 1)
  exact acc_bound _ _ (fun x hx => hb x (by simp [List.mem_of_mem_take hx])) (by rw [List.length_take]; omega) (by omega) (by omega)
def IntPost (w : World) (z : Int) (en : Ending) (w' : World) : Prop := en = .returned (.int .i64 z) ∧ Below w.heap.size w w'
theorem whole_short (A : Option Addr) (n c : Nat) (l : List Nat) (w : World) (hr : Reads .u8 w A n c l) (h : n = 0 ∨ 4 < n) : Calls Tryd.prog 24 #[.slice A n c] w (IntPost w (wholeZ l)) := by
  have HW : Hid (wholeZ l = -1) := by
    show _ = _
    have : okL l = false := by
      cases ho : okL l with
      | false => rfl
      | true => have := ok_len l ho; have := hr.len; omega
    rw [wholeZ, this]; rfl
  rw [HW.out]
  clear hr HW
  rcases h with rfl | h
  · go_enter Tryd.func24, Tryd.ntmps24
    go_wp2
    go_ret
    exact ⟨rfl, Below.refl _ _⟩
  · have q1 : ((n : Int) == 0) = false := by simpa using (by omega : n ≠ 0)
    have q2 : (4 : Int) < (n : Int) := by omega
    go_enter Tryd.func24, Tryd.ntmps24
    go_wp2
    go_ret
    exact ⟨rfl, Below.refl _ _⟩
set_option maxHeartbeats 3200000 in
set_option maxRecDepth 100000 in
theorem whole_long (A : Option Addr) (n c : Nat) (a : Nat) (r : List Nat) (w : World) (hr : Reads .u8 w A n c (a :: r)) (h0 : 1 < n) (h4 : n ≤ 4) : Calls Tryd.prog 24 #[.slice A n c] w (IntPost w (wholeZ (a :: r))) := by
  have HLEN : Hid (r.length + 1 = n) := by show _ = _; rw [← hr.len]; simp
  have hbytes : ∀ x ∈ a :: r, x < 256 := fun x hx => wf_u8.1 (hr.wf x hx)
  have HBY := Lib.hid hbytes
  obtain ⟨ad, rfl, hadlt, hcell⟩ := hr.cell 0 (by simp)
  simp only [List.getElem_cons_zero, show ad.add 0 = ad from by simp [Addr.add]] at hcell
  have ha := hbytes a (by simp)
  have q1 : ((n : Int) == 0) = false := by simpa using (by omega : n ≠ 0)
  have q2 : ¬ ((4 : Int) < (n : Int)) := by omega
  have q3 : (1 : Int) < (n : Int) := by omega
  have q4 : (0 : Int) < (n : Int) := by omega
  have q5 : (n : Int) < 5 := by omega
  have q6 : (0 : Int) ≤ (n : Int) := by omega
  have hoff : (w.alloc (Obj.cells #[Value.int .i64 0, Value.int .i64 0, Value.int .i64 192, Value.int .i64 224, Value.int .i64 240] 3)).cell? ⟨w.heap.size, n, none⟩ = some (.int .i64 (offsZ n)) := by
    have e : (w.alloc (Obj.cells #[Value.int .i64 0, Value.int .i64 0, Value.int .i64 192, Value.int .i64 224, Value.int .i64 240] 3)).cell? ⟨w.heap.size, n, none⟩ = _ := (Blk.new w 3 [Value.int .i64 0, Value.int .i64 0, Value.int .i64 192, Value.int .i64 224, Value.int .i64 240]).cell n
    rw [e]
    rcases (show n = 2 ∨ n = 3 ∨ n = 4 by omega) with rfl | rfl | rfl <;> rfl
  obtain ⟨f, hf⟩ : ∃ f, Hid (offsZ n = f) := ⟨_, Lib.hid rfl⟩
  have hfb := offs_bound n
  rw [hf.out] at hoff hfb
  obtain ⟨hf0, hf1⟩ := hfb
  have HR := Lib.hid hr
  clear hr hbytes
  go_enter Tryd.func24, Tryd.ntmps24
  go_wp2_with fail
  go_loopw [3, 4] (fun v i wr => ∃ k : Nat, ∃ z : Int, 1 ≤ k ∧ k ≤ n ∧ i = .int .i64 k ∧ v = .int .i64 z ∧ Hid (numTo a r k = z) ∧ Hid (Below w.heap.size w wr)) (fun _ i _ => n - (RowKit.intOf i).toNat)
  case atStart => exact ⟨1, (a : Int) - f, Nat.le_refl _, by omega, rfl, rfl, by show _ = _; rw [numTo_one, HLEN.out, hf.out], Lib.hid ((Below.refl _ _).alloc (Nat.le_refl _) _)⟩
  case round =>
    obtain ⟨k, z, hk1, hk, rfl, rfl, HZ, HB⟩ := hrel
    have hzb := numTo_bound a r k HBY.out (by have := HLEN.out; omega)
    rw [HZ.out] at hzb
    obtain ⟨hzl, hzh⟩ := hzb
    clear hoff hcell
    by_cases hlt : k < n
    · have hkl : k < (a :: r).length := by rw [List.length_cons, HLEN.out]; exact hlt
      obtain ⟨ad', e', hadlt', hc'⟩ := HR.out.cell k hkl
      cases e'
      have hcr := (HB.out.cell (p := ad.add k) (by rw [block_add]; exact hadlt')).trans hc'
      have HS := Lib.hid (numTo_succ a r k hk1 (by rw [HLEN.out]; exact hlt) hkl)
      have hbx := HBY.out _ (List.getElem_mem hkl)
      generalize (a :: r)[k] = x at *
      rw [HZ.out] at HS
      have hlt2 : (k : Int) < (n : Int) := by omega
      have hx0 : (0 : Int) ≤ (x : Int) := by omega
      have hx1 : (x : Int) ≤ 255 := by omega
      clear hc' hadlt' hkl
      go_wp2_with fail
      go_roundw
      case rel => exact ⟨k + 1, z * 64 + (x : Int) - 128, by omega, by omega, by go_num, rfl, HS, HB⟩
      case measure => simp [RowKit.intOf]; omega
    · have hkn : k = n := by omega
      subst hkn
      have HZA : Hid (numZ (a :: r) = z) := by show _ = _; rw [← numTo_all a r k HLEN.out.symm]; exact HZ.out
      have HRR := Lib.hid (HR.out.keep HB.out)
      clear HZ hk1 hk hlt
      by_cases hs : signZ z = true
      · have HC := Lib.hid (sign_c z wr)
        rw [hs] at HC
        have HS := Lib.hid hs
        clear hs
        go_wp2_with fail
        refine HC.out.mono ?_
        rintro en w2 ⟨rfl, rfl⟩
        go_wp2_with fail
        refine (refBytes_c z _).mono ?_
        rintro en w1 ⟨v, rfl, ho, hb⟩
        obtain ⟨A1, c1, rfl, hr1⟩ := Reads.of_own ho (fun x hx => wf_u8.2 (uniZ_byte z x hx))
        have HR1 := Lib.hid hr1
        have HB1 := Lib.hid hb
        clear ho hb hr1
        go_wp2_with fail
        refine (rsame_c _ _ _ _ _ _ _ _ w1 HR1.out (HRR.out.keep HB1.out)).mono ?_
        rintro en w3 ⟨rfl, q, rfl⟩
        by_cases he : uniZ z = a :: r
        · rw [decide_eq_true he]
          have HW : Hid (wholeZ (a :: r) = z) := by
            show _ = _
            have h1 : okL (a :: r) = true := by
              cases ho : okL (a :: r) with
              | true => rfl
              | false => exact absurd ⟨by rw [HZA.out]; exact HS.out, by rw [HZA.out]; exact he⟩ (whole_no _ ho)
            rw [wholeZ, h1, ← HZA.out]
            exact (whole_yes _ h1).1.symm
          clear he
          go_wp2
          go_ret
          rw [HW.out]
          exact ⟨rfl, belowDrewN (HB.out.trans (HB1.out.mono HB.out.size)) _⟩
        · rw [decide_eq_false he]
          have HW : Hid (wholeZ (a :: r) = -1) := by
            show _ = _
            have h1 : okL (a :: r) = false := by
              cases ho : okL (a :: r) with
              | false => rfl
              | true => exact absurd (by rw [← HZA.out]; exact (whole_yes _ ho).2.2) he
            rw [wholeZ, h1]; rfl
          clear he
          go_wp2
          go_ret
          rw [HW.out]
          exact ⟨rfl, belowDrewN (HB.out.trans (HB1.out.mono HB.out.size)) _⟩
      · have hs' : signZ z = false := by simpa using hs
        have HC := Lib.hid (sign_c z wr)
        rw [hs'] at HC
        have HW : Hid (wholeZ (a :: r) = -1) := by
          show _ = _
          have h1 : okL (a :: r) = false := by
            cases ho : okL (a :: r) with
            | false => rfl
            | true => exact absurd (by rw [← HZA.out]; exact (whole_yes _ ho).2.1) hs
          rw [wholeZ, h1]; rfl
        clear hs hs'
        go_wp2_with fail
        refine HC.out.mono ?_
        rintro en w2 ⟨rfl, rfl⟩
        go_wp2
        go_ret
        rw [HW.out]
        exact ⟨rfl, HB.out⟩
set_option maxHeartbeats 3200000 in
set_option maxRecDepth 100000 in
theorem whole_one (A : Option Addr) (n c : Nat) (a : Nat) (r : List Nat) (w : World) (hr : Reads .u8 w A n c (a :: r)) (h1 : n = 1) : Calls Tryd.prog 24 #[.slice A n c] w (IntPost w (wholeZ (a :: r))) := by
  have HLEN : Hid (r.length + 1 = n) := by show _ = _; rw [← hr.len]; simp
  have hbytes : ∀ x ∈ a :: r, x < 256 := fun x hx => wf_u8.1 (hr.wf x hx)
  have HBY := Lib.hid hbytes
  obtain ⟨ad, rfl, hadlt, hcell⟩ := hr.cell 0 (by simp)
  simp only [List.getElem_cons_zero, show ad.add 0 = ad from by simp [Addr.add]] at hcell
  have ha := hbytes a (by simp)
  obtain rfl : r = [] := List.eq_nil_of_length_eq_zero (by have := HLEN.out; omega)
  subst h1
  have hf : Hid (offsZ 1 = 0) := rfl
  have HR := Lib.hid hr
  clear hr hbytes
  go_enter Tryd.func24, Tryd.ntmps24
  go_wp2_with fail
  go_loopw [3, 4] (fun v i wr => ∃ k : Nat, ∃ z : Int, 1 ≤ k ∧ k ≤ 1 ∧ i = .int .i64 k ∧ v = .int .i64 z ∧ Hid (numTo a [] k = z) ∧ Hid (Below w.heap.size w wr)) (fun _ i _ => 1 - (RowKit.intOf i).toNat)
  case atStart => exact ⟨1, (a : Int), Nat.le_refl _, Nat.le_refl _, rfl, rfl, by show _ = _; rw [numTo_one]; show (a : Int) - offsZ 1 = _; rw [hf.out]; omega, Lib.hid (Below.refl _ _)⟩
  case round =>
    obtain ⟨k, z, hk1, hk, rfl, rfl, HZ, HB⟩ := hrel
    have hzb := numTo_bound a [] k HBY.out (by have := HLEN.out; omega)
    rw [HZ.out] at hzb
    obtain ⟨hzl, hzh⟩ := hzb
    clear hcell
    obtain rfl : k = 1 := by omega
    have HZA : Hid (numZ ([a]) = z) := by show _ = _; rw [← numTo_all a [] 1 HLEN.out.symm]; exact HZ.out
    have HRR := Lib.hid (HR.out.keep HB.out)
    clear HZ hk1 hk
    by_cases hs : signZ z = true
    · have HC := Lib.hid (sign_c z wr)
      rw [hs] at HC
      have HS := Lib.hid hs
      clear hs
      go_wp2_with fail
      refine HC.out.mono ?_
      rintro en w2 ⟨rfl, rfl⟩
      go_wp2_with fail
      refine (refBytes_c z _).mono ?_
      rintro en w1 ⟨v, rfl, ho, hb⟩
      obtain ⟨A1, c1, rfl, hr1⟩ := Reads.of_own ho (fun x hx => wf_u8.2 (uniZ_byte z x hx))
      have HR1 := Lib.hid hr1
      have HB1 := Lib.hid hb
      clear ho hb hr1
      go_wp2_with fail
      refine (rsame_c _ _ _ _ _ _ _ _ w1 HR1.out (HRR.out.keep HB1.out)).mono ?_
      rintro en w3 ⟨rfl, q, rfl⟩
      by_cases he : uniZ z = [a]
      · rw [decide_eq_true he]
        have HW : Hid (wholeZ ([a]) = z) := by
          show _ = _
          have h1 : okL ([a]) = true := by
            cases ho : okL ([a]) with
            | true => rfl
            | false => exact absurd ⟨by rw [HZA.out]; exact HS.out, by rw [HZA.out]; exact he⟩ (whole_no _ ho)
          rw [wholeZ, h1, ← HZA.out]
          exact (whole_yes _ h1).1.symm
        clear he
        go_wp2
        go_ret
        rw [HW.out]
        exact ⟨rfl, belowDrewN (HB.out.trans (HB1.out.mono HB.out.size)) _⟩
      · rw [decide_eq_false he]
        have HW : Hid (wholeZ ([a]) = -1) := by
          show _ = _
          have h1 : okL ([a]) = false := by
            cases ho : okL ([a]) with
            | false => rfl
            | true => exact absurd (by rw [← HZA.out]; exact (whole_yes _ ho).2.2) he
          rw [wholeZ, h1]; rfl
        clear he
        go_wp2
        go_ret
        rw [HW.out]
        exact ⟨rfl, belowDrewN (HB.out.trans (HB1.out.mono HB.out.size)) _⟩
    · have hs' : signZ z = false := by simpa using hs
      have HC := Lib.hid (sign_c z wr)
      rw [hs'] at HC
      have HW : Hid (wholeZ ([a]) = -1) := by
        show _ = _
        have h1 : okL ([a]) = false := by
          cases ho : okL ([a]) with
          | false => rfl
          | true => exact absurd (by rw [← HZA.out]; exact (whole_yes _ ho).2.1) hs
        rw [wholeZ, h1]; rfl
      clear hs hs'
      go_wp2_with fail
      refine HC.out.mono ?_
      rintro en w2 ⟨rfl, rfl⟩
      go_wp2
      go_ret
      rw [HW.out]
      exact ⟨rfl, HB.out⟩
theorem whole_c (A : Option Addr) (n c : Nat) (l : List Nat) (w : World) (hr : Reads .u8 w A n c l) : Calls Tryd.prog 24 #[.slice A n c] w (IntPost w (wholeZ l)) := by
  by_cases h : n = 0 ∨ 4 < n
  · exact whole_short A n c l w hr h
  · cases l with
    | nil => exact absurd (.inl (by have := hr.len; simpa using this.symm)) h
    | cons a r =>
      by_cases h1 : n = 1
      · exact whole_one A n c a r w hr h1
      · exact whole_long A n c a r w hr (by omega) (by omega)
end Go.Proofs.YtgkbgckpdkdngaaDoor
