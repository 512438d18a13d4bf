/- The walk through CellTexts: for every cells it returns true and leaves old memory as it was. Conditions: none. -/
import Derived.Test.YtbmnpbmimhodbaaDoorAwake9
import Derived.Test.YtbmnpbmimhodbaaDoorCellT
import Derived.Test.YtbmnpbmimhodbaaDoorOpen5
import Derived.Test.YtbmnpbmimhodbaaDoorRuneRB
import Derived.Test.YtbmnpbmimhodbaaDoorRely2
import Derived.Test.YtbmnpbmimhodbaaDoorTabs
import Derived.Laws.IdiomStrings
import Derived.Laws.BytesArg
namespace Go.Proofs.YtbmnpbmimhodbaaDoor.cellTexts
open Go.ChangeShapes Go.WideShapes Go.RowKit
theorem byteL (X : List Nat) (h : ∀ x ∈ X, x < 256) : (X.map UInt8.ofNat).map UInt8.toNat = X := by
  rw [List.map_map]
  conv => rhs; rw [← List.map_id X]
  refine List.map_congr_left fun x hx => ?_
  simp only [Function.comp, id, UInt8.toNat_ofNat']
  exact Nat.mod_eq_of_lt (h x hx)
theorem conv_str (W : World) (V : Option Addr) (m d : Nat) (X : List Nat) (TT : ByteArray) (hr : Reads .u8 W V m d X) (hT : strL TT = X) : (convert 28 9 (.slice V m d)).run Tryd.prog W = .ok (.string TT) W := by
  have hX : ∀ x ∈ X, x < 256 := fun x hx => wf_u8.1 (hr.wf x hx)
  have e : TT = ⟨(X.map UInt8.ofNat).toArray⟩ := strL_inj (by rw [hT]; simp only [strL]; exact (byteL X hX).symm)
  have hl := hr.len
  cases V with
  | none =>
    have hx : X = [] := by
      cases X with
      | nil => rfl
      | cons x r => obtain ⟨ad, e', _⟩ := hr.cell 0 (by simp); cases e'
    subst hx
    subst e
    obtain rfl : 0 = m := hl
    exact run_convert_bytes_nil W _ _ Tryd.underlying28 Tryd.underlying5 _ _ _ Tryd.underlying9
  | some ad =>
    have h := run_convert_bytes_back (P := Tryd.prog) W 28 9 5 ad d (X.map UInt8.ofNat) Tryd.underlying28 Tryd.underlying5 Tryd.underlying9 (fun j hj => by
      have hj' : j < X.length := by simpa using hj
      obtain ⟨ad', e', _, hc⟩ := hr.cell j hj'
      cases e'
      rw [hc]
      have := hX X[j] (List.getElem_mem hj')
      simp only [List.getElem_map, UInt8.toNat_ofNat']
      rw [Nat.mod_eq_of_lt this])
    rw [List.length_map, hl] at h
    rw [e]
    exact h
theorem cutZ_take (zs : List Int) (q : Nat) (hq : q + 1 ≤ zs.length) (h : zs[q] = 32) : cutZ (zs.take (q + 1)) = cutZ (zs.take q) := by
  rw [List.take_succ_eq_append_getElem (by omega), cutZ_snoc, if_pos h]
theorem cutZ_full (zs : List Int) (q : Nat) (hq : q + 1 ≤ zs.length) (h : zs[q] ≠ 32) : cutZ (zs.take (q + 1)) = zs.take (q + 1) := by
  rw [List.take_succ_eq_append_getElem (by omega), cutZ_snoc, if_neg h]
def C (A : Option Addr) (n c : Nat) (V : Option Addr) (m d : Nat) (TT : ByteArray) : List (Value → World → Prop) := [fun v _ => v = .slice A n c,
  fun v _ => v = .string TT,
  fun v _ => v = .slice V m d,
  fun v _ => v = .string TT,
  fun v _ => v = .bool true,
  fun v _ => v = .bool true]
theorem C_stable (A : Option Addr) (n c : Nat) (V : Option Addr) (m d : Nat) (TT : ByteArray) : ∀ p ∈ C A n c V m d TT, Stable p := (stable_cons (stable_eq _) (stable_cons (stable_eq _) (stable_cons (stable_eq _) (stable_cons (stable_eq _) (stable_cons (stable_eq _) (stable_cons (stable_eq _) stable_nil))))))
set_option maxRecDepth 100000 in
set_option maxHeartbeats 3200000 in
theorem walk (A : Option Addr) (n c : Nat) (l : List CellV) (w : World) (hr : ReadsS cellV 4 w A n c l) (hf : ∀ x ∈ l, fitC x) (_ : Tabs w) :
    Calls Tryd.prog 3 #[.slice A n c] w fun e w' => e = .returned (.bool true) ∧ Below w.heap.size w w' := by
  obtain ⟨i0, hi, hz0, hz1, hz2⟩ := info_parts infoU8
  have HR := Lib.hid hr
  have HF := Lib.hid hf
  clear hr hf
  by_cases hn : 100 < n
  · have hn2 : decide ((100 : Int) < (n : Int)) = true := by simp; omega
    go_enter Tryd.func3, Tryd.ntmps3
    go_wp2_with fail
    refine (awake9_c w).mono ?_
    rintro en w1 ⟨rfl, hb1⟩
    go_wp2
    go_ret
    exact ⟨rfl, hb1⟩
  have hn2 : decide ((100 : Int) < (n : Int)) = false := by simp; omega
  have HL := Lib.hid HR.out.len
  obtain ⟨zs, hzs⟩ : ∃ zs, Hid (l.map (·.1) = zs) := ⟨_, rfl⟩
  have HZL : Hid (zs.length = n) := by show _ = _; rw [← hzs.out, List.length_map, HL.out]
  go_enter Tryd.func3, Tryd.ntmps3
  go_wp2_with fail
  refine (awake9_c w).mono ?_
  rintro en w1 ⟨rfl, hb1⟩
  have HR1 := Lib.hid (HR.out.keep hb1)
  have HB1 := Lib.hid hb1
  clear hb1 HR
  go_wp2
  go_loopw [3] (fun t wr => ∃ q : Nat, q ≤ n ∧ t = .int .i64 q ∧ Hid (cutZ (zs.take q) = cutZ zs) ∧ Hid (w1 = wr)) (fun t _ => (intOf t).toNat)
  case atStart => exact ⟨n, Nat.le_refl _, rfl, Lib.hid (by rw [List.take_of_length_le (by rw [HZL.out]; exact Nat.le_refl _)]), Lib.hid rfl⟩
  case round =>
    obtain ⟨q, hq, rfl, hcut, hw1⟩ := hrel
    obtain rfl := hw1.out
    clear hw1
    rcases Nat.eq_zero_or_pos q with h0 | h0
    · have HC : Hid (zs.take q = cutZ zs) := by
        show _ = _
        rw [← hcut.out, h0]
        rfl
      have g1 : decide ((0 : Int) < (q : Int)) = false := by rw [decide_eq_false_iff_not]; omega
      have g2 : decide (0 < q) = false := by rw [decide_eq_false_iff_not]; omega
      clear h0
      go_wp2
      go_loopw [4, 5] (fun v i wr => ∃ j : Nat, j ≤ q ∧ i = .int .i64 j ∧ Hid (Mine w1 wr 5 v (textZ (zs.take j)).length (ints .u8 (textZ (zs.take j)))) ∧ Hid ((textZ (zs.take j)).length ≤ 4 * j)) (fun _ i _ => q - (intOf i).toNat)
      case atStart => exact ⟨0, Nat.zero_le _, rfl, ⟨World.ownsRow_nil _ _ _ _, Below.refl _ _⟩, Nat.zero_le _⟩
      case round =>
        obtain ⟨j, hj, rfl, hM, hle⟩ := hrel
        by_cases hlt : j < q
        · have hjl : j < l.length := by rw [HL.out]; omega
          have hjz : j < zs.length := by rw [HZL.out]; omega
          obtain ⟨bd, rfl, hbdlt, hcb⟩ := (HR1.out.keep hM.out.2).cell j hjl
          obtain ⟨y, HY⟩ : ∃ x, Hid (l[j] = x) := ⟨l[j], rfl⟩
          rw [HY.out] at hcb
          obtain ⟨b0, b1, b2, b3⟩ := four hcb
          have hfy := (HF.out y (by rw [← HY.out]; exact List.getElem_mem hjl)).1
          have hwy : wrap64 y.1 = y.1 := IntWalk.wrap64_in _ (by omega)
          have hzy : zs[j] = y.1 := by simp only [← hzs.out, List.getElem_map, HY.out]
          have HZ : Hid (textZ (zs.take (j + 1)) = textZ (zs.take j) ++ uniZ y.1) := by
            show _ = _
            rw [List.take_succ_eq_append_getElem hjz, textZ_snoc, hzy]
          have HCB := Lib.hid (refBytes_c y.1 wr)
          have hul := (uniZ_len y.1).2
          have hub := uniZ_byte y.1
          obtain ⟨Y, hY⟩ : ∃ Y, Hid (uniZ y.1 = Y) := ⟨_, rfl⟩
          rw [hY.out] at HCB hul hub HZ
          have HUB : Hid (∀ z ∈ Y, (Lit.int .u8 (z : Int)).wf = true) := fun z hz => wf_u8.2 (hub z hz)
          obtain ⟨P, hP⟩ : ∃ P, Hid (textZ (zs.take j) = P) := ⟨_, rfl⟩
          rw [hP.out] at hM hle HZ
          obtain ⟨L, hL⟩ : ∃ L, Hid (P.length = L) := ⟨_, Lib.hid rfl⟩
          rw [hL.out] at hM hle
          have hLb : L ≤ 400 := by have := hle.out; omega
          obtain ⟨D, dD, eV⟩ := own_form hM.out.1
          subst eV
          have hj1 : (j : Int) < (n : Int) := by omega
          have hj0 : (0 : Int) ≤ (j : Int) := by omega
          have hj2 : decide ((j : Int) < (q : Int)) = true := by rw [decide_eq_true_eq]; omega
          clear hcb hub hfy hzy
          go_wp2_with fail
          refine HCB.out.mono ?_
          rintro en w6 ⟨v6, rfl, hM6⟩
          obtain ⟨A6, c6, rfl, hr6⟩ := Reads.of_own hM6.1 HUB.out
          have HO6 := Lib.hid (mine_below hM.out hM6.2)
          have HR6 := Lib.hid hr6
          obtain ⟨K, hK⟩ : ∃ K, Hid (Y.length = K) := ⟨_, Lib.hid rfl⟩
          rw [hK.out] at HR6 hul ⊢
          clear hr6 hM6 b0 b1 b2 b3
          go_wp2_with (at_builtin; refine wpList_app rfl (.tmp 31) (.tmp 38) 28 rfl w1.heap.size 5 i0 (.int .u8 0) 1 Tryd.underlying28 hi hz0 hz1 hz2 rfl (.slice D L dD) L (ints .u8 P) rfl HO6.out.1 .u8 A6 K c6 Y rfl HR6.out (by unfold maxLen; omega) (by omega) (by have := HO6.out.2.size; omega) ?_; intro v7 w7 ho7 hg7; obtain ⟨A7, c7, rfl⟩ := own_form ho7)
          go_roundw
          case rel =>
            refine ⟨j + 1, by omega, by go_num, ?_, ?_⟩
            · show Mine _ _ _ _ _ _
              rw [HZ.out, List.length_append, hL.out, hK.out, ints_append]
              exact ⟨ho7, HO6.out.2.grown hg7 HO6.out.2.size (own_base HO6.out.1)⟩
            · show _ ≤ _
              rw [HZ.out, List.length_append, hL.out, hK.out]
              have := hle.out
              omega
          case measure => simp [intOf]; omega
        · obtain rfl : q = j := by omega
          have hj2 : decide (((q : Nat) : Int) < ((q : Nat) : Int)) = false := by simp
          rw [HC.out] at hM hle
          obtain ⟨X, hX⟩ : ∃ X, Hid (textZ (cutZ zs) = X) := ⟨_, rfl⟩
          rw [hX.out] at hM hle
          have hXb : ∀ x ∈ X, x < 256 := by
            rw [← hX.out]
            intro x hx
            obtain ⟨z, _, hz⟩ := List.mem_flatMap.1 hx
            exact uniZ_byte z x hz
          obtain ⟨TT, hTT⟩ : ∃ T : ByteArray, strL T = X := ⟨⟨(X.map UInt8.ofNat).toArray⟩, by simp only [strL]; exact byteL X hXb⟩
          have HTT : Hid (strL TT = textZ (cutZ (l.map (·.1)))) := by show _ = _; rw [hTT, ← hX.out, hzs.out]
          obtain ⟨V, d, eV, hrX⟩ := Reads.of_own hM.out.1 (fun x hx => wf_u8.2 (hXb x hx))
          subst eV
          obtain ⟨m, hm⟩ : ∃ m, Hid (X.length = m) := ⟨_, Lib.hid rfl⟩
          rw [hm.out] at hrX ⊢
          have HWX := Lib.hid hrX
          have HRX := Lib.hid (HR1.out.keep hM.out.2)
          have hbw : Below w.heap.size w wr := HB1.out.trans (hM.out.2.mono HB1.out.size)
          clear hrX hXb hM
          go_upto_region 13 with (fail)
          refine wp_region_any (by kernel_rfl) ?_
          change wpAny _ _ _ _ _ _ _ (World.drew _)
          have HWW : Hid (Reads .u8 wr.drew V m d (textZ (cutZ (l.map (·.1))))) := by
            show Reads _ _ _ _ _ _
            rw [hzs.out, hX.out]
            exact HWX.out.of_heap rfl
          have HRW : Hid (ReadsS cellV 4 wr.drew A n c l) := HRX.out.of_heap rfl
          have hbw3 := hbw.drew
          clear hbw HWX HRX
          refine wpAny_relyG (g := 0) [(0, 40), (1, 41), (2, 42), (3, 43), (4, 44), (5, 2)] (condAt (C A n c V m d TT)) [] (by kernel_rfl) rfl (condAt_keep (C_stable A n c V m d TT)) ?hstep ?hend
          case hstep =>
            intro p hp o ho x W hbel hdep K hK
            simp only [List.mem_cons, List.not_mem_nil, or_false] at hp
            rcases hp with rfl | rfl | rfl | rfl | rfl | rfl
            · cases Option.some.inj ho
              simp only [frm, List.foldl_cons, List.foldl_nil, Act.put, List.setIfInBounds_toArray, List.set_cons_zero, List.set_cons_succ] at hK ⊢
              clear hdep ho
              rw [if_pos (by rfl)]
              go_simp
              exact hK _ _ rfl (Below.refl _ _) (by simp)
            · cases Option.some.inj ho
              have d0 : x 0 = .slice A n c := hdep ⟨0, .data⟩ (by simp) rfl rfl
              simp only [frm, List.foldl_cons, List.foldl_nil, Act.put, List.setIfInBounds_toArray, List.set_cons_zero, List.set_cons_succ] at hK ⊢
              clear hdep ho
              rw [d0] at hK ⊢
              clear d0
              rw [if_pos (by rfl)]
              go_simp
              refine (cellText_c A n c l _ (HRW.out.keep hbel) HF.out (by omega)).mono ?_
              rintro e w' ⟨t, rfl, ht, hb⟩
              obtain rfl : t = TT := strL_inj (ht.trans HTT.out.symm)
              exact hK _ _ rfl hb (by simp)
            · cases Option.some.inj ho
              simp only [frm, List.foldl_cons, List.foldl_nil, Act.put, List.setIfInBounds_toArray, List.set_cons_zero, List.set_cons_succ] at hK ⊢
              clear hdep ho
              rw [if_pos (by rfl)]
              go_simp
              exact hK _ _ rfl (Below.refl _ _) (by simp)
            · cases Option.some.inj ho
              have d2 : x 2 = .slice V m d := hdep ⟨2, .data⟩ (by simp) rfl rfl
              simp only [frm, List.foldl_cons, List.foldl_nil, Act.put, List.setIfInBounds_toArray, List.set_cons_zero, List.set_cons_succ] at hK ⊢
              clear hdep ho
              rw [d2] at hK ⊢
              clear d2
              rw [if_pos (by rfl)]
              have hcv := conv_str W V m d _ TT (HWW.out.keep hbel) HTT.out
              go_simp
              exact hK _ _ rfl (Below.refl _ _) (by simp)
            · cases Option.some.inj ho
              have d1 : x 1 = .string TT := hdep ⟨1, .data⟩ (by simp) rfl rfl
              have d3 : x 3 = .string TT := hdep ⟨3, .data⟩ (by simp) rfl rfl
              simp only [frm, List.foldl_cons, List.foldl_nil, Act.put, List.setIfInBounds_toArray, List.set_cons_zero, List.set_cons_succ] at hK ⊢
              clear hdep ho
              rw [d1, d3] at hK ⊢
              clear d1 d3
              rw [if_pos (by rfl)]
              go_simp
              exact hK _ _ rfl (Below.refl _ _) (by simp)
            · cases Option.some.inj ho
              have d4 : x 4 = .bool true := hdep ⟨4, .data⟩ (by simp) rfl rfl
              simp only [frm, List.foldl_cons, List.foldl_nil, Act.put, List.setIfInBounds_toArray, List.set_cons_zero, List.set_cons_succ] at hK ⊢
              clear hdep ho
              rw [d4] at hK ⊢
              clear d4
              rw [if_pos (by rfl)]
              go_simp
              exact hK _ _ rfl (Below.refl _ _) (by simp)
          case hend =>
            intro x W hbel hall _
            have d5 : x 5 = .bool true := hall (5, 2) (by simp)
            simp only [frm, List.foldl_cons, List.foldl_nil, Act.put, List.setIfInBounds_toArray, List.set_cons_zero, List.set_cons_succ]
            rw [d5]
            clear hall d5
            generalize x 0 = z0
            generalize x 1 = z1
            generalize x 2 = z2
            generalize x 3 = z3
            generalize x 4 = z4
            refine wpAny_done (by kernel_rfl) ?_ _
            have hbw := hbw3.trans (hbel.mono hbw3.size)
            go_wp2
            go_ret
            exact ⟨rfl, hbw⟩
    · obtain ⟨p, hp⟩ : ∃ p, Hid (q = p + 1) := ⟨q - 1, Lib.hid (by omega)⟩
      have hqp : (q : Int) - 1 = (p : Int) := by have := hp.out; omega
      have hpn : p < n := by have := hp.out; omega
      have hpl : p < l.length := by rw [HL.out]; omega
      have hpz : p < zs.length := by rw [HZL.out]; omega
      obtain ⟨ad, rfl, hadlt, hca⟩ := HR1.out.cell p hpl
      obtain ⟨x, HX⟩ : ∃ x, Hid (l[p] = x) := ⟨l[p], rfl⟩
      rw [HX.out] at hca
      obtain ⟨a0, a1, a2, a3⟩ := four hca
      have hzp : zs[p] = x.1 := by simp only [← hzs.out, List.getElem_map, HX.out]
      have g1 : decide ((0 : Int) < (q : Int)) = true := by rw [decide_eq_true_eq]; omega
      have g2 : decide (0 < q) = true := by rw [decide_eq_true_eq]; omega
      have hp1 : (p : Int) < (n : Int) := by omega
      have hp0 : (0 : Int) ≤ (p : Int) := by omega
      clear hca h0
      by_cases h32 : x.1 = 32
      · have f1 : (x.1 == 32) = true := by simpa using h32
        have HN : Hid (cutZ (zs.take p) = cutZ zs) := by
          show _ = _
          rw [← cutZ_take zs p hpz (hzp.trans h32), ← hp.out]
          exact hcut.out
        clear h32 hzp
        go_wp2
        go_roundw
        case rel => exact ⟨p, by omega, by go_num, HN, by first | exact Lib.hid rfl | exact Lib.hid trivial⟩
        case measure => simp [intOf]; omega
      · have f1 : (x.1 == 32) = false := by simpa using h32
        have HC : Hid (zs.take q = cutZ zs) := by
          show _ = _
          rw [← hcut.out, hp.out, cutZ_full zs p hpz (by rw [hzp]; exact h32)]
        clear h32 hzp
        go_wp2
        go_loopw [4, 5] (fun v i wr => ∃ j : Nat, j ≤ q ∧ i = .int .i64 j ∧ Hid (Mine w1 wr 5 v (textZ (zs.take j)).length (ints .u8 (textZ (zs.take j)))) ∧ Hid ((textZ (zs.take j)).length ≤ 4 * j)) (fun _ i _ => q - (intOf i).toNat)
        case atStart => exact ⟨0, Nat.zero_le _, rfl, ⟨World.ownsRow_nil _ _ _ _, Below.refl _ _⟩, Nat.zero_le _⟩
        case round =>
          obtain ⟨j, hj, rfl, hM, hle⟩ := hrel
          by_cases hlt : j < q
          · have hjl : j < l.length := by rw [HL.out]; omega
            have hjz : j < zs.length := by rw [HZL.out]; omega
            obtain ⟨bd, hbe, hbdlt, hcb⟩ := (HR1.out.keep hM.out.2).cell j hjl
            cases hbe
            obtain ⟨y, HY⟩ : ∃ x, Hid (l[j] = x) := ⟨l[j], rfl⟩
            rw [HY.out] at hcb
            obtain ⟨b0, b1, b2, b3⟩ := four hcb
            have hfy := (HF.out y (by rw [← HY.out]; exact List.getElem_mem hjl)).1
            have hwy : wrap64 y.1 = y.1 := IntWalk.wrap64_in _ (by omega)
            have hzy : zs[j] = y.1 := by simp only [← hzs.out, List.getElem_map, HY.out]
            have HZ : Hid (textZ (zs.take (j + 1)) = textZ (zs.take j) ++ uniZ y.1) := by
              show _ = _
              rw [List.take_succ_eq_append_getElem hjz, textZ_snoc, hzy]
            have HCB := Lib.hid (refBytes_c y.1 wr)
            have hul := (uniZ_len y.1).2
            have hub := uniZ_byte y.1
            obtain ⟨Y, hY⟩ : ∃ Y, Hid (uniZ y.1 = Y) := ⟨_, rfl⟩
            rw [hY.out] at HCB hul hub HZ
            have HUB : Hid (∀ z ∈ Y, (Lit.int .u8 (z : Int)).wf = true) := fun z hz => wf_u8.2 (hub z hz)
            obtain ⟨P, hP⟩ : ∃ P, Hid (textZ (zs.take j) = P) := ⟨_, rfl⟩
            rw [hP.out] at hM hle HZ
            obtain ⟨L, hL⟩ : ∃ L, Hid (P.length = L) := ⟨_, Lib.hid rfl⟩
            rw [hL.out] at hM hle
            have hLb : L ≤ 400 := by have := hle.out; omega
            obtain ⟨D, dD, eV⟩ := own_form hM.out.1
            subst eV
            have hj1 : (j : Int) < (n : Int) := by omega
            have hj0 : (0 : Int) ≤ (j : Int) := by omega
            have hj2 : decide ((j : Int) < (q : Int)) = true := by rw [decide_eq_true_eq]; omega
            clear hcb hub hfy hzy
            go_wp2_with fail
            refine HCB.out.mono ?_
            rintro en w6 ⟨v6, rfl, hM6⟩
            obtain ⟨A6, c6, rfl, hr6⟩ := Reads.of_own hM6.1 HUB.out
            have HO6 := Lib.hid (mine_below hM.out hM6.2)
            have HR6 := Lib.hid hr6
            obtain ⟨K, hK⟩ : ∃ K, Hid (Y.length = K) := ⟨_, Lib.hid rfl⟩
            rw [hK.out] at HR6 hul ⊢
            clear hr6 hM6 b0 b1 b2 b3
            go_wp2_with (at_builtin; refine wpList_app rfl (.tmp 31) (.tmp 38) 28 rfl w1.heap.size 5 i0 (.int .u8 0) 1 Tryd.underlying28 hi hz0 hz1 hz2 rfl (.slice D L dD) L (ints .u8 P) rfl HO6.out.1 .u8 A6 K c6 Y rfl HR6.out (by unfold maxLen; omega) (by omega) (by have := HO6.out.2.size; omega) ?_; intro v7 w7 ho7 hg7; obtain ⟨A7, c7, rfl⟩ := own_form ho7)
            go_roundw
            case rel =>
              refine ⟨j + 1, by omega, by go_num, ?_, ?_⟩
              · show Mine _ _ _ _ _ _
                rw [HZ.out, List.length_append, hL.out, hK.out, ints_append]
                exact ⟨ho7, HO6.out.2.grown hg7 HO6.out.2.size (own_base HO6.out.1)⟩
              · show _ ≤ _
                rw [HZ.out, List.length_append, hL.out, hK.out]
                have := hle.out
                omega
            case measure => simp [intOf]; omega
          · obtain rfl : q = j := by omega
            have hj2 : decide (((q : Nat) : Int) < ((q : Nat) : Int)) = false := by simp
            rw [HC.out] at hM hle
            obtain ⟨X, hX⟩ : ∃ X, Hid (textZ (cutZ zs) = X) := ⟨_, rfl⟩
            rw [hX.out] at hM hle
            have hXb : ∀ x ∈ X, x < 256 := by
              rw [← hX.out]
              intro x hx
              obtain ⟨z, _, hz⟩ := List.mem_flatMap.1 hx
              exact uniZ_byte z x hz
            obtain ⟨TT, hTT⟩ : ∃ T : ByteArray, strL T = X := ⟨⟨(X.map UInt8.ofNat).toArray⟩, by simp only [strL]; exact byteL X hXb⟩
            have HTT : Hid (strL TT = textZ (cutZ (l.map (·.1)))) := by show _ = _; rw [hTT, ← hX.out, hzs.out]
            obtain ⟨V, d, eV, hrX⟩ := Reads.of_own hM.out.1 (fun x hx => wf_u8.2 (hXb x hx))
            subst eV
            obtain ⟨m, hm⟩ : ∃ m, Hid (X.length = m) := ⟨_, Lib.hid rfl⟩
            rw [hm.out] at hrX ⊢
            have HWX := Lib.hid hrX
            have HRX := Lib.hid (HR1.out.keep hM.out.2)
            have hbw : Below w.heap.size w wr := HB1.out.trans (hM.out.2.mono HB1.out.size)
            clear hrX hXb hM
            go_upto_region 13 with (fail)
            refine wp_region_any (by kernel_rfl) ?_
            change wpAny _ _ _ _ _ _ _ (World.drew _)
            have HWW : Hid (Reads .u8 wr.drew V m d (textZ (cutZ (l.map (·.1))))) := by
              show Reads _ _ _ _ _ _
              rw [hzs.out, hX.out]
              exact HWX.out.of_heap rfl
            have HRW : Hid (ReadsS cellV 4 wr.drew (some ad) n c l) := HRX.out.of_heap rfl
            have hbw3 := hbw.drew
            clear hbw HWX HRX
            refine wpAny_relyG (g := 0) [(0, 40), (1, 41), (2, 42), (3, 43), (4, 44), (5, 2)] (condAt (C (some ad) n c V m d TT)) [] (by kernel_rfl) rfl (condAt_keep (C_stable (some ad) n c V m d TT)) ?hstep ?hend
            case hstep =>
              intro p hp o ho x W hbel hdep K hK
              simp only [List.mem_cons, List.not_mem_nil, or_false] at hp
              rcases hp with rfl | rfl | rfl | rfl | rfl | rfl
              · cases Option.some.inj ho
                simp only [frm, List.foldl_cons, List.foldl_nil, Act.put, List.setIfInBounds_toArray, List.set_cons_zero, List.set_cons_succ] at hK ⊢
                clear hdep ho
                rw [if_pos (by rfl)]
                go_simp
                exact hK _ _ rfl (Below.refl _ _) (by simp)
              · cases Option.some.inj ho
                have d0 : x 0 = .slice (some ad) n c := hdep ⟨0, .data⟩ (by simp) rfl rfl
                simp only [frm, List.foldl_cons, List.foldl_nil, Act.put, List.setIfInBounds_toArray, List.set_cons_zero, List.set_cons_succ] at hK ⊢
                clear hdep ho
                rw [d0] at hK ⊢
                clear d0
                rw [if_pos (by rfl)]
                go_simp
                refine (cellText_c (some ad) n c l _ (HRW.out.keep hbel) HF.out (by omega)).mono ?_
                rintro e w' ⟨t, rfl, ht, hb⟩
                obtain rfl : t = TT := strL_inj (ht.trans HTT.out.symm)
                exact hK _ _ rfl hb (by simp)
              · cases Option.some.inj ho
                simp only [frm, List.foldl_cons, List.foldl_nil, Act.put, List.setIfInBounds_toArray, List.set_cons_zero, List.set_cons_succ] at hK ⊢
                clear hdep ho
                rw [if_pos (by rfl)]
                go_simp
                exact hK _ _ rfl (Below.refl _ _) (by simp)
              · cases Option.some.inj ho
                have d2 : x 2 = .slice V m d := hdep ⟨2, .data⟩ (by simp) rfl rfl
                simp only [frm, List.foldl_cons, List.foldl_nil, Act.put, List.setIfInBounds_toArray, List.set_cons_zero, List.set_cons_succ] at hK ⊢
                clear hdep ho
                rw [d2] at hK ⊢
                clear d2
                rw [if_pos (by rfl)]
                have hcv := conv_str W V m d _ TT (HWW.out.keep hbel) HTT.out
                go_simp
                exact hK _ _ rfl (Below.refl _ _) (by simp)
              · cases Option.some.inj ho
                have d1 : x 1 = .string TT := hdep ⟨1, .data⟩ (by simp) rfl rfl
                have d3 : x 3 = .string TT := hdep ⟨3, .data⟩ (by simp) rfl rfl
                simp only [frm, List.foldl_cons, List.foldl_nil, Act.put, List.setIfInBounds_toArray, List.set_cons_zero, List.set_cons_succ] at hK ⊢
                clear hdep ho
                rw [d1, d3] at hK ⊢
                clear d1 d3
                rw [if_pos (by rfl)]
                go_simp
                exact hK _ _ rfl (Below.refl _ _) (by simp)
              · cases Option.some.inj ho
                have d4 : x 4 = .bool true := hdep ⟨4, .data⟩ (by simp) rfl rfl
                simp only [frm, List.foldl_cons, List.foldl_nil, Act.put, List.setIfInBounds_toArray, List.set_cons_zero, List.set_cons_succ] at hK ⊢
                clear hdep ho
                rw [d4] at hK ⊢
                clear d4
                rw [if_pos (by rfl)]
                go_simp
                exact hK _ _ rfl (Below.refl _ _) (by simp)
            case hend =>
              intro x W hbel hall _
              have d5 : x 5 = .bool true := hall (5, 2) (by simp)
              simp only [frm, List.foldl_cons, List.foldl_nil, Act.put, List.setIfInBounds_toArray, List.set_cons_zero, List.set_cons_succ]
              rw [d5]
              clear hall d5
              generalize x 0 = z0
              generalize x 1 = z1
              generalize x 2 = z2
              generalize x 3 = z3
              generalize x 4 = z4
              refine wpAny_done (by kernel_rfl) ?_ _
              have hbw := hbw3.trans (hbel.mono hbw3.size)
              go_wp2
              go_ret
              exact ⟨rfl, hbw⟩
end Go.Proofs.YtbmnpbmimhodbaaDoor.cellTexts
