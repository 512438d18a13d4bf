/- The walk through CrcBursts: for every bytes, place and bits it returns true and leaves old memory as it was. Conditions: none. -/
import Derived.Test.YtnfjghihjpdpiaaAwake7
import Derived.Test.YtnfjghihjpdpiaaWrite
import Derived.Test.YtnfjghihjpdpiaaCrcBurst
namespace Go.Proofs.Ytnfjghihjpdpiaa.crcBursts
open Go.ChangeShapes Go.WideShapes Go.RowKit
theorem infoB : (Try.prog.info? 5).map (fun i => (i.zero, i.size, i.bytes)) = some (some (.int .u8 0), 1, 1) := by kernel_rfl
theorem nat_u16 (z : Int) (h : (Lit.int .u16 z).wf = true) : ∃ x : Nat, z = (x : Int) ∧ x < 65536 := by
  simp [Lit.wf, IntKind.min, IntKind.max, IntKind.signed, IntKind.bits] at h
  exact ⟨z.toNat, by omega, by omega⟩
set_option maxRecDepth 100000 in
set_option maxHeartbeats 3200000 in
theorem walk (A : Option Addr) (n c : Nat) (l : List Nat) (at0 bits0 : Int) (w : World) (hr : Reads .u8 w A n c l) (hat : (Lit.int .u16 at0).wf = true) (hbits : (Lit.int .u32 bits0).wf = true) :
    Calls Try.prog 5 #[.slice A n c, .int .u16 at0, .int .u32 bits0] w fun e w' => e = .returned (.bool true) ∧ Below w.heap.size w w' := by
  obtain ⟨i0, hi, hz0, hz1, hz2⟩ := info_parts infoB
  obtain ⟨t, rfl, ht⟩ := nat_u16 at0 hat
  obtain ⟨B, rfl, hB⟩ := nat_u32 bits0 hbits
  clear hat hbits
  have HR := Lib.hid hr
  clear hr
  by_cases hskip : 200 < n ∨ B = 0
  · by_cases hn : 200 < n
    · have hn2 : decide ((200 : Int) < (n : Int)) = true := by simp; omega
      clear hskip
      go_enter Try.func5, Try.ntmps5
      go_wp2_with fail
      refine (awake7_c w).mono ?_
      rintro en w1 ⟨rfl, hb1⟩
      go_wp2
      go_ret
      exact ⟨rfl, hb1⟩
    · have hn2 : decide ((200 : Int) < (n : Int)) = false := by simp; omega
      obtain rfl : B = 0 := by omega
      clear hskip
      go_enter Try.func5, Try.ntmps5
      go_wp2_with fail
      refine (awake7_c w).mono ?_
      rintro en w1 ⟨rfl, hb1⟩
      go_wp2
      go_ret
      exact ⟨rfl, hb1⟩
  · have hn : n ≤ 200 := by omega
    have hn2 : decide ((200 : Int) < (n : Int)) = false := by simp; omega
    have hB0 : ((B : Int) == 0) = false := by simp; omega
    clear hskip
    go_enter Try.func5, Try.ntmps5
    go_wp2_with fail
    refine (awake7_c w).mono ?_
    rintro en w1 ⟨rfl, hb1⟩
    have HR1 := Lib.hid (HR.out.keep hb1)
    go_upto_region 5 with (fail)
    go_upto_region 8 with (at_builtin; refine wpList_app rfl (.tmp 20) (.tmp 21) 23 rfl w1.heap.size 5 i0 (.int .u8 0) 1 Try.underlying23 hi hz0 hz1 hz2 rfl (.slice (some ⟨w1.heap.size, 0, none⟩) 0 0) 0 [] rfl (blk_own (Blk.new _ _ []) rfl (Nat.le_refl _) (by decide)) .u8 A n c l rfl (HR1.out.keep ((Below.refl _ _).alloc (Nat.le_refl _) _)) (by unfold maxLen; omega) (by omega) (by simp) ?_; intro v2 w2 hown2 hgrow2)
    have hm2 : Mine w1 w2 5 v2 n (ints .u8 l) := ⟨by simpa using hown2, ((Below.refl _ _).alloc (Nat.le_refl _) _).grown hgrow2 (by simp) (by intro k hk; simp [Value.ownBlock] at hk; omega)⟩
    clear hown2 hgrow2
    obtain ⟨V, cV, rfl⟩ := own_form hm2.1
    have HM2 := Lib.hid hm2
    clear hm2
    obtain ⟨k0, hk0⟩ : ∃ k0, t % 1600 = k0 := ⟨_, rfl⟩
    have hk1 : (t : Int) % 1600 = (k0 : Int) := by omega
    have hk2 : k0 < 1600 := by omega
    clear hk0
    have HLEN : Hid (l.length = n) := HR.out.len
    have HLT : Hid (∀ x ∈ l, x < 256) := fun x hx => wf_u8.1 (HR.out.wf x hx)
    go_loopw [2, 8, 9] (fun b ch x wr => ∃ (i q : Nat) (cb : Bool) (m : BitVec 32) (xl : List Nat), i ≤ 32 ∧ b = .int .u32 (q : Int) ∧ q < 4294967296 ∧ ch = .bool cb ∧ x = .int .i64 (i : Int) ∧ Hid (Burst l xl k0 i cb m) ∧ Hid (Mine w1 wr 5 (.slice V n cV) n (ints .u8 xl))) (fun _ _ x _ => 32 - (intOf x).toNat)
    case atStart => exact ⟨0, B, false, 0#32, l, by omega, rfl, hB, rfl, rfl, Burst.start l k0 HLT.out, HM2⟩
    case round =>
      clear HM2
      obtain ⟨i, q, cb, m, xl, hi32, rfl, hq, rfl, rfl, HBU, HM⟩ := hrel
      by_cases hlt : i < 32
      · have hlt2 : (i : Int) < 32 := by omega
        obtain ⟨K, hK⟩ : ∃ K, k0 + i = K := ⟨_, rfl⟩
        have hK2 : (k0 : Int) + (i : Int) = (K : Int) := by omega
        have hK3 : K < 1632 := by omega
        obtain ⟨J, hJ⟩ : ∃ J, K / 8 = J := ⟨_, rfl⟩
        obtain ⟨R, hR⟩ : ∃ R, K % 8 = R := ⟨_, rfl⟩
        have hJ2 : (K : Int) / 8 = (J : Int) := by omega
        have hR2 : (K : Int) % 8 = (R : Int) := by omega
        have hR8 : R < 8 := by omega
        by_cases hbit : q % 2 = 1
        · have hb2 : (q : Int) % 2 = 1 := by omega
          by_cases hJn : J < n
          · have hJn2 : (J : Int) < (n : Int) := by omega
            have hjl : J < xl.length := by rw [HBU.out.len, HLEN.out]; exact hJn
            have hBU : Burst l (xl.set J (xl[J] ^^^ 2 ^ R)) k0 (i + 1) true (m ^^^ unitW i) := by
              subst hK hJ hR
              exact HBU.out.flip hlt hjl
            have hx := HBU.out.lt _ (List.getElem_mem hjl)
            obtain ⟨g, rfl, hg, hc, hf, hset⟩ := mine_write HM.out J hJn hjl
            have HSET := Lib.hid (hset (xl[J] ^^^ 2 ^ R))
            have HBU2 := Lib.hid hBU
            have hPl : 2 ^ R < 256 := Nat.pow_lt_pow_right (a := 2) (m := R) (n := 8) (by decide) hR8
            have hP : (2 : Int) ^ R % 256 = ((2 ^ R : Nat) : Int) := by
              rw [show (2 : Int) ^ R = ((2 ^ R : Nat) : Int) from by simp]
              exact Int.emod_eq_of_lt (Int.natCast_nonneg _) (Int.ofNat_lt.2 hPl)
            have HX := Lib.hid (u8_xor_nat xl[J] (2 ^ R) hx hPl)
            clear hBU hset HBU HM
            generalize xl[J] = x at *
            go_upto_region 13 with (fail)
            rw [show (2 : Int) ^ R = ((2 ^ R : Nat) : Int) from by simp, HX.out]
            generalize x ^^^ 2 ^ R = y at *
            generalize wr.setCell { block := g, off := J } (Value.int IntKind.u8 (y : Int)) = w3 at *
            go_wp2
            go_roundw
            case rel => exact ⟨i + 1, q / 2, true, _, _, by omega, by go_num, by omega, rfl, by go_num, HBU2, HSET⟩
            case measure => simp [intOf]; omega
          · have hJn2 : ¬ (J : Int) < (n : Int) := by omega
            go_wp2
            go_roundw
            case rel => exact ⟨i + 1, q / 2, cb, m, xl, by omega, by go_num, by omega, rfl, by go_num, HBU.out.skip, HM⟩
            case measure => simp [intOf]; omega
        · have hb2 : (q : Int) % 2 = 0 := by omega
          go_wp2
          go_roundw
          case rel => exact ⟨i + 1, q / 2, cb, m, xl, by omega, by go_num, by omega, rfl, by go_num, HBU.out.skip, HM⟩
          case measure => simp [intOf]; omega
      · obtain rfl : i = 32 := by omega
        have hD := HBU.out.done
        obtain ⟨V', c', e', hr2⟩ := Reads.of_own HM.out.1 (fun x hx => wf_u8.2 (HBU.out.lt x hx))
        cases e'
        have hb2 := HM.out.2
        have HR2 := Lib.hid hr2
        have HR3 := Lib.hid (HR1.out.keep hb2)
        have hbel := hb1.trans (hb2.mono hb1.size)
        clear hr2 HBU HM
        go_wp2_with fail
        refine (sum_c V n cV xl wr HR2.out).mono ?_
        rintro en w4 ⟨rfl, rfl⟩
        generalize moreW 0#32 xl = sx at *
        go_wp2_with fail
        refine (sum_c A n c l wr HR3.out).mono ?_
        rintro en w4 ⟨rfl, rfl⟩
        generalize moreW 0#32 l = sl at *
        by_cases he : sx = sl
        · have hc : cb = false := hD.1 he
          subst he hc
          clear hD
          go_wp2
          go_ret
          exact ⟨rfl, hbel⟩
        · have hc : cb = true := by
            cases cb
            · exact absurd (hD.2 rfl) he
            · rfl
          subst hc
          have hne : ((sx.toNat : Int) == (sl.toNat : Int)) = false := by
            rw [beq_eq_false_iff_ne]
            intro e
            exact he (BitVec.eq_of_toNat_eq (by omega))
          have hne2 : ((sx.toNat : Int) != (sl.toNat : Int)) = true := by rw [bne, hne]; rfl
          clear hD he
          go_wp2
          go_ret
          exact ⟨rfl, hbel⟩
end Go.Proofs.Ytnfjghihjpdpiaa.crcBursts
