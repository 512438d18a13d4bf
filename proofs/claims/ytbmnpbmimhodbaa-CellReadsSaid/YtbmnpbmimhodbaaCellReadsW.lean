/- The walk through CellReads: for every bytes and number it returns true and leaves old memory as it was. Conditions: none. -/
import Derived.Test.YtbmnpbmimhodbaaAwake9
import Derived.Test.YtbmnpbmimhodbaaCellRR
namespace Go.Proofs.Ytbmnpbmimhodbaa.cellReads
open Go.ChangeShapes Go.WideShapes Go.RowKit
set_option maxRecDepth 100000 in
set_option maxHeartbeats 3200000 in
theorem walk (A : Option Addr) (n c : Nat) (b : List Nat) (N : Int) (w : World) (hr : Reads .u8 w A n c b) (hN : (Lit.int .i64 N).wf = true) :
    Calls Try.prog 6 #[.slice A n c, .int .i64 N] w fun e w' => e = .returned (.bool true) ∧ Below w.heap.size w w' := by
  have HR := Lib.hid hr
  have hrg := range_i64 N hN
  clear hr hN
  by_cases hn : 200 < n
  · have hn2 : decide ((200 : Int) < (n : Int)) = true := by simp; omega
    go_enter Try.func6, Try.ntmps6
    go_wp2_with fail
    refine (awake9_c w).mono ?_
    rintro en w1 ⟨rfl, hb1⟩
    go_wp2
    go_ret
    exact ⟨rfl, hb1⟩
  have hn2 : decide ((200 : Int) < (n : Int)) = false := by simp; omega
  by_cases hm : 300 < N
  · have hm2 : decide (300 < N) = true := by simp; omega
    go_enter Try.func6, Try.ntmps6
    go_wp2_with fail
    refine (awake9_c w).mono ?_
    rintro en w1 ⟨rfl, hb1⟩
    go_wp2
    go_ret
    exact ⟨rfl, hb1⟩
  have hm2 : decide (300 < N) = false := by simp; omega
  have HBL := Lib.hid HR.out.len
  go_enter Try.func6, Try.ntmps6
  go_wp2_with fail
  refine (awake9_c w).mono ?_
  rintro en w1 ⟨rfl, hb1⟩
  have HR1 := Lib.hid (HR.out.keep hb1)
  go_wp2_with fail
  refine (newReader_c A n c b w1 HR1.out (by omega)).mono ?_
  rintro en w2 ⟨g, D, rfl, hg2, hD2, hA2, hb2⟩
  have HRd := Lib.hid (read_c g D N (b, 0) w2 hA2 (by omega) (by omega))
  obtain ⟨RES, hRES⟩ : ∃ r, Hid (readC N.toNat N [] (b, 0) = r) := ⟨_, rfl⟩
  rw [hRES.out] at HRd
  have HB12 := Lib.hid hb2
  have HB1 := Lib.hid hb1
  clear hA2 hb1 hb2
  go_wp2_with fail
  refine HRd.out.mono ?_
  rintro en w3 ⟨X, xm, xd, rfl, hX3, _, hA3, hk3⟩
  have hb13 : Below w1.heap.size w1 w3 := hk3.below HB12.out HB12.out.size (fun i hi => by subst hi; exact hg2)
  have HX3 := Lib.hid hX3
  have HA3 := Lib.hid hA3
  have HRf := Lib.hid (refReadC_c A n c b N w3 (HR1.out.keep hb13) (by omega) (by omega))
  rw [hRES.out] at HRf
  have HB3 : Hid (Below w.heap.size w w3) := HB1.out.trans (hb13.mono HB1.out.size)
  clear hX3 hA3 hk3 hb13 HB12 HRd
  go_wp2_with fail
  refine HRf.out.mono ?_
  rintro en w4 ⟨V, m, d, a, rfl, hV4, ha, hb4⟩
  have HA4 := Lib.hid (HA3.out.below hb4)
  have HX4 := HX3.out.keep hb4
  have HS := Lib.hid (sameC_c X V xm xd m d (cellsL RES.1) (cellsL RES.1) w4 HX4 hV4)
  rw [decide_eq_true rfl] at HS
  have HB4 : Hid (Below w.heap.size w w4) := HB3.out.trans (hb4.mono HB3.out.size)
  have HE := Lib.hid (rerr_c g D RES.2 w4 HA4.out)
  obtain ⟨bs, er⟩ := RES
  obtain ⟨rest, er⟩ := er
  simp only at HE HA4 ha
  clear HX4 hV4 hb4 HA3 HX3 HB3
  by_cases he : er = 0
  · subst he
    have ha2 := ha rfl
    have hlen : rest.length ≤ 9223372036854775807 := by have := HA4.out.len; unfold maxLen at this; simp only at this; omega
    have hae : (n : Int) - a = (rest.length : Int) := by rw [ha2, HBL.out]; omega
    have f1 : IntKind.i64.wrap ((n : Int) - a) = (rest.length : Int) := by rw [IntWalk.i64_in _ (by omega)]; exact hae
    have f2 : wrap64 ((n : Int) - a) = (rest.length : Int) := by rw [IntWalk.wrap64_in _ (by omega)]; exact hae
    have HA5 := Lib.hid ha2
    clear ha ha2 hae
    go_wp2_with fail
    refine HE.out.mono ?_
    rintro en w5 ⟨rfl, rfl⟩
    go_wp2_with fail
    refine HS.out.mono ?_
    rintro en w6 ⟨rfl, k6, rfl⟩
    have HLf := Lib.hid (rleft_c g D (rest, 0) (w4.drewN k6) (HA4.out.of_heap rfl))
    simp only at HLf
    go_wp2_with fail
    refine HLf.out.mono ?_
    rintro en w7 ⟨rfl, rfl⟩
    go_wp2
    go_ret
    exact ⟨rfl, belowDrewN HB4.out _⟩
  · have f1 : (er != 0) = true := by rw [bne_iff_ne]; exact he
    clear ha he
    go_wp2_with fail
    refine HE.out.mono ?_
    rintro en w5 ⟨rfl, rfl⟩
    go_wp2_with fail
    refine HS.out.mono ?_
    rintro en w6 ⟨rfl, k6, rfl⟩
    go_wp2
    go_ret
    exact ⟨rfl, belowDrewN HB4.out _⟩
end Go.Proofs.Ytbmnpbmimhodbaa.cellReads
