/- The walk through CellBack: for every cells and bytes behind it returns true and leaves old memory as it was. Conditions: none. -/
import Derived.Test.YtbmnpbmimhodbaaAwake9
import Derived.Test.YtbmnpbmimhodbaaCellB
import Derived.Test.YtbmnpbmimhodbaaCellBk
import Derived.Test.YtbmnpbmimhodbaaOpen5
namespace Go.Proofs.Ytbmnpbmimhodbaa.cellBack
open Go.ChangeShapes Go.WideShapes Go.RowKit
theorem bytes_le (l : List CellV) (h : l.all okC = true) (hn : l.length ≤ 100) : ((runsL l).flatMap runB).length ≤ 4000 := by
  have h1 := take_flat_le (runsL l) (runsL l).length (fun x hx => by
    rcases runs_cell l x hx with ⟨h1, h2⟩ | h1
    · exact okR_of h2 (List.all_eq_true.1 h _ h1)
    · omega)
  rw [List.take_length] at h1
  have := runsL_len l
  omega
set_option maxRecDepth 100000 in
set_option maxHeartbeats 6400000 in
theorem walk (A : Option Addr) (n c : Nat) (l : List CellV) (B : Option Addr) (bn bc : Nat) (Bh : List Nat) (w : World) (hr : ReadsS cellV 4 w A n c l) (hf : ∀ x ∈ l, fitC x) (ho : Reads .u8 w B bn bc Bh) :
    Calls Try.prog 5 #[.slice A n c, .slice B bn bc] w fun e w' => e = .returned (.bool true) ∧ Below w.heap.size w w' := by
  obtain ⟨i0, hi, hz0, hz1, hz2⟩ := info_parts infoU8
  have HR := Lib.hid hr
  have HO := Lib.hid ho
  have HFit := Lib.hid hf
  clear hr ho hf
  by_cases hn : 100 < n
  · have hn2 : decide ((100 : Int) < (n : Int)) = true := by simp; omega
    go_enter Try.func5, Try.ntmps5
    go_wp2_with fail
    refine (awake9_c w).mono ?_
    rintro en w1 ⟨rfl, hb1⟩
    go_wp2
    go_ret
    exact ⟨rfl, hb1⟩
  have hn2 : decide ((100 : Int) < (n : Int)) = false := by simp; omega
  by_cases hm : 50 < bn
  · have hm2 : decide ((50 : Int) < (bn : Int)) = true := by simp; omega
    go_enter Try.func5, Try.ntmps5
    go_wp2_with fail
    refine (awake9_c w).mono ?_
    rintro en w1 ⟨rfl, hb1⟩
    go_wp2
    go_ret
    exact ⟨rfl, hb1⟩
  have hm2 : decide ((50 : Int) < (bn : Int)) = false := by simp; omega
  have HL := Lib.hid HR.out.len
  have HBL := Lib.hid HO.out.len
  go_enter Try.func5, Try.ntmps5
  go_wp2_with fail
  refine (awake9_c w).mono ?_
  rintro en w1 ⟨rfl, hb1⟩
  have HB1 := Lib.hid hb1
  clear hb1
  go_wp2
  go_loopw [5, 6] (fun r i wr => ∃ j : Nat, j ≤ n ∧ i = .int .i64 j ∧ r = .bool ((l.take j).all okC) ∧ Hid (Below w.heap.size w wr)) (fun _ i _ => n - (intOf i).toNat)
  case atStart => exact ⟨0, Nat.zero_le _, rfl, rfl, HB1⟩
  case round =>
    obtain ⟨j, hj, rfl, rfl, hB⟩ := hrel
    by_cases hlt : j < n
    · have hjl : j < l.length := by rw [HL.out]; exact hlt
      have hR1 := HR.out.keep hB.out
      obtain ⟨ad, rfl, hadlt, hca⟩ := hR1.cell j hjl
      obtain ⟨x, HX⟩ : ∃ x, Hid (l[j] = x) := ⟨l[j], rfl⟩
      rw [HX.out] at hca
      obtain ⟨a0, a1, a2, a3⟩ := four hca
      have hlt2 : (j : Int) < (n : Int) := by omega
      have hj0 : (0 : Int) ≤ (j : Int) := by omega
      have hfx := HFit.out x (by rw [← HX.out]; exact List.getElem_mem hjl)
      have HC := Lib.hid (refRight_c x wr hfx.1)
      simp only [cellV] at HC
      have hall : (l.take (j + 1)).all okC = ((l.take j).all okC && okC x) := by rw [List.take_succ_eq_append_getElem hjl, List.all_append, HX.out]; simp
      have HAll := Lib.hid hall
      clear hca hR1 hall hfx
      cases hk : (l.take j).all okC
      · rw [hk] at HAll
        clear hk
        go_wp2
        go_roundw
        case rel =>
          refine ⟨j + 1, by omega, by go_num, ?_, hB⟩
          rw [HAll.out]
          rfl
        case measure => simp [intOf]; omega
      · rw [hk] at HAll
        clear hk
        go_wp2_with fail
        refine HC.out.mono ?_
        rintro en w3 ⟨rfl, hb3⟩
        have HB3 : Hid (Below w.heap.size w w3) := hB.out.trans (hb3.mono hB.out.size)
        go_wp2
        go_roundw
        case rel =>
          refine ⟨j + 1, by omega, by go_num, ?_, HB3⟩
          rw [HAll.out]
          simp
        case measure => simp [intOf]; omega
    · obtain rfl : j = n := by omega
      have ht : l.take j = l := List.take_of_length_le (by rw [HL.out]; omega)
      rw [ht]
      clear ht
      have HR1 := Lib.hid (HR.out.keep hB.out)
      have HO1 := Lib.hid (HO.out.keep hB.out)
      have hsz := hB.out.size
      clear HR HO HB1
      cases hall : l.all okC
      · have hcw : cellsW l = (1, []) := by simp only [cellsW, hall]; rfl
        clear hall
        go_wp2_with fail
        refine (newWriter_c wr).mono ?_
        rintro en w3 ⟨rfl, hA3, hb3⟩
        have HWr := Lib.hid (write_c _ _ _ A j c l w3 hA3 (HR1.out.keep hb3) (by omega) (by simp; omega))
        rw [hcw, wrote_fail _ _ rfl (by decide)] at HWr
        go_wp2_with fail
        refine HWr.out.mono ?_
        rintro en w4 ⟨⟨v4, rfl⟩, hA4, hk4⟩
        have hb4 : Below wr.heap.size wr w4 := hk4.below hb3 hb3.size (fun i hi => hi)
        have HBy := Lib.hid (wbytes_c _ _ _ w4 hA4 (by simp))
        clear hA3 hA4 hk4 hb3
        go_wp2_with fail
        refine HBy.out.mono ?_
        rintro en w5 ⟨V, m, d, rfl, hr5, _, hb5⟩
        obtain rfl : 0 = m := hr5.len
        clear hr5
        go_wp2
        go_ret
        exact ⟨rfl, hB.out.trans ((hb4.trans (hb5.mono hb4.size)).mono hsz)⟩
      · have hcw : cellsW l = (0, (runsL l).flatMap runB) := by simp only [cellsW, hall]; rfl
        have HBL2 := Lib.hid (bytes_le l hall (by rw [HL.out]; omega))
        have HBK := Lib.hid (readC_cells l Bh hall (by rw [HL.out]; omega))
        have HALL := Lib.hid hall
        obtain ⟨sb, hsb⟩ : ∃ b, Hid ((runsL l).flatMap runB = b) := ⟨_, rfl⟩
        rw [hsb.out] at hcw HBL2 HBK
        rw [HL.out] at HBK
        clear hall
        go_wp2_with fail
        refine (newWriter_c wr).mono ?_
        rintro en w3 ⟨rfl, hA3, hb3⟩
        have HWr := Lib.hid (write_c _ _ _ A j c l w3 hA3 (HR1.out.keep hb3) (by omega) (by simp; omega))
        rw [hcw, wrote_ok _ _ rfl, List.nil_append] at HWr
        go_wp2_with fail
        refine HWr.out.mono ?_
        rintro en w4 ⟨⟨v4, rfl⟩, hA4, hk4⟩
        have hb4 : Below wr.heap.size wr w4 := hk4.below hb3 hb3.size (fun i hi => hi)
        have HBy := Lib.hid (wbytes_c _ _ _ w4 hA4 (by have := HBL2.out; simp; omega))
        clear hA3 hA4 hk4 hb3
        go_wp2_with fail
        refine HBy.out.mono ?_
        rintro en w8 ⟨V, m, d, rfl, hr8, _, hb5⟩
        have hb8 : Below wr.heap.size wr w8 := hb4.trans (hb5.mono hb4.size)
        have HR8 := Lib.hid hr8
        have hm9 : m ≤ 4000 := by have := HBL2.out; rw [hr8.len] at this; exact this
        have HRc8 := Lib.hid (HR1.out.keep hb8)
        have HO8 := Lib.hid (HO1.out.keep hb8)
        have HB8 : Hid (Below w.heap.size w w8) := hB.out.trans (hb8.mono hsz)
        clear hr8 hb5 hb4 hb8 HR1 HO1 hB hsz hcw
        simp only at HR8
        go_wp2_with (first
          | (at_builtin; refine wpList_appB rfl (.tmp 54) (.tmp 55) 38 rfl w8.heap.size 5 i0 (.int .u8 0) 1 Try.underlying38 hi hz0 hz1 hz2 rfl _ 0 [] rfl (blk_own (Blk.new w8 5 []) rfl (Nat.le_refl _) (by decide)) .u8 V m d sb rfl (HR8.out.keep (alloc_below _ _)) (by unfold maxLen; omega) (by omega) (by simp) ?_; intro v1 w9 hown9 hgrow9 hat9; obtain ⟨A9, c9, rfl⟩ := own_form hown9; have hown9' : w9.ownsRow w8.heap.size 5 1 (.slice A9 m c9) m (ints .u8 sb) := (by simpa using hown9); have hbel9 : Below w8.heap.size w8 w9 := below_of_only (g := w8.heap.size) (alloc_below w8 _) hgrow9 (by simp) (Nat.le_refl _))
          | (at_builtin; refine wpList_appB rfl (.tmp 56) (.tmp 57) 38 rfl w8.heap.size 5 i0 (.int .u8 0) 1 Try.underlying38 hi hz0 hz1 hz2 rfl _ m _ rfl hown9' .u8 B bn bc Bh rfl (HO8.out.keep hbel9) (by unfold maxLen; omega) (by omega) hbel9.size ?_; intro v2 w10 hown10 hgrow10 hat10; obtain ⟨A10, c10, rfl⟩ := own_form hown10))
        have hbel10 : Below w8.heap.size w8 w10 := hbel9.grown hgrow10 hbel9.size (own_base hown9')
        have hown10' : w10.ownsRow w8.heap.size 5 1 (.slice A10 (m + bn) c10) (m + bn) (ints .u8 (sb ++ Bh)) := by simpa [ints_append] using hown10
        obtain ⟨A11, c11, e11, hr11⟩ := Reads.of_own hown10' (fun y hy => by rcases List.mem_append.1 hy with h | h; exact HR8.out.wf y h; exact HO8.out.wf y h)
        have e12 : A10 = A11 ∧ c10 = c11 := by simpa using e11
        obtain ⟨rfl, rfl⟩ := e12
        refine (newReader_c A10 (m + bn) c10 (sb ++ Bh) w10 hr11 (by omega)).mono ?_
        rintro en w11 ⟨g, D, rfl, hg11, hD11, hA11, hb11⟩
        have hb811 : Below w8.heap.size w8 w11 := hbel10.trans (hb11.mono hbel10.size)
        have HRd := Lib.hid (read_c g D (j : Int) (sb ++ Bh, 0) w11 hA11 (by omega) (by omega))
        rw [HBK.out] at HRd
        clear hown9 hown9' hgrow9 hat9 hown10 hgrow10 hat10 hbel9 hown10' e11 hr11 hA11
        have hs10 := hbel10.size
        clear hbel10
        go_wp2_with fail
        refine HRd.out.mono ?_
        rintro en w12 ⟨X, xm, xd, rfl, hX12, hXb, hA12, hk12⟩
        simp only at hX12 hA12
        rw [cells_runs] at hX12
        have hb812 : Below w8.heap.size w8 w12 := hk12.below hb811 hb811.size (fun i hi => by subst hi; omega)
        have HX12 := Lib.hid hX12
        have HA12 := Lib.hid hA12
        have HRc12 := Lib.hid (HRc8.out.keep hb812)
        have HR12 := Lib.hid (HR8.out.keep hb812)
        have HB12 : Hid (Below w.heap.size w w12) := HB8.out.trans (hb812.mono HB8.out.size)
        have HRB := Lib.hid (refBytesC_c A j c l w12 HRc12.out HALL.out (by omega))
        rw [hsb.out] at HRB
        clear hX12 hA12 hk12 hb812 hb811 hXb hb11 hg11 hD11 HRd
        go_wp2_with fail
        refine HRB.out.mono ?_
        rintro en w13 ⟨v13, rfl, hM13⟩
        obtain ⟨A13, c13, rfl, hr13⟩ := Reads.of_own hM13.1 (fun y hy => HR12.out.wf y hy)
        have hb13 := hM13.2
        obtain ⟨K, hK⟩ : ∃ K, Hid (sb.length = K) := ⟨_, Lib.hid rfl⟩
        rw [hK.out] at hr13 ⊢
        have HSm := Lib.hid (same_c V A13 m d K c13 sb sb w13 (HR12.out.keep hb13) hr13)
        rw [decide_eq_true rfl] at HSm
        have HA13 := Lib.hid (HA12.out.below hb13)
        have HX13 := Lib.hid (HX12.out.keep hb13)
        have HRc13 := Lib.hid (HRc12.out.keep hb13)
        have HB13 : Hid (Below w.heap.size w w13) := HB12.out.trans (hb13.mono HB12.out.size)
        clear hr13 hM13 hb13 HA12 HX12 HRc12 HB12
        go_wp2_with fail
        refine HSm.out.mono ?_
        rintro en w14 ⟨rfl, k14, rfl⟩
        have HE := Lib.hid (rerr_c g D (Bh, 0) (w13.drewN k14) (HA13.out.of_heap rfl))
        have HLf := Lib.hid (rleft_c g D (Bh, 0) (w13.drewN k14) (HA13.out.of_heap rfl))
        simp only at HE HLf
        rw [HBL.out] at HLf
        go_wp2_with fail
        refine HE.out.mono ?_
        rintro en w15 ⟨rfl, rfl⟩
        go_wp2_with fail
        refine HLf.out.mono ?_
        rintro en w15 ⟨rfl, rfl⟩
        have HS2 := Lib.hid (sameC_c X A xm xd j c l l (w13.drewN k14) (HX13.out.of_heap rfl) (HRc13.out.of_heap rfl))
        rw [decide_eq_true rfl] at HS2
        go_wp2_with fail
        refine HS2.out.mono ?_
        rintro en w16 ⟨rfl, k16, rfl⟩
        go_wp2
        go_ret
        exact ⟨rfl, belowDrewN HB13.out _⟩
end Go.Proofs.Ytbmnpbmimhodbaa.cellBack
