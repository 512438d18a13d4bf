/- What Ends and Bytes of the reference of layer 9 return, as walks through the translated text. Conditions: slices read as lists of cells, the cells are valid, at most 2^30 of them. -/
import Derived.Test.YtbmnpbmimhodbaaCellW
import Derived.Test.YtbmnpbmimhodbaaCodecR
namespace Go.Proofs.Ytbmnpbmimhodbaa
open Go.ChangeShapes Go.WideShapes Go.RowKit
def endsB (l : List CellV) (i : Nat) : Bool := decide (l[i + 1]? ≠ l[i]?)
set_option maxHeartbeats 1600000 in
theorem ends_c (A : Option Addr) (n c : Nat) (l : List CellV) (i : Nat) (w : World) (hr : ReadsS cellV 4 w A n c l) (hi : i < n) (hn : n ≤ 1099511627776) :
    Calls Try.prog 33 #[.slice A n c, .int .i64 (i : Int)] w fun en w' => en = .returned (.bool (endsB l i)) ∧ ∃ k, w' = w.drewN k := by
  have hl := hr.len
  have hil : i < l.length := by omega
  obtain ⟨ad, rfl, hlt, hca⟩ := hr.cell i hil
  obtain ⟨x, HX⟩ : ∃ x, Hid (l[i] = x) := ⟨l[i], rfl⟩
  rw [HX.out] at hca
  obtain ⟨a0, a1, a2, a3⟩ := four hca
  obtain ⟨p, hp⟩ : ∃ p, Hid (i + 1 = p) := ⟨_, Lib.hid rfl⟩
  have g1 : IntKind.i64.wrap ((i : Int) + 1) = (p : Int) := by rw [IntWalk.i64_in _ (by omega), ← hp.out]; omega
  have hi0 : (0 : Int) ≤ (i : Int) := by omega
  have hi1 : (i : Int) < (n : Int) := by omega
  by_cases h : p = n
  · have hb : Hid (endsB l i = true) := by
      show _ = _
      rw [endsB, decide_eq_true_eq, List.getElem?_eq_none (by have := hp.out; omega), List.getElem?_eq_getElem hil]
      simp
    rw [hb.out]
    subst h
    clear hca hr hl hil HX
    go_enter Try.func33, Try.ntmps33
    go_wp2_with fail
    go_quiet (fail)
    go_wp2
    go_ret
    exact ⟨rfl, _, rfl⟩
  · have hpl : p < l.length := by have := hp.out; omega
    obtain ⟨y, HY⟩ : ∃ x, Hid (l[p] = x) := ⟨l[p], rfl⟩
    have hcb := hr.at p hpl
    rw [HY.out] at hcb
    obtain ⟨b0, b1, b2, b3⟩ := four hcb
    have hb : Hid (endsB l i = !decide (y = x)) := by
      show _ = _
      rw [endsB, hp.out, List.getElem?_eq_getElem hpl, List.getElem?_eq_getElem hil, HX.out, HY.out]
      simp
    rw [hb.out]
    have g2 : ((p : Int) == (n : Int)) = false := by rw [beq_eq_false_iff_ne]; omega
    have g3 : (p == n) = false := by rw [beq_eq_false_iff_ne]; exact h
    have hi2 : (p : Int) < (n : Int) := by omega
    have hi3 : (0 : Int) ≤ (p : Int) := by omega
    have heq := fun W => run_eq_cell W y x
    obtain ⟨b, hbb⟩ : ∃ b, Hid (decide (y = x) = b) := ⟨_, rfl⟩
    rw [hbb.out] at heq ⊢
    simp only [cellV] at heq
    clear hca hr hl h hil HX HY hcb hb hbb hpl
    go_enter Try.func33, Try.ntmps33
    go_wp2_with fail
    go_quiet (fail)
    go_wp2
    go_ret
    exact ⟨rfl, _, rfl⟩
/-- Behind i cells: the runs rs are closed, and n cells of an open one are counted. -/
def BInv (l : List CellV) (i n : Nat) (rs : List RunV) : Prop :=
  (n = 0 ∧ runsL (l.take i) = rs ∧ (i = 0 ∨ l[i - 1]? ≠ l[i]?)) ∨ (0 < n ∧ ∃ c, l[i]? = some c ∧ runsL (l.take i) = rs ++ [((n : Int), c)])
theorem binv_step {l : List CellV} {i n : Nat} {rs : List RunV} (h : BInv l i n rs) (hi : i < l.length) : runsL (l.take (i + 1)) = rs ++ [(((n + 1 : Nat) : Int), l[i])] := by
  rw [List.take_succ_eq_append_getElem hi, runsL_snoc]
  rcases h with ⟨rfl, h1, h2⟩ | ⟨_, c, h1, h2⟩
  · rw [h1]
    rcases h2 with rfl | h2
    · have : rs = [] := by rw [← h1]; rfl
      subst this
      rfl
    · rcases Nat.eq_zero_or_pos i with rfl | h0
      · have : rs = [] := by rw [← h1]; rfl
        subst this
        rfl
      · obtain ⟨q, rfl⟩ : ∃ q, i = q + 1 := ⟨i - 1, by omega⟩
        have hq : q < l.length := by omega
        obtain ⟨r2, k, hk, _, _⟩ := runsL_end (l.take q) l[q]
        rw [← List.take_succ_eq_append_getElem hq, h1] at hk
        rw [hk, addRun_other]
        · rfl
        · intro e
          refine h2 ?_
          rw [Nat.add_sub_cancel, List.getElem?_eq_getElem hq, List.getElem?_eq_getElem hi, e]
  · rw [h2]
    rw [List.getElem?_eq_getElem hi] at h1
    rw [← Option.some.inj h1, addRun_same]
    simp
theorem binv_ends {l : List CellV} {i n : Nat} {rs : List RunV} (h : BInv l i n rs) (hi : i < l.length) (he : endsB l i = true) : BInv l (i + 1) 0 (rs ++ [(((n + 1 : Nat) : Int), l[i])]) := by
  rw [endsB, decide_eq_true_eq] at he
  exact .inl ⟨rfl, binv_step h hi, .inr (fun e => he (by rw [Nat.add_sub_cancel] at e; exact e.symm))⟩
theorem binv_goes {l : List CellV} {i n : Nat} {rs : List RunV} (h : BInv l i n rs) (hi : i < l.length) (he : endsB l i = false) : BInv l (i + 1) (n + 1) rs := by
  rw [endsB, decide_eq_false_iff_not] at he
  refine .inr ⟨by omega, l[i], ?_, binv_step h hi⟩
  rw [← List.getElem?_eq_getElem hi]
  exact Classical.not_not.1 he
theorem binv_end {l : List CellV} {n : Nat} {rs : List RunV} (h : BInv l l.length n rs) : runsL l = rs := by
  rcases h with ⟨_, h1, _⟩ | ⟨_, c, h1, _⟩
  · rw [List.take_length] at h1
    exact h1
  · simp at h1
/-- The inner loop's: the row holds P, the five numbers lie in block z, outside the row. -/
structure InB (w wr : World) (z : Nat) (ns : List Nat) (v : Value) (P : List Nat) : Prop where
  mine : Mine w wr 5 v P.length (ints .u8 P)
  blk : Blk wr z 3 (ints .i64 ns)
  off : ∀ g, v.ownBlock = some g → g ≠ z
def natsR (x : RunV) : List Nat := (numsR x).map Int.toNat
theorem runB_nats (x : RunV) : runB x = (natsR x).flatMap numL := by simp [runB, natsR, numsR]
theorem natsR_ints {x : RunV} (h : okR x) : [.int .i64 x.1, .int .i64 x.2.1, .int .i64 x.2.2.1, .int .i64 x.2.2.2.1, .int .i64 x.2.2.2.2] = ints .i64 (natsR x) := by
  have e : ∀ n ∈ numsR x, ((n.toNat : Nat) : Int) = n := fun n hn => Int.toNat_of_nonneg (h n hn).1
  simp only [numsR, List.mem_cons, List.not_mem_nil, or_false, forall_eq_or_imp, forall_eq] at e
  simp only [ints, natsR, numsR, List.map_cons, List.map_nil, e.1, e.2.1, e.2.2.1, e.2.2.2.1, e.2.2.2.2]
theorem natsR_lt {x : RunV} (h : okR x) : ∀ y ∈ natsR x, y < 72057594037927936 := by
  intro y hy
  obtain ⟨n, hn, rfl⟩ := List.mem_map.1 hy
  have := (h n hn).2
  have := (h n hn).1
  omega
set_option maxHeartbeats 3200000 in
theorem refBytesC_c (A : Option Addr) (n c : Nat) (l : List CellV) (w : World) (hr : ReadsS cellV 4 w A n c l) (hok : l.all okC = true) (hn : n ≤ 1073741824) :
    Calls Try.prog 21 #[.slice A n c] w (RowPost w 5 ((runsL l).flatMap runB).length (ints .u8 ((runsL l).flatMap runB))) := by
  obtain ⟨i0, hi, hz0, hz1, hz2⟩ := info_parts infoU8
  have HL := Lib.hid hr.len
  have H := Lib.hid hr
  have HOK := Lib.hid (List.all_eq_true.1 hok)
  clear hr hok
  go_enter Try.func21, Try.ntmps21
  go_wp2
  go_loopw [3, 4, 5] (fun v t i wr => ∃ (j q : Nat) (rs : List RunV), j ≤ n ∧ q ≤ j ∧ i = .int .i64 j ∧ t = .int .i64 q ∧ Hid (BInv l j q rs) ∧ Hid (Mine w wr 5 v (rs.flatMap runB).length (ints .u8 (rs.flatMap runB))) ∧ Hid ((rs.flatMap runB).length ≤ 40 * j)) (fun _ _ i _ => n - (intOf i).toNat)
  case atStart => exact ⟨0, 0, [], Nat.zero_le _, Nat.le_refl _, rfl, rfl, Lib.hid (.inl ⟨rfl, rfl, .inl rfl⟩), ⟨World.ownsRow_nil _ _ _ _, Below.refl _ _⟩, Nat.zero_le _⟩
  case round =>
    obtain ⟨j, q, rs, hj, hq, rfl, rfl, hI, hM, hlen⟩ := hrel
    by_cases hlt : j < n
    · have hjl : j < l.length := by rw [HL.out]; exact hlt
      have hR1 := H.out.keep hM.out.2
      have HE := ends_c A n c l j wr hR1 hlt (by omega)
      have hlt2 : (j : Int) < (n : Int) := by omega
      have hj0 : (0 : Int) ≤ (j : Int) := by omega
      cases he : endsB l j
      · rw [he] at HE
        have HE' := Lib.hid HE
        have HI := Lib.hid (binv_goes hI.out hjl he)
        clear HE he hR1
        go_wp2_with fail
        refine HE'.out.mono ?_
        rintro en w2 ⟨rfl, k2, rfl⟩
        go_wp2
        go_roundw
        case rel => exact ⟨j + 1, q + 1, rs, by omega, by omega, by go_num, by go_num, HI, mine_drewN hM.out k2, Lib.hid (by have := hlen.out; omega)⟩
        case measure => simp [intOf]; omega
      · rw [he] at HE
        have HE' := Lib.hid HE
        have HI := Lib.hid (binv_ends hI.out hjl he)
        obtain ⟨ad, rfl, hadlt, hca⟩ := hR1.cell j hjl
        obtain ⟨x, HX⟩ : ∃ x, Hid (l[j] = x) := ⟨l[j], rfl⟩
        rw [HX.out] at hca HI
        obtain ⟨a0, a1, a2, a3⟩ := four hca
        have hx : okC x = true := by rw [← HX.out]; exact HOK.out _ (List.getElem_mem hjl)
        have hxr : okR (((q + 1 : Nat) : Int), x) := okR_of (by show okN ((q + 1 : Nat) : Int); unfold okN; omega) hx
        have hxn := okC_nums hx
        have hwr : wrap64 x.1 = x.1 := IntWalk.wrap64_in _ (by have := hxn.1; unfold okN at this; omega)
        have HCA := Lib.hid hca
        have HXR := Lib.hid hxr
        clear HE he hR1 hca hx hxr hxn
        go_wp2_with fail
        refine HE'.out.mono ?_
        rintro en w2 ⟨rfl, k2, rfl⟩
        go_upto_region 8 with (fail)
        refine name_wp (fun w3 => (∀ j' u, (cellV x)[j']? = some u → w3.cell? ((ad.add (j * 4)).add j') = some u) ∧ Mine w w3 5 u3 (rs.flatMap runB).length (ints .u8 (rs.flatMap runB)) ∧ ad.block < w3.heap.size) ⟨HCA.out, mine_drewN hM.out k2, hadlt⟩ ?_
        rintro w3 ⟨hca3, hM3, had3⟩
        obtain ⟨b0, b1, b2, b3⟩ := four hca3
        have b4 : w3.cell? ⟨(ad.add (j * 4)).block, (ad.add (j * 4)).off + 1 + 1, none⟩ = _ := b2
        have b5 : w3.cell? ⟨(ad.add (j * 4)).block, (ad.add (j * 4)).off + 1 + 2, none⟩ = _ := b3
        clear a0 a1 a2 a3 hM HCA HE'
        go_upto_region 9 with (fail)
        refine name_wp (fun w4 => Blk w4 w3.heap.size 23 [.int .i64 x.2.1, .int .i64 x.2.2.1, .int .i64 x.2.2.2] ∧ Below w3.heap.size w3 w4) ⟨Blk.new _ _ _, alloc_below' _ _⟩ ?_
        rintro w4 ⟨hB4, hb4⟩
        have c0 : w4.cell? (ad.add (j * 4)) = _ := (hb4.cell (by rw [block_add]; exact had3)).trans b0
        have p0 : w4.cell? ⟨w3.heap.size, 0, none⟩ = _ := hB4.cell 0
        have p1 : w4.cell? ⟨w3.heap.size, 1, none⟩ = _ := hB4.cell 1
        have p2 : w4.cell? ⟨w3.heap.size, 2, none⟩ = _ := hB4.cell 2
        simp only [List.getElem?_cons_zero, List.getElem?_cons_succ] at p0 p1 p2
        have HM4 := Lib.hid (mine_below hM3 hb4)
        clear b0 b1 b2 b3 b4 b5 hM3 hca3 hB4 hb4
        generalize w3.heap.size = z at *
        go_region
        go_wp2_with fail
        rw [hwr]
        clear hwr
        have hnat := natsR_ints HXR.out
        have hnlt := natsR_lt HXR.out
        obtain ⟨ns, hns⟩ : ∃ ns, Hid (natsR (((q + 1 : Nat) : Int), x) = ns) := ⟨_, rfl⟩
        rw [hns.out] at hnat hnlt
        have HN5 : Hid (ns.length = 5) := by show _ = _; rw [← hns.out]; rfl
        refine name_wp (fun w5 => Blk w5 w4.heap.size 3 (ints .i64 ns) ∧ Below w4.heap.size w4 w5) ⟨?_, ?_⟩ ?_
        · rw [← hnat]
          exact Blk.new _ _ _
        · exact (alloc_below' _ _).drew
        rintro w5 ⟨hB5, hb5⟩
        obtain ⟨P, hP⟩ : ∃ P, Hid (rs.flatMap runB = P) := ⟨_, rfl⟩
        rw [hP.out] at HM4 hlen
        have HI5 : Hid (InB w w5 w4.heap.size ns u3 (P ++ ((ns.take 0).flatMap numL))) := by
          show InB _ _ _ _ _ _
          simp only [List.take_zero, List.flatMap_nil, List.append_nil]
          exact ⟨mine_below HM4.out hb5, hB5, fun g hg => Nat.ne_of_lt (own_lt HM4.out.1 g hg)⟩
        have HNL := Lib.hid hnlt
        clear HM4 hB5 hb5 hnat c0 p0 p1 p2 hnlt had3 hadlt wr k2
        generalize w4.heap.size = zs at *
        clear w3 w4
        go_loopw [3, 41] (fun v i wr => ∃ t : Nat, t ≤ 5 ∧ i = .int .i64 t ∧ Hid (InB w wr zs ns v (P ++ ((ns.take t).flatMap numL))) ∧ Hid (((ns.take t).flatMap numL).length ≤ 8 * t)) (fun _ i _ => 5 - (intOf i).toNat)
        case atStart => exact ⟨0, by decide, rfl, HI5, Nat.zero_le _⟩
        case round =>
          obtain ⟨t, ht, rfl, hS, hle⟩ := hrel
          by_cases ht5 : t < 5
          · have htl : t < ns.length := by rw [HN5.out]; exact ht5
            obtain ⟨y, HY⟩ : ∃ y, Hid (ns[t] = y) := ⟨ns[t], rfl⟩
            have hc : wr.cell? ⟨zs, t, none⟩ = some (.int .i64 (y : Int)) := by rw [hS.out.blk.cell t, ← HY.out]; simp [ints, htl]
            have hy : y < 72057594037927936 := by rw [← HY.out]; exact HNL.out _ (List.getElem_mem htl)
            have HCN := Lib.hid (refNumber_c y wr hy)
            have hyl := numL_len 7 y hy
            obtain ⟨Y, hY⟩ : ∃ Y, Hid (numL y = Y) := ⟨_, rfl⟩
            rw [hY.out] at HCN hyl
            obtain ⟨Q, hQ⟩ : ∃ Q, Hid (P ++ ((ns.take t).flatMap numL) = Q) := ⟨_, rfl⟩
            rw [hQ.out] at hS
            have hQl : Q.length ≤ 40 * j + 40 := by rw [← hQ.out, List.length_append]; have h1 := hle.out; have h2 := hlen.out; omega
            obtain ⟨L, hL⟩ : ∃ L, Hid (Q.length = L) := ⟨_, Lib.hid rfl⟩
            rw [hL.out] at hQl
            have hOw := hS.out.mine.1
            rw [hL.out] at hOw
            obtain ⟨B, dB, eV⟩ := own_form hOw
            subst eV
            have hYb : ∀ z ∈ Y, (Lit.int .u8 (z : Int)).wf = true := by rw [← hY.out]; exact fun z hz => wf_u8.2 (numL_byte y z hz)
            have HYb := Lib.hid hYb
            have HOw := Lib.hid hOw
            have ht2 : (t : Int) < 5 := by omega
            have ht0 : (0 : Int) ≤ (t : Int) := by omega
            clear hOw hYb
            go_wp2_with fail
            refine HCN.out.mono ?_
            rintro en w6 ⟨v6, rfl, hM6⟩
            obtain ⟨A6, c6, rfl, hr6⟩ := Reads.of_own hM6.1 HYb.out
            have HO6 := Lib.hid (mine_below (⟨HOw.out, hS.out.mine.2⟩ : Mine w wr 5 (.slice B L dB) L (ints .u8 Q)) hM6.2)
            have HB6 := Lib.hid (hS.out.blk.below hM6.2 hS.out.blk.lt)
            have HR6 := Lib.hid hr6
            have hS6 := hM6.2.size
            clear hr6 hM6
            obtain ⟨K, hK⟩ : ∃ K, Hid (Y.length = K) := ⟨_, Lib.hid rfl⟩
            rw [hK.out] at HR6 hyl ⊢
            go_wp2_with (at_builtin; refine wpList_appB rfl (.tmp 45) (.tmp 47) 38 rfl w.heap.size 5 i0 (.int .u8 0) 1 Try.underlying38 hi hz0 hz1 hz2 rfl (.slice B L dB) L (ints .u8 Q) rfl HO6.out.1 .u8 A6 K c6 Y rfl HR6.out (by unfold maxLen; omega) (by omega) (by have := HO6.out.2.size; omega) ?_; intro v7 w7 ho7 hg7 hat7; obtain ⟨A7, c7, rfl⟩ := own_form ho7)
            go_roundw
            case rel =>
              refine ⟨t + 1, by omega, by go_num, ?_, ?_⟩
              · show InB _ _ _ _ _ _
                rw [List.take_succ_eq_append_getElem htl, List.flatMap_append, ← List.append_assoc, hQ.out, HY.out]
                simp only [List.flatMap_cons, List.flatMap_nil, List.append_nil]
                rw [hY.out]
                refine ⟨⟨by rw [List.length_append, hL.out, hK.out, ints_append]; exact ho7, HO6.out.2.grown hg7 (HO6.out.2.size) (own_base HO6.out.1)⟩, HB6.out.grown hg7 (fun e => hS.out.off _ e.symm rfl), fun g hg => ?_⟩
                rcases hat7 with e | e
                · rw [e] at hg; exact hS.out.off g hg
                · rw [e] at hg
                  have h1 := hS.out.blk.lt
                  injection hg with hg
                  omega
              · show _ ≤ _
                rw [List.take_succ_eq_append_getElem htl, List.flatMap_append, List.length_append, HY.out]
                simp only [List.flatMap_cons, List.flatMap_nil, List.append_nil]
                rw [hY.out, hK.out]
                have := hle.out
                omega
            case measure => simp [intOf]; omega
          · obtain rfl : t = 5 := by omega
            have hfin : P ++ ((ns.take 5).flatMap numL) = (rs ++ [(((q + 1 : Nat) : Int), x)]).flatMap runB := by
              rw [List.take_of_length_le (by rw [HN5.out]; decide), List.flatMap_append, hP.out, List.flatMap_cons, List.flatMap_nil, List.append_nil, runB_nats, hns.out]
            have HF := Lib.hid hfin
            clear hfin
            go_wp2
            go_roundw
            case rel =>
              refine ⟨j + 1, 0, _, by omega, by omega, by go_num, rfl, HI, ?_, ?_⟩
              · show Mine _ _ _ _ _ _
                rw [← HF.out]
                exact hS.out.mine
              · show _ ≤ _
                rw [List.flatMap_append, hP.out, List.length_append, List.flatMap_cons, List.flatMap_nil, List.append_nil]
                have h1 := hlen.out
                have h2 := runB_le HXR.out
                omega
            case measure => simp [intOf]; omega
    · obtain rfl : j = n := by omega
      have hfin := hI.out
      rw [← HL.out] at hfin
      have hf2 := binv_end hfin
      have HF := Lib.hid hf2
      clear hfin hf2
      go_wp2
      go_ret
      refine ⟨_, rfl, ?_⟩
      rw [HF.out]
      exact hM.out
end Go.Proofs.Ytbmnpbmimhodbaa
