/- What the library's functions on slices of cells that package grid calls do (Clone, Equal, IndexFunc, ContainsFunc, Repeat), as walks through the translated text. Conditions: slices read as lists of cells, at most 2^40 of them. -/
import Derived.Test.YtgmfmhlboehdoaaGrid2
import Derived.Laws.Cover3
namespace Go.Proofs.Ytgmfmhlboehdoaa
open Go.ChangeShapes Go.WideShapes Go.RowKit
/-- New memory that holds n cells at its head. -/
structure NewRow (w w' : World) (g cap n : Nat) (f : Nat → CellV) : Prop where
  new : w.heap.size ≤ g
  room : n ≤ cap
  cap : cap ≤ maxLen
  row : RowAt w' g 38 n f
  bel : Below w.heap.size w w'
theorem row_of_own {w : World} {base n : Nat} {e : TypeId} {v : Value} {f : Nat → CellV} (h : w.ownsRow base e 4 v n ((tab n f).flatMap cellV)) (h0 : 0 < n) : ∃ g cap, v = .slice (some ⟨g, 0, none⟩) n cap ∧ base ≤ g ∧ n ≤ cap ∧ cap ≤ maxLen ∧ RowAt w g e n f := by
  rcases h.2 with ⟨_, hn⟩ | ⟨g, cap, cur, rfl, hb, hh, hn, hm, hs, ht⟩
  · omega
  · refine ⟨g, cap, rfl, hb, hn, hm, cur.toList, by unfold Blk; rw [hh], by simp [hs]; omega, fun i hi j u hu => ?_⟩
    have hj := cellV_lt hu
    have h1 := flatF_at length_cellV (tab n f) i j (by rw [length_tab]; exact hi) hj
    rw [tab_get, hu, ← ht, List.getElem?_take_of_lt (by omega)] at h1
    exact h1
/-- The cells of a slice, one behind the other. -/
theorem ReadsS.src {w : World} {ad : Addr} {n c : Nat} {f : Nat → CellV} (h : ReadsS cellV 4 w (some ad) n c (tab n f)) : ∀ j u, ((tab n f).flatMap cellV)[j]? = some u → w.cell? (ad.add j) = some u := by
  intro j v hv
  have hl : ((tab n f).flatMap cellV).length = n * 4 := by rw [length_flatF length_cellV, length_tab]
  have hj : j < n * 4 := by
    rcases Nat.lt_or_ge j (n * 4) with h | h
    · exact h
    · rw [List.getElem?_eq_none (by rw [hl]; exact h)] at hv; cases hv
  have hq : j / 4 < (tab n f).length := by rw [length_tab]; omega
  have e : j = j / 4 * 4 + j % 4 := by omega
  rw [e, flatF_at length_cellV _ _ _ hq (by omega)] at hv
  rw [e, ← add_add]
  exact h.at _ hq _ _ hv
def ClonePost (w : World) (n : Nat) (f : Nat → CellV) (en : Ending) (w' : World) : Prop := ∃ g cap, en = .returned (.slice (some ⟨g, 0, none⟩) n cap) ∧ NewRow w w' g cap n f
set_option maxHeartbeats 1600000 in
theorem clone_c (ad : Addr) (n c : Nat) (f : Nat → CellV) (w : World) (hr : ReadsS cellV 4 w (some ad) n c (tab n f)) (h1 : 1 ≤ n) (hn : n ≤ 1099511627776) :
    Calls Try.prog 44 #[.slice (some ad) n c] w (ClonePost w n f) := by
  obtain ⟨i0, hi, hz0, hz1, hz2⟩ := info_parts infoC
  have HS := Lib.hid hr.src
  have hlt := (hr.pos h1)
  obtain ⟨_, ea, hadlt⟩ := hlt
  cases ea
  clear hr
  have heq : ∀ W : World, (binOp .eql 29 (.slice (some ad) n c) (.slice none 0 0)).run Try.prog W = .ok (.bool false) W := by
    intro W
    simp only [binOp]
    simp [run_equal_slice_nil W 29 38 (some ad) n c Try.underlying29]
  go_enter Try.func44, Try.ntmps44
  go_wp2_with (at_builtin; refine wpList_append_own_at _ rfl (.tmp 5) (.tmp 6) 29 rfl w.heap.size 38 i0 _ 4 32 Try.underlying29 hi hz0 hz1 hz2 rfl (by decide) _ 0 [] rfl (World.ownsRow_made w #[] 0 (Nat.le_refl _) (by decide) rfl) ad n c ((tab n f).flatMap cellV) rfl (by rw [length_flatF length_cellV, length_tab]) (fun j u hu => ((alloc_below' w _).cell (by rw [block_add]; exact hadlt)).trans (HS.out j u hu)) (flatF_one one_cellV _) (by unfold maxLen; omega) (by omega) (by simp) ?_; intro v1 w1 ho1 hg1 _ hat1)
  obtain ⟨g, cap, rfl, hbg, hnc, hcm, hrow⟩ := row_of_own (n := n) (f := f) (by rw [Nat.zero_add, List.nil_append] at ho1; exact ho1) h1
  have HP : Hid (NewRow w w1 g cap n f) := ⟨hbg, hnc, hcm, hrow, ((alloc_below' w _).grown hg1 (by simp) (fun x hx => by cases hx; exact Nat.le_refl _))⟩
  clear ho1 hg1 hat1 hrow
  go_wp2
  go_ret
  exact ⟨_, _, rfl, HP.out⟩
set_option maxHeartbeats 800000 in
theorem equal_c (A B : Option Addr) (n c m d : Nat) (a b : List CellV) (w : World) (ha : ReadsS cellV 4 w A n c a) (hb : ReadsS cellV 4 w B m d b) :
    Calls Try.prog 42 #[.slice A n c, .slice B m d] w fun e w' => e = .returned (.bool (decide (a = b))) ∧ ∃ k, w' = w.drewN k := by
  have hn : n ≤ 9223372036854775807 := by have := ha.room; have := ha.cap; unfold maxLen at this; omega
  have hla := ha.len
  have hlb := hb.len
  by_cases hnm : n = m
  · subst hnm
    have Hla := Lib.hid hla
    have Hlb := Lib.hid hlb
    clear hla hlb
    go_enter Try.func42, Try.ntmps42
    go_wp2
    go_loopw [13] (fun i wr => ∃ j : Nat, j ≤ n ∧ i = .int .i64 j ∧ Hid (a.take j = b.take j) ∧ ∃ k, wr = w.drewN k) (fun i _ => n - (intOf i).toNat)
    case atStart => exact ⟨0, Nat.zero_le _, rfl, rfl, 0, rfl⟩
    case round =>
      obtain ⟨j, hj, rfl, hT, k, rfl⟩ := hrel
      by_cases hlt : j < n
      · have hja : j < a.length := by rw [Hla.out]; exact hlt
        have hjb : j < b.length := by rw [Hlb.out]; exact hlt
        obtain ⟨ad, rfl, _, hca⟩ := ha.cell j hja
        obtain ⟨bd, rfl, _, hcb⟩ := hb.cell j hjb
        have hlt2 : (j : Int) < (n : Int) := by omega
        have hj0 : (0 : Int) ≤ (j : Int) := by omega
        obtain ⟨a0, a1, a2, a3⟩ := four hca
        obtain ⟨b0, b1, b2, b3⟩ := four hcb
        clear hca hcb
        obtain ⟨x, HX⟩ : ∃ x, Hid (a[j] = x) := ⟨a[j], rfl⟩
        obtain ⟨y, HY⟩ : ∃ x, Hid (b[j] = x) := ⟨b[j], rfl⟩
        rw [HX.out] at a0 a1 a2 a3
        rw [HY.out] at b0 b1 b2 b3
        by_cases hxy : x = y
        · subst hxy
          go_wp2_with fail
          go_quiet (fail)
          go_wp2
          go_roundw
          case rel => exact ⟨j + 1, by omega, by go_num, takeC_succ hja hjb hT.out (HX.out.trans HY.out.symm), _, rfl⟩
          case measure => simp [intOf]; omega
        · have Hxy := Lib.hid hxy
          have heq := fun W => run_eq_cell W x y
          rw [decide_eq_false hxy] at heq
          simp only [cellV] at heq
          clear hxy
          go_wp2_with fail
          go_quiet (fail)
          go_wp2
          go_ret
          refine ⟨ret_bool ?_, _, World.drewN_drewN _ _ _⟩
          symm
          rw [decide_eq_false_iff_not]
          intro e
          subst e
          exact Hxy.out (HX.out.symm.trans HY.out)
      · go_wp2
        go_ret
        refine ⟨ret_bool ?_, _, rfl⟩
        symm
        rw [decide_eq_true_iff]
        have h1 : a.take j = a := List.take_of_length_le (by rw [Hla.out]; omega)
        have h2 : b.take j = b := List.take_of_length_le (by rw [Hlb.out]; omega)
        rw [← h1, ← h2]
        exact hT.out
  · have hne : ((n : Int) != (m : Int)) = true := by rw [bne_iff_ne]; omega
    have Hnm : Hid (a ≠ b) := by intro e; subst e; omega
    clear hla hlb hnm
    go_enter Try.func42, Try.ntmps42
    go_wp2
    go_ret
    exact ⟨ret_bool (by rw [eq_comm, decide_eq_false_iff_not]; exact Hnm.out), 0, rfl⟩
set_option maxHeartbeats 800000 in
theorem invalid_c (c : CellV) (w : World) : Calls Try.prog 41 #[.agg (cellV c).toArray] w (BoolPost w (!okC c)) := by
  obtain ⟨B, hO⟩ : ∃ B, Hid (okC c = B) := ⟨_, rfl⟩
  rw [hO.out]
  simp only [cellV]
  go_enter Try.func41, Try.ntmps41
  go_wp2_with fail
  refine name_Calls (fun w5 => Below w.heap.size w w5) (alloc_below' _ _) ?_
  intro w5 hb5
  refine (right_c c w5).mono ?_
  rw [hO.out]
  rintro en w6 ⟨rfl, hb6⟩
  have HB := Lib.hid (hb5.trans (hb6.mono hb5.size))
  clear hb5 hb6
  go_wp2
  go_ret
  exact ⟨rfl, HB.out⟩
set_option maxHeartbeats 1600000 in
theorem indexFunc_c (A : Option Addr) (n c : Nat) (l : List CellV) (w : World) (hr : ReadsS cellV 4 w A n c l) :
    Calls Try.prog 59 #[.slice A n c, .func (.func 41) #[] #[]] w fun e w' => ∃ r : Int, e = .returned (.int .i64 r) ∧ decide (0 ≤ r) = !l.all okC ∧ Below w.heap.size w w' := by
  have hn : n ≤ 9223372036854775807 := by have := hr.room; have := hr.cap; unfold maxLen at this; omega
  have HL := Lib.hid hr.len
  have H := Lib.hid hr
  clear hr
  go_enter Try.func59, Try.ntmps59
  go_wp2
  go_loopw [8] (fun i wr => ∃ j : Nat, j ≤ n ∧ i = .int .i64 j ∧ Hid ((l.take j).all okC = true) ∧ Hid (Below w.heap.size w wr)) (fun i _ => n - (intOf i).toNat)
  case atStart => exact ⟨0, Nat.zero_le _, rfl, rfl, Below.refl _ _⟩
  case round =>
    obtain ⟨j, hj, rfl, hT, hB⟩ := hrel
    by_cases hlt : j < n
    · have hjl : j < l.length := by rw [HL.out]; exact hlt
      obtain ⟨ad, rfl, _, hca⟩ := (H.out.keep hB.out).cell j hjl
      have hlt2 : (j : Int) < (n : Int) := by omega
      have hj0 : (0 : Int) ≤ (j : Int) := by omega
      obtain ⟨a0, a1, a2, a3⟩ := four hca
      clear hca
      obtain ⟨x, HX⟩ : ∃ x, Hid (l[j] = x) := ⟨l[j], rfl⟩
      rw [HX.out] at a0 a1 a2 a3
      go_wp2_with fail
      refine (invalid_c x _).mono ?_
      rintro en w6 ⟨rfl, hb6⟩
      have HB := Lib.hid (hB.out.trans (hb6.mono hB.out.size))
      clear hb6 a0 a1 a2 a3
      cases hx : okC x with
      | true =>
        go_wp2
        go_roundw
        case rel =>
          refine ⟨j + 1, by omega, by go_num, ?_, HB⟩
          show _ = _
          rw [List.take_succ_eq_append_getElem hjl, List.all_append, hT.out, HX.out]
          simp [hx]
        case measure => simp [intOf]; omega
      | false =>
        go_wp2
        go_ret
        refine ⟨_, rfl, ?_, HB.out⟩
        rw [show l.all okC = false from ?_]
        · simp
        · rw [List.all_eq_false]
          exact ⟨x, by rw [← HX.out]; exact List.getElem_mem hjl, by rw [hx]; decide⟩
    · obtain rfl : j = n := by omega
      go_wp2
      go_ret
      refine ⟨_, rfl, ?_, hB.out⟩
      have h1 : l.take j = l := List.take_of_length_le (by rw [HL.out]; omega)
      have h2 := hT.out
      rw [h1] at h2
      rw [h2]
      decide
set_option maxHeartbeats 800000 in
theorem containsFunc_c (A : Option Addr) (n c : Nat) (l : List CellV) (w : World) (hr : ReadsS cellV 4 w A n c l) :
    Calls Try.prog 40 #[.slice A n c, .func (.func 41) #[] #[]] w (BoolPost w (!l.all okC)) := by
  have HC := Lib.hid (indexFunc_c A n c l w hr)
  obtain ⟨B, hO⟩ : ∃ B, Hid ((!l.all okC) = B) := ⟨_, rfl⟩
  rw [hO.out]
  clear hr
  go_enter Try.func40, Try.ntmps40
  go_wp2_with fail
  refine HC.out.mono ?_
  rw [hO.out]
  rintro en w6 ⟨r, rfl, hd, hb6⟩
  have HB := Lib.hid hb6
  have HD := Lib.hid hd
  clear hb6 hd
  go_wp2
  go_ret
  exact ⟨ret_bool HD.out, HB.out⟩
end Go.Proofs.Ytgmfmhlboehdoaa
