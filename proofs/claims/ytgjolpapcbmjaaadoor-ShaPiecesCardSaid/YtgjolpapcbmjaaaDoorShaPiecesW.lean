/- The walks of the statement ShaPieces: in whatever pieces a message comes, its digest, and that of each of its beginnings, is its own, asked twice or once. Conditions: the pieces read as lists of bytes; the table of the rounds' constants lies as the program lays it. -/
import Derived.Test.YtgjolpapcbmjaaaDoorAwake2
import Derived.Test.YtgjolpapcbmjaaaDoorShaR3
import Derived.Test.YtgjolpapcbmjaaaDoorShaEq
import Derived.Test.YtgjolpapcbmjaaaDoorOpen
namespace Go.Proofs.YtgjolpapcbmjaaaDoor.shaPieces
open Go.ChangeShapes Go.WideShapes Go.RowKit
theorem own_hash_ne {w : World} {base g : Nat} {e : TypeId} {v : Value} {n : Nat} {xs : List Value} {msg : List Nat} (h : w.ownsRow base e 1 v n xs) (hh : HashAt w g msg) (hne : e ≠ 60) : v.ownBlock ≠ some g := by
  obtain ⟨r, _, _, _, hb⟩ := hh.ex
  rcases h.2 with ⟨rfl, _⟩ | ⟨g', cap, cur, rfl, _, hg, _⟩
  · simp [Value.ownBlock]
  · intro e'
    have : g' = g := by simpa [Value.ownBlock] using e'
    subst this
    unfold Blk at hb
    rw [hg] at hb
    injection hb with hb
    injection hb with _ ht
    exact hne ht
theorem HashAt.grown {w w' : World} {g : Nat} {msg : List Nat} {row : Option Nat} (h : HashAt w g msg) (hb : w.grownBy w' row) (hne : some g ≠ row) : HashAt w' g msg := by
  obtain ⟨r, h1, h2, h3, h4⟩ := h.ex; exact ⟨r, h1, h2, h3, h4.grown hb hne⟩
theorem own_grown {w w' : World} {base : Nat} {e : TypeId} {v : Value} {n : Nat} {xs : List Value} {row : Option Nat} (h : w.ownsRow base e 1 v n xs) (hb : w.grownBy w' row) (hne : ∀ g, v.ownBlock = some g → some g ≠ row) : w'.ownsRow base e 1 v n xs := by
  refine ⟨h.1, ?_⟩
  rcases h.2 with h0 | ⟨g, cap, cur, rfl, h1, h2, h3⟩
  · exact .inl h0
  · refine .inr ⟨g, cap, cur, rfl, h1, ?_, h3⟩
    rw [hb.block g (by rcases Nat.lt_or_ge g w.heap.size with hlt | hge; exact hlt; rw [Array.getElem?_eq_none hge] at h2; cases h2) (hne g rfl)]
    exact h2
set_option maxHeartbeats 800000 in
theorem walk_big (A : Option Addr) (n c : Nat) (w : World) (kt : KT w) (hn : 10 < n) :
    Calls Tryd.prog 6 #[.slice A n c] w fun e w' => e = .returned (.bool true) ∧ Below w.heap.size w w' := by
  go_enter Tryd.func6, Tryd.ntmps6
  go_wp2_with fail
  refine (awake2_c _ kt).mono ?_
  rintro e w1 ⟨rfl, hb⟩
  go_wp2
  go_ret
  exact ⟨rfl, hb⟩
theorem all_wf {k : IntKind} {w : World} {A : Option Addr} {n c : Nat} {ls : List (List Nat)} (h : ReadsAll k w A n c ls) (j : Nat) : ∀ x ∈ (ls.take j).flatten, (Lit.int k (x : Int)).wf = true := by
  intro x hx
  obtain ⟨l, hl, hxl⟩ := List.mem_flatten.1 hx
  obtain ⟨i, hi, rfl⟩ := List.getElem_of_mem (List.mem_of_mem_take hl)
  obtain ⟨_, _, _, _, _, _, _, hr⟩ := h.row i hi
  exact hr.wf x hxl
theorem flat_succ (ls : List (List Nat)) (j : Nat) (h : j < ls.length) : (ls.take (j + 1)).flatten = (ls.take j).flatten ++ ls[j] := by
  rw [List.take_succ_eq_append_getElem h, List.flatten_append, List.flatten_cons, List.flatten_nil, List.append_nil]
set_option maxHeartbeats 3200000 in
theorem walk_small (A : Option Addr) (n c : Nat) (ls : List (List Nat)) (w : World) (kt : KT w) (hn : n ≤ 10) (hr : ReadsAll .u8 w A n c ls) :
    Calls Tryd.prog 6 #[.slice A n c] w fun e w' => e = .returned (.bool true) ∧ Below w.heap.size w w' := by
  obtain ⟨i0, hi, hz0, hz1, hz2⟩ := info_parts infoU8
  have HLL := Lib.hid hr.len
  have hkl := kt.lt
  go_enter Tryd.func6, Tryd.ntmps6
  go_wp2_with fail
  refine (awake2_c _ kt).mono ?_
  rintro e w1 ⟨rfl, hb1⟩
  have HKT := Lib.hid kt
  clear kt
  go_wp2_with fail
  refine (new_c _).mono ?_
  rintro e w2 ⟨g, rfl, hg, hh2, hb2⟩
  have hbw2 := hb1.trans (hb2.mono hb1.size)
  have hgw : w.heap.size ≤ g := Nat.le_trans hb1.size hg
  clear hb1 hb2 hg
  go_wp2_with fail
  go_loopw [4, 5] (fun v i wr => ∃ j m c : Nat, ∃ B, j ≤ n ∧ m ≤ 200 * j ∧ i = .int .i64 j ∧ v = .slice B m c ∧ Mine w wr 5 (.slice B m c) m (ints .u8 (ls.take j).flatten) ∧ HashAt wr g (ls.take j).flatten) (fun _ i _ => n - (intOf i).toNat)
  case atStart => exact ⟨0, 0, 0, none, Nat.zero_le _, by omega, rfl, rfl, ⟨⟨by simp [ints], .inl ⟨rfl, rfl⟩⟩, hbw2⟩, by simpa using hh2⟩
  case round =>
    clear hh2 hbw2
    obtain ⟨j, m, cB, B, hj, hm, rfl, rfl, hmine, hh⟩ := hrel
    by_cases hlt : j < n
    · have hjl : j < ls.length := by rw [HLL.out]; exact hlt
      obtain ⟨ad, R, m', cr, rfl, hadlt, hcell, hrow⟩ := hr.row j hjl
      have hcellr := (hmine.2.cell (p := ad.add j) (by rw [block_add]; exact hadlt)).trans hcell
      have hlt2 : (j : Int) < (n : Int) := by omega
      by_cases hbig : 200 < m'
      · have hbel := hmine.2
        clear hmine hh
        go_wp2
        go_ret
        exact ⟨rfl, hbel⟩
      · have hd : decide ((200 : Int) < (m' : Int)) = false := by simp; omega
        have hfl := flat_succ ls j hjl
        have hwf : ∀ x ∈ (ls.take j).flatten ++ ls[j], (Lit.int .u8 (x : Int)).wf = true := by rw [← hfl]; exact all_wf hr (j + 1)
        have HWF := Lib.hid hwf
        clear hwf
        have hoff : 0 < m' → Off R g := by
          intro h0 ad' e
          obtain ⟨ad2, e2, hl2, _⟩ := hrow.cell 0 (by rw [hrow.len]; exact h0)
          rw [e2] at e; cases e
          omega
        have hml : (ls.take j).flatten.length = m := by have := hmine.1.1; rw [length_ints] at this; omega
        have hrl := hrow.len
        generalize (ls.take j).flatten = msg at *
        generalize ls[j] = l at *
        have HFL := Lib.hid hfl
        have HM := Lib.hid hmine
        have HH := Lib.hid hh
        have HROW := Lib.hid hrow
        have HML := Lib.hid hml
        have HRL := Lib.hid hrl
        have HCELL := Lib.hid hcell
        clear hfl hmine hh hrow hml hrl hcell
        go_upto_region 15 with (at_builtin; refine wpList_app rfl (.tmp 26) (.tmp 30) 24 rfl w.heap.size 5 i0 (.int .u8 0) 1 Tryd.underlying24 hi hz0 hz1 hz2 rfl (.slice B m cB) m (ints .u8 msg) rfl HM.out.1 .u8 R m' cr l rfl (HROW.out.keep HM.out.2) (by unfold maxLen; omega) (by omega) HM.out.2.size ?_; intro v2 w2 hown2 hgrow2)
        obtain ⟨B2, c2, rfl⟩ := own_form hown2
        have hbel2 : Below w.heap.size w w2 := HM.out.2.grown hgrow2 HM.out.2.size (own_base HM.out.1)
        have hne := own_hash_ne HM.out.1 HH.out (by decide)
        have hh2 := HashAt.grown HH.out hgrow2 (fun e => hne e.symm)
        have hcell2 := (hbel2.cell (p := ad.add j) (by rw [block_add]; exact hadlt)).trans HCELL.out
        rw [← ints_append] at hown2
        have HO2 := Lib.hid hown2
        have HH2 := Lib.hid hh2
        clear hown2 hgrow2 hh2 hne HM HH hcellr
        go_wp2_with fail
        refine (write_c g R m' cr msg l _ HH2.out (HROW.out.keep hbel2) hoff (HKT.out.below hbel2) (by omega) (by rw [HML.out]; omega)).mono ?_
        rintro e w3 ⟨⟨v, rfl⟩, hh3, hg3⟩
        have hbel3 := below_of_only hbel2 hg3 hbel2.size hgw
        have hne := own_hash_ne HO2.out HH2.out (by decide)
        have ho3 := own_grown HO2.out hg3 (fun g' e e' => hne (by rw [e, e']))
        have HO3 := Lib.hid ho3
        have HH3 := Lib.hid hh3
        clear hh3 hg3 hne ho3 HO2 HH2 hbel2 hcell2
        have hmsg : (msg ++ l).length = m + m' := by rw [List.length_append, HML.out, HRL.out]
        have hmm : m + m' ≤ 200 * (j + 1) := by omega
        have hmm2 : m + m' ≤ 2200 := by omega
        have HMSG := Lib.hid hmsg
        clear hmsg
        generalize msg ++ l = ml at *
        go_wp2_with fail
        refine (hsum_c g ml _ HH3.out (HKT.out.below hbel3) (by rw [HMSG.out]; omega)).mono ?_
        rintro e w4 ⟨rfl, hb4⟩
        have hbel4 := hbel3.trans (hb4.mono hbel3.size)
        have hm4 := mine_below ⟨HO3.out, hbel3⟩ hb4
        have hh4 := HH3.out.below hb4
        obtain ⟨A4, c4, e4, hr4⟩ := Reads.of_own hm4.1 HWF.out
        cases e4
        have HR4 := Lib.hid hr4
        have HM4 := Lib.hid hm4
        have HH4 := Lib.hid hh4
        clear hb4 hm4 hh4 hr4 HO3 HH3 hbel3
        go_wp2_with fail
        refine (sum_c _ _ _ ml _ HR4.out (HKT.out.below hbel4) (by omega)).mono ?_
        rintro e w5 ⟨rfl, hb5⟩
        have hbel5 := hbel4.trans (hb5.mono hbel4.size)
        have HM5 := Lib.hid (mine_below HM4.out hb5)
        have HH5 := Lib.hid (HH4.out.below hb5)
        clear hb5 HM4 HH4 HR4 hbel4
        have heq : ∀ W : World, (Op.equalIn 10000 38 (.agg (ints .u8 (digestN ml)).toArray) (.agg (ints .u8 (digestN ml)).toArray)).run Tryd.prog W = .ok true W :=
          fun W => run_eq_ints W 9998 Tryd.underlying38 hi (by kernel_rfl) Tryd.underlying5 _ (length_digestN ml)
        have HEQ := Lib.hid heq
        clear heq
        go_wp2_with fail
        rw [HEQ.out]
        go_simp
        go_wp2_with fail
        refine (hsum_c g ml _ HH5.out (HKT.out.below hbel5) (by rw [HMSG.out]; omega)).mono ?_
        rintro e w6 ⟨rfl, hb6⟩
        have hbel6 := hbel5.trans (hb6.mono hbel5.size)
        have HM6 := Lib.hid (mine_below HM5.out hb6)
        have HH6 := Lib.hid (HH5.out.below hb6)
        clear hb6 HM5 HH5 hbel5
        go_wp2_with fail
        refine (hsum_c g ml _ HH6.out (HKT.out.below hbel6) (by rw [HMSG.out]; omega)).mono ?_
        rintro e w7 ⟨rfl, hb7⟩
        have hbel7 := hbel6.trans (hb7.mono hbel6.size)
        have HM7 := Lib.hid (mine_below HM6.out hb7)
        have HH7 := Lib.hid (HH6.out.below hb7)
        clear hb7 HM6 HH6 hbel6
        go_wp2_with fail
        rw [HEQ.out]
        go_simp
        go_wp2_with fail
        refine (len_c g ml _ HH7.out).mono ?_
        rintro e w8 ⟨rfl, rfl⟩
        have hlen : ((ml.length : Int) != (m : Int) + (m' : Int)) = false := by rw [HMSG.out, bne_eq_false_iff_eq]; omega
        go_wp2
        go_roundw
        case rel => exact ⟨j + 1, m + m', c2, B2, by omega, hmm, by go_num, rfl, by rw [HFL.out]; exact HM7.out, by rw [HFL.out]; exact HH7.out⟩
        case measure => simp [intOf]; omega
    · have hbel := hmine.2
      clear hmine hh
      go_wp2
      go_ret
      exact ⟨rfl, hbel⟩
theorem walk (a : Option Addr) (len cap : Nat) (ls : List (List Nat)) (w : World) (hr : ReadsAll .u8 w a len cap ls) (kt : KT w) :
    Calls Tryd.prog 6 #[.slice a len cap] w fun e w' => e = .returned (.bool true) ∧ Below w.heap.size w w' := by
  by_cases hbig : 10 < len
  · exact walk_big a len cap w kt hbig
  · exact walk_small a len cap ls w kt (by omega) hr
end Go.Proofs.YtgjolpapcbmjaaaDoor.shaPieces
