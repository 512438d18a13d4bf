/- What the reference's Push does with any rows, as a walk through the translated text. Conditions: the rows read as a list of rows of cells outside the memory F, at most a million of them. -/
import Derived.Test.YtdldffgdipedpaaDoorBack1
namespace Go.Proofs.YtdldffgdipedpaaDoor
open Go.ChangeShapes Go.WideShapes Go.RowKit
theorem infoRowC : (Tryd.prog.info? 31).map (fun i => (i.zero, i.size, i.bytes)) = some (some (.slice none 0 0), 1, 24) := by kernel_rfl
def PushPost (F : Nat → Prop) (w : World) (most : Nat) (ls : List (List CellV)) (y : List CellV) (en : Ending) (w' : World) : Prop :=
  ∃ V N d, en = .returned (.tuple #[.slice V N d, .int .i64 (if most < ls.length + 1 then 1 else 0)]) ∧ ReadsR F w' V N d (pushL most ls y) ∧ Below w.heap.size w w'
set_option maxHeartbeats 1600000 in
theorem refPushB_c (F : Nat → Prop) (A : Option Addr) (n c : Nat) (ls : List (List CellV)) (R : Option Addr) (m cr : Nat) (l : List CellV) (most : Nat) (w : World) (hr : ReadsR F w A n c ls) (hl : RowS F w (.slice R m cr) l) (hF : ∀ i, F i → i < w.heap.size) (hn : n ≤ 1000000) :
    Calls Tryd.prog 8 #[.slice A n c, .int .i64 (most : Int), .slice R m cr] w (PushPost F w most ls (cutC l)) := by
  obtain ⟨i0, hi, hz0, hz1, hz2⟩ := info_parts infoRowC
  obtain ⟨vs, hvl, hvr, hv1, hvs⟩ := hr.vals
  have hA : A = none → n = 0 := by rintro rfl; exact hr.pos
  have HVS := Lib.hid hvs
  have HVR := Lib.hid hvr
  have HLN := Lib.hid hr.len
  have HL := Lib.hid hl
  have HLL := Lib.hid hl.reads.len
  have HFF := Lib.hid hF
  clear hvs hvr hr hl hF
  go_enter Tryd.func8, Tryd.ntmps8
  go_wp2_with (at_builtin; refine wpList_appO rfl (.tmp 9) (.tmp 10) 22 rfl w.heap.size 31 i0 _ 24 Tryd.underlying22 hi hz0 hz1 hz2 rfl _ 0 [] rfl (World.ownsRow_made w #[] 0 (Nat.le_refl _) (by decide) rfl) A n c vs rfl hvl hA (fun ad e j u hu => ((alloc_below' w _).cell (block_lt_of_cell (HVS.out ad e j u hu))).trans (HVS.out ad e j u hu)) hv1 (by unfold maxLen; omega) (by omega) (by simp) ?_; intro v1 w1 ho1 hg1)
  rw [Nat.zero_add, List.nil_append] at ho1
  have hb1 := (alloc_below' w _).grown hg1 (by simp) (fun x hx => by cases hx; exact Nat.le_refl _)
  have HO1 := Lib.hid ho1
  have HB1 := Lib.hid hb1
  obtain ⟨A1, c1, rfl⟩ := own_form ho1
  clear ho1 hg1 hb1
  refine (refCutB_c R m cr l w1 (HL.out.below HB1.out).reads).mono ?_
  rintro en w2 ⟨rfl, rfl⟩
  have HY : Hid (RowS F w (.slice R (cutN l m) cr) (cutC l)) := by
    have h1 := HL.out.pre (cutN l m) (cutN_le l m)
    have e3 : cutC l = l.take (cutN l m) := by rw [cutC, HLL.out]
    rw [e3]
    exact h1
  generalize cutN l m = k at HY
  obtain ⟨y, hy⟩ : ∃ y, Hid (cutC l = y) := ⟨_, rfl⟩
  rw [hy.out] at HY
  go_upto_region 2 with (at_builtin; refine wpList_appO rfl (.tmp 11) (.tmp 14) 22 rfl w.heap.size 31 i0 _ 24 Tryd.underlying22 hi hz0 hz1 hz2 rfl _ n vs rfl (own_keep HO1.out (only_of_below (alloc_below' w1 _) none) (by intro g _ e; cases e)) (some ⟨w1.heap.size, 0, none⟩) 1 1 [.slice R k cr] rfl rfl (by intro e; cases e) (fun ad e j u hu => by cases e; exact (Blk.new w1 31 [.slice R k cr]).all j u hu) (by intro v hv; obtain rfl := List.mem_singleton.1 hv; rfl) (by unfold maxLen; omega) (by omega) (by have := HB1.out.size; simp; omega) ?_; intro v3 w3 ho3 hg3)
  have hb3 : Below w.heap.size w w3 := (HB1.out.alloc HB1.out.size _).grown hg3 (by have := HB1.out.size; simp; omega) (own_base HO1.out)
  have hv3 : ∀ i, (hi : i < (ls ++ [y]).length) → ∃ v, (vs ++ [Value.slice R k cr])[i]? = some v ∧ RowS F w3 v (ls ++ [y])[i] := by
    intro i hi'
    rcases Nat.lt_or_ge i ls.length with h | h
    · obtain ⟨v, e1, e2⟩ := HVR.out i h
      exact ⟨v, by rw [List.getElem?_append_left (by rw [hvl, ← HLN.out]; exact h)]; exact e1, by rw [List.getElem_append_left h]; exact e2.below hb3⟩
    · have hik : i = ls.length := by simp at hi'; omega
      subst hik
      refine ⟨.slice R k cr, by rw [List.getElem?_append_right (by rw [hvl, HLN.out]; exact Nat.le_refl _), hvl, HLN.out]; simp, ?_⟩
      rw [List.getElem_append_right (Nat.le_refl _)]
      simp only [Nat.sub_self, List.getElem_cons_zero]
      exact HY.out.below hb3
  obtain ⟨V, d, rfl, hRR, _⟩ := ReadsR.of_own ho3 (ls := ls ++ [y]) (by simp [HLN.out]) HFF.out hv3
  have HRR := Lib.hid hRR
  have HB3 := Lib.hid hb3
  have hcd : n + 1 ≤ d := hRR.room
  have hcm := hRR.cap
  have hdm : d ≤ 9223372036854775807 := by unfold maxLen at hcm; omega
  clear hv3 hRR hb3 ho3 hg3 HY hcm
  by_cases h : most < n + 1
  · have h2 : decide ((most : Int) < ((n + 1 : Nat) : Int)) = true := by rw [decide_eq_true_eq]; omega
    have h3 : decide (most < n + 1) = true := by rw [decide_eq_true_eq]; omega
    have HP : Hid (pushL most ls y = (ls ++ [y]).drop 1) := by show _ = _; rw [pushL, if_pos (by rw [HLN.out]; exact h)]
    go_wp2_with ((with_reducible refine at_slice_l 22 ?_); refine wpList_cut_lR rfl (.tmp 20) (.const (.int .i64 1)) rfl Tryd.underlying22 (by kernel_rfl) rfl .i64 1 _ rfl rfl (by omega) ?_; intro A5 hr5)
    go_ret2
    exact ⟨_, _, _, by rw [if_pos (by rw [HLN.out]; exact h)]; rfl, by rw [hy.out, HP.out]; exact hr5 _ _ _ HRR.out, HB3.out⟩
  · have h2 : decide ((most : Int) < ((n + 1 : Nat) : Int)) = false := by rw [decide_eq_false_iff_not]; omega
    have h3 : decide (most < n + 1) = false := by rw [decide_eq_false_iff_not]; omega
    have HP : Hid (pushL most ls y = ls ++ [y]) := by show _ = _; rw [pushL, if_neg (by rw [HLN.out]; exact h)]
    go_wp2
    go_ret2
    exact ⟨_, _, _, by rw [if_neg (by rw [HLN.out]; exact h)]; rfl, by rw [hy.out, HP.out]; exact HRR.out, HB3.out⟩
end Go.Proofs.YtdldffgdipedpaaDoor
