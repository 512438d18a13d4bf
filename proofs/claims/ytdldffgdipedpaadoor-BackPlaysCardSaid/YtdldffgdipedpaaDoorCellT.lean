/- What Text of package cell returns, for every cells, as a walk through the translated text; what is left of a text without blanks at its end. Conditions: slices read as lists of cells. -/
import Derived.Test.YtdldffgdipedpaaDoorCell3
import Derived.Test.YtdldffgdipedpaaDoorRuneT
import Derived.Test.YtdldffgdipedpaaDoorShelf
namespace Go.Proofs.YtdldffgdipedpaaDoor
open Go.ChangeShapes Go.WideShapes Go.RowKit
/-! ### Blanks at the end -/
def trimR (l : List Nat) : List Nat := (l.reverse.dropWhile (· == 32)).reverse
def cutZ (l : List Int) : List Int := (l.reverse.dropWhile (· == 32)).reverse
theorem trimR_snoc (l : List Nat) (b : Nat) : trimR (l ++ [b]) = if b = 32 then trimR l else l ++ [b] := by
  unfold trimR
  rw [List.reverse_append, List.reverse_singleton, List.singleton_append, List.dropWhile_cons]
  by_cases h : b = 32
  · simp [h]
  · simp [h]
theorem cutZ_snoc (l : List Int) (b : Int) : cutZ (l ++ [b]) = if b = 32 then cutZ l else l ++ [b] := by
  unfold cutZ
  rw [List.reverse_append, List.reverse_singleton, List.singleton_append, List.dropWhile_cons]
  by_cases h : b = 32
  · simp [h]
  · simp [h]
theorem uni_last (z : Int) (h : z ≠ 32) : ∃ a b, uniZ z = a ++ [b] ∧ b ≠ 32 := by
  have hf : fixZ z ≠ 32 := by
    unfold fixZ
    split
    · rename_i hs
      simp only [signZ, decide_eq_true_eq] at hs
      omega
    · decide
  unfold uniZ
  generalize fixZ z = n at hf
  by_cases h1 : n < 128
  · exact ⟨[], n, by rw [uniN_1 n h1]; rfl, hf⟩
  · by_cases h2 : n < 2048
    · exact ⟨[192 + n / 64], 128 + n % 64, by rw [uniN_2 n (by omega) h2]; rfl, by omega⟩
    · by_cases h3 : n < 65536
      · exact ⟨[224 + n / 4096, 128 + n / 64 % 64], 128 + n % 64, by rw [uniN_3 n (by omega) h3]; rfl, by omega⟩
      · exact ⟨[240 + n / 262144, 128 + n / 4096 % 64, 128 + n / 64 % 64], 128 + n % 64, by rw [uniN_4 n (by omega)]; rfl, by omega⟩
theorem uni_blank : uniZ 32 = [32] := by decide
theorem textZ_snoc (l : List Int) (z : Int) : textZ (l ++ [z]) = textZ l ++ uniZ z := by simp [textZ]
theorem trim_text (zs : List Int) : trimR (textZ zs) = textZ (cutZ zs) := by
  have key : ∀ k, ∀ zs : List Int, zs.length = k → trimR (textZ zs) = textZ (cutZ zs) := by
    intro k
    induction k with
    | zero =>
      intro zs hz
      have : zs = [] := List.eq_nil_of_length_eq_zero hz
      subst this
      rfl
    | succ k ih =>
      intro zs hz
      obtain ⟨m, z, rfl⟩ : ∃ m b, zs = m ++ [b] := ⟨zs.dropLast, zs.getLast (by intro e; subst e; simp at hz), (List.dropLast_concat_getLast _).symm⟩
      have hm : m.length = k := by simpa using hz
      rw [textZ_snoc, cutZ_snoc]
      by_cases h : z = 32
      · subst h
        rw [uni_blank, trimR_snoc, if_pos rfl, if_pos rfl]
        exact ih m hm
      · obtain ⟨a, b, e, hb⟩ := uni_last z h
        rw [e, ← List.append_assoc, trimR_snoc, if_neg hb, if_neg h, textZ_snoc, e, List.append_assoc]
  exact key _ zs rfl
theorem strL_trim (s : ByteArray) : strL ⟨(Lib.trimRightB s.data.toList 32).toArray⟩ = trimR (strL s) := by
  unfold strL trimR Lib.trimRightB
  simp only [List.map_reverse]
  congr 1
  rw [← List.map_reverse]
  generalize s.data.toList.reverse = l
  induction l with
  | nil => rfl
  | cons b l ih =>
    rw [List.map_cons, List.dropWhile_cons, List.dropWhile_cons]
    have e : (b == 32) = (b.toNat == 32) := by
      rw [Bool.eq_iff_iff, beq_iff_eq, beq_iff_eq, ← UInt8.toNat_inj]
      rfl
    rw [e]
    split
    · exact ih
    · rfl
theorem textZ_len (zs : List Int) : (textZ zs).length ≤ 4 * zs.length := by
  induction zs with
  | nil => simp [textZ]
  | cons z zs ih =>
    have h1 := (uniZ_len z).2
    rw [show textZ (z :: zs) = uniZ z ++ textZ zs by simp [textZ], List.length_append, List.length_cons]
    omega
/-! ### Text -/
/-- The first j runes of the cells, then zeros. -/
def fillZ (l : List CellV) (j : Nat) : List Value := (l.take j).map (fun c => Value.int .i32 c.1) ++ List.replicate (l.length - j) (.int .i32 0)
theorem fillZ_set (l : List CellV) (j : Nat) (h : j < l.length) : (fillZ l j).set j (.int .i32 l[j].1) = fillZ l (j + 1) := by
  unfold fillZ
  rw [List.set_append_right _ _ (by simp; omega)]
  rw [List.take_succ_eq_append_getElem h, List.map_append, List.append_assoc]
  congr 1
  have e : l.length - j = (l.length - (j + 1)) + 1 := by omega
  rw [e, List.replicate_succ]
  simp [Nat.min_eq_left (Nat.le_of_lt h)]
theorem infoI32 : (Tryd.prog.info? 21).map (fun i => (i.zero, i.size, i.bytes)) = some (some (.int .i32 0), 1, 4) := by kernel_rfl
set_option maxHeartbeats 1600000 in
theorem cellText_c (A : Option Addr) (n c : Nat) (l : List CellV) (w : World) (hr : ReadsS cellV 4 w A n c l) (hf : ∀ x ∈ l, fitC x) (hn : n ≤ 1073741824) :
    Calls Tryd.prog 15 #[.slice A n c] w fun en w' => ∃ t : ByteArray, en = .returned (.string t) ∧ strL t = textZ (cutZ (l.map (·.1))) ∧ Below w.heap.size w w' := by
  obtain ⟨i0, hi, hz0, hz1, hz2⟩ := info_parts infoI32
  have HL := Lib.hid hr.len
  have H := Lib.hid hr
  have HF := Lib.hid hf
  have b2 : i0.bytes * n ≤ 281474976710656 := by rw [hz2]; omega
  have b3 : n ≤ maxLen := by unfold maxLen; omega
  clear hr hf
  go_enter Tryd.func15, Tryd.ntmps15
  go_wp2_with (at_make; refine wpList_make_full _ rfl (.tmp 7) (.tmp 7) 47 rfl w.heap.size 21 i0 (.int .i32 0) 1 Tryd.underlying47 hi hz0 hz1 .i64 .i64 _ _ n rfl rfl rfl rfl b2 b3 (Nat.le_refl _) ?_; intro w1 hown hgrow)
  have hB0 : Blk w1 w.heap.size 21 (fillZ l 0) := by
    have h1 : w1.ownsRow w.heap.size 21 1 (.slice (some ⟨w.heap.size, 0, none⟩) n n) n (fillZ l 0) := by
      rw [fillZ, List.take_zero, List.map_nil, List.nil_append, Nat.sub_zero, HL.out, ← toList_madeCells_one]
      simpa [Value.cells] using hown
    exact (own_blk h1).1
  have HB0 := Lib.hid hB0
  have HBel : Hid (Below w.heap.size w w1) := ⟨hgrow.os, hgrow.tape, hgrow.output, hgrow.size, fun i hi => hgrow.block i hi (by simp)⟩
  clear hB0 hown hgrow
  go_loopw [11] (fun i wr => ∃ j : Nat, j ≤ n ∧ i = .int .i64 j ∧ Hid (Blk wr w.heap.size 21 (fillZ l j)) ∧ Hid (Below w.heap.size w wr)) (fun i _ => n - (intOf i).toNat)
  case atStart => exact ⟨0, Nat.zero_le _, rfl, HB0, HBel⟩
  case round =>
    obtain ⟨j, hj, rfl, hB, hb⟩ := hrel
    by_cases hlt : j < n
    · have hjl : j < l.length := by rw [HL.out]; exact hlt
      have hR1 := H.out.keep hb.out
      obtain ⟨ad, rfl, hadlt, hca⟩ := hR1.cell j hjl
      obtain ⟨x, HX⟩ : ∃ x, Hid (l[j] = x) := ⟨l[j], rfl⟩
      rw [HX.out] at hca
      obtain ⟨a0, a1, a2, a3⟩ := four hca
      have hlt2 : (j : Int) < (n : Int) := by omega
      have hj0 : (0 : Int) ≤ (j : Int) := by omega
      have hlen : j < (fillZ l j).length := by unfold fillZ; simp; omega
      clear hca hR1
      go_upto_region 5 with (fail)
      refine name_wp (fun w5 => Blk w5 wr.heap.size 43 (cellV x) ∧ Blk w5 w.heap.size 21 (fillZ l j) ∧ Below w.heap.size w w5) ⟨Blk.new _ _ _, hB.out.alloc _, hb.out.alloc hb.out.size _⟩ ?_
      rintro w5 ⟨hC5, hB5, hb5⟩
      obtain ⟨q0, q1, q2, q3⟩ := fourB hC5
      have f5 := hB5.frozen j
      obtain ⟨vv, hz⟩ : ∃ vv, w5.cell? ⟨w.heap.size, j, none⟩ = some vv := ⟨_, hB5.cellAt j hlen⟩
      have hst := hB5.set_ j (.int .i32 x.1)
      rw [← HX.out, fillZ_set l j hjl, HX.out] at hst
      have HST := Lib.hid hst
      have HB5 := Lib.hid hb5
      clear hst hb5 hB5 hC5 a0 a1 a2 a3
      go_wp2
      go_roundw
      case rel => exact ⟨j + 1, by omega, by go_num, HST, Lib.hid (below_of_only HB5.out (only_setCell (p := ⟨w.heap.size, j, none⟩) (World.grownBy.refl _ _) rfl _) HB5.out.size (Nat.le_refl _))⟩
      case measure => simp [intOf]; omega
    · obtain rfl : j = n := by omega
      have hRI : ReadsI .i32 wr (some ⟨w.heap.size, 0, none⟩) j j (l.map (·.1)) := by
        refine ⟨by rw [List.length_map, HL.out], Nat.le_refl _, b3, fun z hz => ?_, fun i hi' => ⟨_, rfl, hB.out.lt, ?_⟩⟩
        · obtain ⟨x, hx, rfl⟩ := List.mem_map.1 hz
          have := (HF.out x hx).1
          simp [Lit.wf, IntKind.min, IntKind.max, IntKind.signed, IntKind.bits]
          omega
        · have hil : i < l.length := by simpa using hi'
          have hij : i < j := by have := HL.out; omega
          refine hB.out.all i _ ?_
          rw [fillZ, List.getElem?_append_left (by rw [List.length_map, List.length_take, HL.out]; omega), List.getElem?_map, List.getElem?_take_of_lt hij, List.getElem?_eq_getElem hil]
          simp
      have HT := Lib.hid (text_c _ j j _ wr hRI)
      clear hRI
      go_wp2_with fail
      refine HT.out.mono ?_
      rintro en w2 ⟨t, rfl, ht, rfl⟩
      have hts : t.size ≤ 9223372036854775807 := by
        have h1 : (strL t).length = t.size := length_strL t
        rw [ht] at h1
        have h2 : (textZ (l.map (·.1))).length ≤ 4 * (l.map (·.1)).length := textZ_len _
        rw [List.length_map, HL.out] at h2
        omega
      have HTR := Lib.hid (Tryd.strings_TrimRight_one t 32 (by decide) w2 hts)
      have HTT := Lib.hid ht
      clear ht hts
      go_wp2_with fail
      refine HTR.out.mono ?_
      rintro en w3 ⟨rfl, rfl⟩
      go_wp2
      go_ret
      exact ⟨_, rfl, by rw [strL_trim, HTT.out, trim_text], hb.out⟩
end Go.Proofs.YtdldffgdipedpaaDoor
