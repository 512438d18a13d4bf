/- What the methods End, Waits and Put of a Decoder of package runes do, for every Decoder and byte, as a walk through the translated text. Conditions: the Decoder lies in a block of its own and holds a beginning of an encoding; the two tables of unicode/utf8 hold what their text lays. -/
import Derived.Test.YtgkbgckpdkdngaaDoorRuneFull
import Derived.Test.YtgkbgckpdkdngaaDoorCodec0
import Derived.Lib.Hide
import Derived.Laws.IdiomStrings
namespace Go.Proofs.YtgkbgckpdkdngaaDoor
open Go.ChangeShapes Go.WideShapes Go.RowKit Go.Lib
theorem infoI32 : (Tryd.prog.info? 21).map (fun i => (i.zero, i.size, i.bytes)) = some (some (.int .i32 0), 1, 4) := by kernel_rfl
theorem wf_i32 {x : Nat} : (Lit.int .i32 (x : Int)).wf = true ↔ x < 2147483648 := by
  simp [Lit.wf, IntKind.min, IntKind.max, IntKind.signed, IntKind.bits]; omega
/-- At block g lies a Decoder that holds h. -/
structure DAt (w : World) (g : Nat) (h : List Nat) : Prop where
  ex : ∃ s : ByteArray, Blk w g 25 [.string s] ∧ strL s = h
  off : g ≠ 0 ∧ g ≠ 1
theorem DAt.lt {w : World} {g : Nat} {h : List Nat} (k : DAt w g h) : g < w.heap.size := by obtain ⟨_, hb, _⟩ := k.ex; exact hb.lt
theorem DAt.byte {w : World} {g : Nat} {h : List Nat} (k : DAt w g h) : ∀ x ∈ h, x < 256 := by obtain ⟨s, _, rfl⟩ := k.ex; exact strL_lt s
theorem DAt.below {w w' : World} {g : Nat} {h : List Nat} (k : DAt w g h) (b : Below w.heap.size w w') : DAt w' g h := by
  obtain ⟨s, hb, e⟩ := k.ex
  exact ⟨⟨s, hb.below b hb.lt, e⟩, k.off⟩
theorem DAt.of_heap {w w' : World} {g : Nat} {h : List Nat} (k : DAt w g h) (e : w'.heap = w.heap) : DAt w' g h := by
  obtain ⟨s, hb, e'⟩ := k.ex
  exact ⟨⟨s, hb.of_heap e, e'⟩, k.off⟩
theorem DAt.grown {w w' : World} {g : Nat} {h : List Nat} {row : Option Nat} (k : DAt w g h) (b : w.grownBy w' row) (hr : row ≠ some g) : DAt w' g h := by
  obtain ⟨s, hb, e⟩ := k.ex
  exact ⟨⟨s, hb.grown b (fun e => hr e.symm), e⟩, k.off⟩
theorem Tabs.dec {w w' : World} {g : Nat} {h : List Nat} (t : Tabs w) (k : DAt w g h) (b : w.grownBy w' (some g)) : Tabs w' := t.only b k.off.1 k.off.2
/-- It returns the code points r.2 in new memory, or nil; the Decoder holds r.1, and nothing but it has turned. -/
def DPost (w : World) (g : Nat) (r : List Nat × List Nat) (en : Ending) (w' : World) : Prop := ∃ v, en = .returned v ∧ w'.ownsRow w.heap.size 21 1 v r.2.length (ints .i32 r.2) ∧ DAt w' g r.1 ∧ w.grownBy w' (some g)
theorem empty_str (s : ByteArray) : s.toList.isEmpty = decide (strL s = []) := by
  rw [Lib.toList_data, strL]
  cases s.data.toList with
  | nil => rfl
  | cons _ _ => rfl
set_option maxHeartbeats 800000 in
theorem dend_c (g : Nat) (h : List Nat) (w : World) (hd : DAt w g h) : Calls Tryd.prog 12 #[.pointer (some ⟨g, 0, none⟩)] w (DPost w g ([], endN h)) := by
  obtain ⟨s, hblk, hs⟩ := hd.ex
  have c0 : w.cell? ⟨g, 0, none⟩ = _ := hblk.cell 0
  have f0 := hblk.frozen 0
  simp only [List.getElem?_cons_zero] at c0
  have HB := Lib.hid hblk
  have HD := Lib.hid hd
  by_cases h0 : h = []
  · have hz : s.toList.isEmpty = true := by rw [empty_str, hs]; exact decide_eq_true h0
    have HE : Hid (endN h = []) := by show _ = _; rw [endN, if_pos h0]
    rw [HE.out]
    have HH := Lib.hid h0
    clear hblk hd hs h0
    go_enter Tryd.func12, Tryd.ntmps12
    go_wp2
    go_ret
    exact ⟨_, rfl, World.ownsRow_nil _ _ _ _, by rw [← HH.out]; exact HD.out, World.grownBy.refl _ _⟩
  · have hz : s.toList.isEmpty = false := by rw [empty_str, hs]; exact decide_eq_false h0
    have HE : Hid (endN h = [65533]) := by show _ = _; rw [endN, if_neg h0]
    rw [HE.out]
    clear hblk hd hs h0
    go_enter Tryd.func12, Tryd.ntmps12
    go_wp2
    go_ret
    have hb1 := HB.out.set_ 0 (.string { data := #[] })
    have hg1 : w.grownBy (w.setCell ⟨g, 0, none⟩ (.string { data := #[] })) (some g) := only_setCell (p := ⟨g, 0, none⟩) (World.grownBy.refl _ _) rfl _
    have hb2 := Blk.new (w.setCell ⟨g, 0, none⟩ (.string { data := #[] })) 21 [.int .i32 65533]
    rw [World.size_setCell] at hb2
    exact ⟨_, rfl, blk_own hb2 rfl (Nat.le_refl _) (by decide), ⟨⟨_, hb1.alloc _, rfl⟩, HD.out.off⟩, only_trans hg1 (only_of_below ((Below.refl _ _).alloc (Nat.le_refl _) _) _)⟩
set_option maxHeartbeats 800000 in
theorem waits_c (g : Nat) (h : List Nat) (w : World) (hd : DAt w g h) : Calls Tryd.prog 11 #[.pointer (some ⟨g, 0, none⟩)] w fun en w' => en = .returned (.int .i64 (h.length : Int)) ∧ w' = w := by
  obtain ⟨s, hblk, hs⟩ := hd.ex
  have c0 : w.cell? ⟨g, 0, none⟩ = _ := hblk.cell 0
  simp only [List.getElem?_cons_zero] at c0
  have HL : Hid (h.length = s.size) := by show _ = _; rw [← hs, length_strL]
  rw [HL.out]
  clear hblk hd hs
  go_enter Tryd.func11, Tryd.ntmps11
  go_wp2
  go_ret
  exact ⟨rfl, rfl⟩
def PutAt (g b : Nat) (h : List Nat) : Prop := ∀ w, DAt w g h → Tabs w → Calls Tryd.prog 10 #[.pointer (some ⟨g, 0, none⟩), .int .u8 (b : Int)] w (DPost w g (putN h b))
set_option maxHeartbeats 1600000 in
theorem put_gen (g : Nat) (h : List Nat) (b : Nat) (w : World) (hd : DAt w g h) (hT : Tabs w) (hh : HeldL h) (hb : b < 256) (hrec : h ≠ [] → PutAt g b []) : Calls Tryd.prog 10 #[.pointer (some ⟨g, 0, none⟩), .int .u8 (b : Int)] w (DPost w g (putN h b)) := by
  obtain ⟨i0, hi, hz0, hz1, hz2⟩ := info_parts infoI32
  obtain ⟨s, hblk, hs⟩ := hd.ex
  have c0 : w.cell? ⟨g, 0, none⟩ = _ := hblk.cell 0
  simp only [List.getElem?_cons_zero] at c0
  have HB := Lib.hid hblk
  have HD := Lib.hid hd
  have HT := Lib.hid hT
  have HH := Lib.hid hh
  have HREC := Lib.hid hrec
  clear hblk hd hT hrec
  go_enter Tryd.func10, Tryd.ntmps10
  go_wp2_with fail
  have hcv := run_convert_bytes_back (P := Tryd.prog) ((w.alloc (Obj.cells #[Value.int IntKind.u8 (b : Int)] 5)).drew) 22 9 5 ⟨w.heap.size, 0, none⟩ 1 [UInt8.ofNat b] Tryd.underlying22 Tryd.underlying5 Tryd.underlying9 (by
    intro j hj
    have : j = 0 := by simpa using hj
    subst this
    have e : ((w.alloc (Obj.cells #[Value.int IntKind.u8 (b : Int)] 5)).drew).cell? ⟨w.heap.size, 0, none⟩ = some (.int .u8 (b : Int)) := (Blk.new w 5 [.int .u8 (b : Int)]).drew.cell 0
    rw [add_head, e]
    simp [Nat.mod_eq_of_lt hb])
  simp only [List.length_singleton] at hcv
  have c1 : ((w.alloc (Obj.cells #[Value.int IntKind.u8 (b : Int)] 5)).drew).cell? ⟨g, 0, none⟩ = some (.string s) := (HB.out.alloc _).drew.cell 0
  have c2 : w.drew.cell? ⟨g, 0, none⟩ = some (.string s) := HB.out.drew.cell 0
  have hsz : ¬ 9223372036854775807 < s.size + 1 := by
    have h1 := held_len h hh
    rw [← hs, length_strL] at h1
    omega
  go_region
  clear hcv c1 c2 hsz c0
  have hb1 : Below w.heap.size w (w.alloc (Obj.cells #[Value.int IntKind.u8 (b : Int)] 5)).drew := ((Below.refl _ _).alloc (Nat.le_refl _) _).drew
  obtain ⟨w1, hw1⟩ : ∃ w1, Hid ((w.alloc (Obj.cells #[Value.int IntKind.u8 (b : Int)] 5)).drew = w1) := ⟨_, Lib.hid rfl⟩
  obtain ⟨t, ht⟩ : ∃ t, Hid (s ++ { data := #[UInt8.ofNat b] } = t) := ⟨_, Lib.hid rfl⟩
  have HS : Hid (strL t = h ++ [b]) := by
    show _ = _
    rw [← ht.out, strL_append, hs]
    simp [strL, Nat.mod_eq_of_lt hb]
  rw [ht.out, hw1.out]
  rw [hw1.out] at hb1
  have HB1 := Lib.hid hb1
  clear hw1 ht hb1 hs
  have HSZ : Hid (t.size = h.length + 1) := by show _ = _; rw [← length_strL, HS.out]; simp
  have HBY : Hid (∀ x ∈ h ++ [b], x < 256) := by
    show ∀ x ∈ h ++ [b], x < 256
    rw [← HS.out]; exact strL_lt t
  have HC1 := Lib.hid (full_c t w1 (HT.out.keep HB1.out) (by rw [HSZ.out]; omega))
  rw [HS.out, full_pre _ (by simp)] at HC1
  by_cases hp : preL (h ++ [b]) = true
  · have HN : Hid (putN h b = (h ++ [b], [])) := put_pre h b hp
    rw [hp] at HC1
    have hblk1 : Blk w1 g 25 [.string s] := HB.out.below HB1.out HB.out.lt
    clear hp hh
    go_wp2_with fail
    refine HC1.out.mono ?_
    rintro en w2 ⟨rfl, hb2⟩
    have hblk2 := hblk1.below hb2 hblk1.lt
    have d0 : w2.cell? ⟨g, 0, none⟩ = _ := hblk2.cell 0
    have f0 := hblk2.frozen 0
    simp only [List.getElem?_cons_zero] at d0
    have HB2 := Lib.hid hb2
    have HBK := Lib.hid hblk2
    clear hblk1 hb2 hblk2
    go_wp2
    go_ret
    rw [HN.out]
    exact ⟨_, rfl, World.ownsRow_nil _ _ _ _, ⟨⟨t, HBK.out.set_ 0 _, HS.out⟩, HD.out.off⟩, only_trans (only_of_below HB1.out _) (only_trans (only_of_below HB2.out _) (only_setCell (p := ⟨g, 0, none⟩) (World.grownBy.refl _ _) rfl _))⟩
  · have hp' : preL (h ++ [b]) = false := by simpa using hp
    rw [hp'] at HC1
    have HT1 := Lib.hid (HT.out.keep HB1.out)
    have HD1 := Lib.hid (HD.out.below HB1.out)
    have HBL : Hid (0 < t.size) := by show 0 < t.size; rw [HSZ.out]; omega
    by_cases hw : okL (h ++ [b]) = true ∨ h = []
    · have HDEC : Hid (∃ c, decL (h ++ [b]) = (c, t.size) ∧ putN h b = ([], [c])) := by
        show ∃ c, decL (h ++ [b]) = (c, t.size) ∧ putN h b = ([], [c])
        by_cases ho : okL (h ++ [b]) = true
        · refine ⟨valL (h ++ [b]), ?_, put_ok h b ho⟩
          have := dec_ok (h ++ [b]) [] ho
          rw [List.append_nil] at this
          rw [this, HSZ.out]; simp
        · have h0 : h = [] := hw.resolve_left ho
          refine ⟨65533, ?_, by rw [putN, if_neg ho, if_neg hp, if_pos h0]⟩
          rw [dec_pre h b (.inr h0) HBY.out (by simpa using ho), HSZ.out, h0]; rfl
      obtain ⟨c, hdec, hput⟩ := HDEC.out
      have HDC := Lib.hid hdec
      have HN := Lib.hid hput
      clear hw hp hp' hh HDEC hdec hput
      go_wp2_with fail
      refine HC1.out.mono ?_
      rintro en w2 ⟨rfl, hb2⟩
      have HB2 := Lib.hid hb2
      have HC2 := Lib.hid (Tryd.utf8_DecodeRuneInString t w2 (HT1.out.keep hb2))
      rw [dec_strL t HBL.out, HS.out, HDC.out] at HC2
      clear hb2
      go_wp2_with fail
      refine HC2.out.mono ?_
      rintro en w3 ⟨rfl, hb3⟩
      have hblk3 := (HB.out.below HB1.out HB.out.lt).below HB2.out (HB.out.below HB1.out HB.out.lt).lt
      have hblk4 := hblk3.below hb3 hblk3.lt
      have d0 : w3.cell? ⟨g, 0, none⟩ = _ := hblk4.cell 0
      have f0 := hblk4.frozen 0
      simp only [List.getElem?_cons_zero] at d0
      have HB3 := Lib.hid hb3
      have HBK := Lib.hid hblk4
      clear hblk3 hb3 hblk4
      go_wp2
      go_ret
      rw [HN.out]
      have hb5 := HBK.out.set_ 0 (.string { data := #[] })
      have hg5 : w3.grownBy (w3.setCell ⟨g, 0, none⟩ (.string { data := #[] })) (some g) := only_setCell (p := ⟨g, 0, none⟩) (World.grownBy.refl _ _) rfl _
      have hb6 := Blk.new (w3.setCell ⟨g, 0, none⟩ (.string { data := #[] })) 21 [.int .i32 (c : Int)]
      rw [World.size_setCell] at hb6
      have hle : w.heap.size ≤ w3.heap.size := Nat.le_trans HB1.out.size (Nat.le_trans HB2.out.size HB3.out.size)
      exact ⟨_, rfl, blk_own hb6 rfl hle (by decide), ⟨⟨_, hb5.alloc _, rfl⟩, HD.out.off⟩, only_trans (only_of_below HB1.out _) (only_trans (only_of_below HB2.out _) (only_trans (only_of_below HB3.out _) (only_trans hg5 (only_of_below ((Below.refl _ _).alloc (Nat.le_refl _) _) _))))⟩
    · have ho : okL (h ++ [b]) = false := by simpa using fun e => hw (.inl e)
      have h0 : h ≠ [] := fun e => hw (.inr e)
      have hp2 : preL h = true := hh.resolve_left h0
      have HDC := Lib.hid (dec_pre h b (.inl hp2) HBY.out ho)
      have HN : Hid (putN h b = ((putN [] b).1, 65533 :: (putN [] b).2)) := by
        show _ = _
        rw [putN_nil, putN, if_neg (by rw [ho]; simp), if_neg (by rw [hp']; simp), if_neg h0]
      have HEN : Hid (endN h = [65533]) := by show _ = _; rw [endN, if_neg h0]
      have HR := Lib.hid (HREC.out h0)
      have hne : ((1 : Int) == (t.size : Int)) = false := by
        have h3 := (pre_len h hp2).1
        have h4 := HSZ.out
        simp
        omega
      have HBO := Lib.hid (put_byte [] b (by simp) hb)
      have HLN := Lib.hid (put_len [] b)
      clear hw hp hp' hh ho h0 hp2
      go_wp2_with fail
      refine HC1.out.mono ?_
      rintro en w2 ⟨rfl, hb2⟩
      have HB2 := Lib.hid hb2
      have HC2 := Lib.hid (Tryd.utf8_DecodeRuneInString t w2 (HT1.out.keep hb2))
      rw [dec_strL t HBL.out, HS.out, HDC.out] at HC2
      clear hb2
      go_wp2_with fail
      refine HC2.out.mono ?_
      rintro en w3 ⟨rfl, hb3⟩
      have HD3 := Lib.hid ((HD1.out.below HB2.out).below hb3)
      have HT3 := Lib.hid ((HT1.out.keep HB2.out).keep hb3)
      have HB3 := Lib.hid hb3
      clear hb3
      go_wp2_with fail
      refine (dend_c g h w3 HD3.out).mono ?_
      rw [HEN.out]
      rintro en w4 ⟨v4, rfl, ho4, hd4, hg4⟩
      obtain ⟨A4, c4, rfl⟩ := own_form ho4
      have HO4 := Lib.hid ho4
      have HG4 := Lib.hid hg4
      have HD4 := Lib.hid hd4
      have HT4 := Lib.hid (HT3.out.dec HD3.out hg4)
      clear ho4 hd4 hg4
      go_wp2_with fail
      refine (HR.out w4 HD4.out HT4.out).mono ?_
      rintro en w5 ⟨v5, rfl, ho5, hd5, hg5⟩
      obtain ⟨A5, c5, rfl, hr5⟩ := Reads.of_own ho5 (fun x hx => wf_i32.2 (by have := HBO.out.2 x hx; omega))
      have HO5 := Lib.hid ho5
      have HG5 := Lib.hid hg5
      have HD5 := Lib.hid hd5
      have HR5 := Lib.hid hr5
      have hne4 : ∀ k, (Value.slice A4 1 c4).ownBlock = some k → (some g : Option Nat) ≠ some k := fun k hk e => by
        have h1 := own_base HO4.out k hk
        have h2 := HD3.out.lt
        cases e
        omega
      have HO4' := Lib.hid (own_keep HO4.out hg5 hne4)
      have HNE := Lib.hid hne4
      clear ho5 hd5 hg5 hr5 hne4
      go_wp2_with (at_builtin; refine wpList_appB rfl (.tmp 40) (.tmp 43) 30 rfl w3.heap.size 21 i0 (.int .i32 0) 4 Tryd.underlying30 hi hz0 hz1 hz2 rfl _ _ _ rfl HO4'.out .i32 _ _ _ _ rfl HR5.out (by have := HLN.out.2; unfold maxLen; simp only [List.length_singleton]; omega) (by have := HLN.out.2; simp only [List.length_singleton]; omega) (Nat.le_trans (Nat.le_refl _) (Nat.le_trans HG4.out.size HG5.out.size)) ?_; intro v6 w6 h6 hg6 _; obtain ⟨A6, c6, rfl⟩ := own_form h6; have HO6 := Lib.hid h6; have HG6 := Lib.hid hg6; clear h6 hg6)
      go_ret
      rw [HN.out]
      have hle : w.heap.size ≤ w3.heap.size := Nat.le_trans HB1.out.size (Nat.le_trans HB2.out.size HB3.out.size)
      refine ⟨_, rfl, ?_, HD5.out.grown HG6.out (fun e => HNE.out g e rfl), ?_⟩
      · have := own_weaken HO6.out hle
        simpa [ints, Nat.add_comm] using this
      · have h45 : w3.grownBy w5 (some g) := only_trans HG4.out HG5.out
        have h46 : w3.grownBy w6 (some g) := ⟨HG6.out.os.trans h45.os, HG6.out.tape.trans h45.tape, HG6.out.output.trans h45.output, Nat.le_trans h45.size HG6.out.size, fun k hk hne => (HG6.out.block k (Nat.lt_of_lt_of_le hk h45.size) (fun e => by
          have := own_base HO4.out k e.symm
          omega)).trans (h45.block k hk hne)⟩
        exact only_trans (only_of_below HB1.out _) (only_trans (only_of_below HB2.out _) (only_trans (only_of_below HB3.out _) h46))
theorem put_c (g : Nat) (h : List Nat) (b : Nat) (w : World) (hd : DAt w g h) (hT : Tabs w) (hh : HeldL h) (hb : b < 256) : Calls Tryd.prog 10 #[.pointer (some ⟨g, 0, none⟩), .int .u8 (b : Int)] w (DPost w g (putN h b)) :=
  put_gen g h b w hd hT hh hb fun _ w' hd' hT' => put_gen g [] b w' hd' hT' (.inl rfl) hb fun e => absurd rfl e
end Go.Proofs.YtgkbgckpdkdngaaDoor
