/- What the methods of a Writer of package codec do, for every argument, as a walk through the translated text. Conditions: the Writer lies in memory of its own, slices read as lists, at most 2^40 bytes are written. -/
import Derived.Test.YtbmnpbmimhodbaaCodec0
import Derived.Test.YtbmnpbmimhodbaaSame
namespace Go.Proofs.Ytbmnpbmimhodbaa
open Go.ChangeShapes Go.WideShapes Go.RowKit
/-- At block g lies a Writer that holds the bytes and the error s; its memory lies in F. -/
structure WAt (w : World) (g : Nat) (F : Nat → Prop) (s : List Nat × Int) : Prop where
  ex : ∃ v, Blk w g 60 [v, .int .i64 s.2] ∧ w.ownsRow 0 5 1 v s.1.length (ints .u8 s.1) ∧ (∀ h, v.ownBlock = some h → F h ∧ h ≠ g)
  mem : F g
  err : s.2 ≠ 0 → s.1 = []
  byte : ∀ x ∈ s.1, x < 256
section
variable {w w' : World} {g : Nat} {F G : Nat → Prop} {s : List Nat × Int}
theorem WAt.chg (h : WAt w g F s) (k : Chg G w w') (hd : ∀ i, F i → ¬ G i) : WAt w' g F s := by
  obtain ⟨v, hb, ho, hv⟩ := h.ex
  exact ⟨⟨v, hb.chg k (hd g h.mem), own_chg ho k (fun i hi => hd i (hv i hi).1), hv⟩, h.mem, h.err, h.byte⟩
theorem WAt.mono (h : WAt w g F s) (hG : ∀ i, F i → G i) : WAt w g G s := by
  obtain ⟨v, hb, ho, hv⟩ := h.ex
  exact ⟨⟨v, hb, ho, fun i hi => ⟨hG i (hv i hi).1, (hv i hi).2⟩⟩, hG g h.mem, h.err, h.byte⟩
theorem WAt.below (h : WAt w g F s) (k : Below w.heap.size w w') : WAt w' g F s := h.chg (G := fun _ => False) (Chg.of_below k) (fun _ _ h => h)
theorem WAt.of_heap (h : WAt w g F s) (e : w'.heap = w.heap) : WAt w' g F s := by
  obtain ⟨v, hb, ho, hv⟩ := h.ex
  refine ⟨⟨v, hb.of_heap e, ?_, hv⟩, h.mem, h.err, h.byte⟩
  unfold World.ownsRow
  rw [e]
  exact ho
end
/-- It has no result that counts; the Writer holds s, and nothing but its memory has turned. -/
def WPost (w : World) (g : Nat) (F : Nat → Prop) (s : List Nat × Int) (en : Ending) (w' : World) : Prop := (∃ v, en = .returned v) ∧ WAt w' g (orNew F w) s ∧ Chg F w w'
theorem WPost.behind {w w1 w' : World} {g : Nat} {F : Nat → Prop} {s : List Nat × Int} {en : Ending} (h : Chg F w w1) (k : WPost w1 g (orNew F w) s en w') : WPost w g F s en w' :=
  ⟨k.1, k.2.1.mono (orNew_mono h.size), h.trans k.2.2⟩
theorem inNew {F : Nat → Prop} {w : World} : ∀ i, F i → orNew F w i := fun _ h => .inl h

set_option maxHeartbeats 800000 in
theorem wput_ok (g : Nat) (F : Nat → Prop) (ws : List Nat) (A : Option Addr) (n c : Nat) (l : List Nat) (w : World) (h : WAt w g F (ws, 0)) (hr : Reads .u8 w A n c l) (hb : ws.length + n ≤ 1099511627776) :
    Calls Try.prog 39 #[.pointer (some ⟨g, 0, none⟩), .slice A n c] w (WPost w g F (ws ++ l, 0)) := by
  obtain ⟨i0, hi, hz0, hz1, hz2⟩ := info_parts infoU8
  obtain ⟨v, hblk, hown, hv⟩ := h.ex
  obtain ⟨B, d, rfl⟩ := own_form hown
  obtain ⟨N, hN⟩ : ∃ N, Hid (ws.length = N) := ⟨_, rfl⟩
  simp only [hN.out] at hblk hown hv hb
  have hm := h.mem
  have hby := h.byte
  have hl := hr.len
  have c0 : w.cell? ⟨g, 0, none⟩ = _ := hblk.cell 0
  have c1 : w.cell? ⟨g, 1, none⟩ = _ := hblk.cell 1
  have HB := Lib.hid hblk
  have HO := Lib.hid hown
  have HV := Lib.hid hv
  have HR := Lib.hid hr
  have HL := Lib.hid hl
  clear hblk hown hv hr hl h
  simp only [List.getElem?_cons_zero, List.getElem?_cons_succ] at c0 c1
  go_enter Try.func39, Try.ntmps39
  go_wp2_with (at_builtin; refine wpList_appB rfl (.tmp 13) (.tmp 14) 38 rfl 0 5 i0 (.int .u8 0) 1 Try.underlying38 hi hz0 hz1 hz2 rfl _ _ _ rfl HO.out .u8 A n c l rfl HR.out (by unfold maxLen; omega) (by omega) (Nat.zero_le _) ?_; intro v1 w1 hown1 hgrow1 hat1; obtain ⟨A1, c1, rfl⟩ := own_form hown1; have hb1 := HB.out.grown hgrow1 (fun e => (HV.out g e.symm).2 rfl); have d0 : w1.cell? ⟨g, 0, none⟩ = _ := hb1.cell 0; have f0 := hb1.frozen 0; simp only [List.getElem?_cons_zero] at d0; have HB1 := Lib.hid hb1; have HO1 := Lib.hid hown1; have HAT := Lib.hid hat1; clear hb1 hown1 hat1)
  go_end0
  have hlt : g < w.heap.size := HB.out.lt
  have hne : ∀ i, (Value.slice A1 (N + n) c1).ownBlock = some i → orNew F w i ∧ i ≠ g := by
    intro i hi
    rcases HAT.out with e | e
    · rw [e] at hi; exact ⟨.inl (HV.out i hi).1, (HV.out i hi).2⟩
    · rw [e] at hi; cases hi; exact ⟨.inr (Nat.le_refl _), by omega⟩
  have hk : Chg F w (w1.setCell ⟨g, 0, none⟩ (.slice A1 (N + n) c1)) := (Chg.of_only hgrow1 (fun i hi => (HV.out i hi).1)).trans' (Chg.of_only (row := some g) (only_setCell (World.grownBy.refl _ _) rfl _) (fun i hi => by cases hi; exact hm))
  refine ⟨⟨_, rfl⟩, ⟨⟨_, HB1.out.set_ 0 _, ?_, hne⟩, .inl hm, fun h => absurd rfl h, ?_⟩, hk⟩
  · have := own_keep HO1.out (only_setCell (World.grownBy.refl _ _) (p := ⟨g, 0, none⟩) rfl (.slice A1 (N + n) c1)) (fun i hi e => by cases e; exact (hne g hi).2 rfl)
    rw [List.length_append, hN.out, HL.out, ints_append]
    exact this
  · intro x hx
    rcases List.mem_append.1 hx with hx | hx
    · exact hby x hx
    · exact wf_u8.1 (HR.out.wf x hx)
set_option maxHeartbeats 800000 in
theorem wput_err (g : Nat) (F : Nat → Prop) (s : List Nat × Int) (A : Option Addr) (n c : Nat) (w : World) (h : WAt w g F s) (he : s.2 ≠ 0) :
    Calls Try.prog 39 #[.pointer (some ⟨g, 0, none⟩), .slice A n c] w (WPost w g F s) := by
  obtain ⟨v, hblk, hown, hv⟩ := h.ex
  have c1 : w.cell? ⟨g, 1, none⟩ = _ := hblk.cell 1
  simp only [List.getElem?_cons_zero, List.getElem?_cons_succ] at c1
  have hz : (s.2 == 0) = false := by simpa using he
  have H := Lib.hid h
  clear hblk hown hv h he
  go_enter Try.func39, Try.ntmps39
  go_wp2
  go_end0
  exact ⟨⟨_, rfl⟩, H.out.mono inNew, Chg.refl _ _⟩
theorem wput_c (g : Nat) (F : Nat → Prop) (s : List Nat × Int) (A : Option Addr) (n c : Nat) (l : List Nat) (w : World) (h : WAt w g F s) (hr : Reads .u8 w A n c l) (hb : s.1.length + n ≤ 1099511627776) :
    Calls Try.prog 39 #[.pointer (some ⟨g, 0, none⟩), .slice A n c] w (WPost w g F (wrote s (0, l))) := by
  obtain ⟨ws, e⟩ := s
  by_cases he : e = 0
  · subst he
    rw [wrote_ok _ _ rfl]
    exact wput_ok g F ws A n c l w h hr hb
  · rw [wrote_err _ _ he]
    exact wput_err g F _ A n c w h he
set_option maxHeartbeats 800000 in
theorem wfail_ok (g : Nat) (F : Nat → Prop) (ws : List Nat) (e : Int) (w : World) (h : WAt w g F (ws, 0)) (he : e ≠ 0) :
    Calls Try.prog 28 #[.pointer (some ⟨g, 0, none⟩), .int .i64 e] w (WPost w g F ([], e)) := by
  obtain ⟨v, hblk, hown, hv⟩ := h.ex
  have c0 : w.cell? ⟨g, 0, none⟩ = _ := hblk.cell 0
  have c1 : w.cell? ⟨g, 1, none⟩ = _ := hblk.cell 1
  have f0 := hblk.frozen 0
  have f1 := hblk.frozen 1
  simp only [List.getElem?_cons_zero, List.getElem?_cons_succ] at c0 c1
  have hz : (e == 0) = false := by simpa using he
  have hm := h.mem
  have HB := Lib.hid hblk
  obtain ⟨B, d, rfl⟩ := own_form hown
  clear hblk hown hv h he
  go_enter Try.func28, Try.ntmps28
  go_wp2
  go_end0
  refine ⟨⟨_, rfl⟩, ⟨⟨.slice none 0 0, (HB.out.set_ 1 _).set_ 0 _, World.ownsRow_nil _ _ _ _, fun i hi => by cases hi⟩, .inl hm, fun _ => rfl, by simp⟩, ?_⟩
  exact Chg.of_only (row := some g) (only_setCell (p := ⟨g, 0, none⟩) (only_setCell (p := ⟨g, 1, none⟩) (World.grownBy.refl _ _) rfl _) rfl _) (fun i hi => by cases hi; exact hm)
set_option maxHeartbeats 800000 in
theorem wfail_err (g : Nat) (F : Nat → Prop) (s : List Nat × Int) (e : Int) (w : World) (h : WAt w g F s) (he : s.2 ≠ 0) :
    Calls Try.prog 28 #[.pointer (some ⟨g, 0, none⟩), .int .i64 e] w (WPost w g F s) := by
  obtain ⟨v, hblk, hown, hv⟩ := h.ex
  have c1 : w.cell? ⟨g, 1, none⟩ = _ := hblk.cell 1
  simp only [List.getElem?_cons_zero, List.getElem?_cons_succ] at c1
  have hz : (s.2 != 0) = true := by simpa using he
  have H := Lib.hid h
  clear hblk hown hv h he
  go_enter Try.func28, Try.ntmps28
  go_wp2
  go_end0
  exact ⟨⟨_, rfl⟩, H.out.mono inNew, Chg.refl _ _⟩
theorem wfail_c (g : Nat) (F : Nat → Prop) (s : List Nat × Int) (e : Int) (w : World) (h : WAt w g F s) (he : e ≠ 0) :
    Calls Try.prog 28 #[.pointer (some ⟨g, 0, none⟩), .int .i64 e] w (WPost w g F (wrote s (e, []))) := by
  obtain ⟨ws, e'⟩ := s
  by_cases h' : e' = 0
  · subst h'
    rw [wrote_fail _ _ rfl he]
    exact wfail_ok g F ws e w h he
  · rw [wrote_err _ _ h']
    exact wfail_err g F _ e w h h'
/-- What a new Writer is. -/
def newer (w : World) (i : Nat) : Prop := w.heap.size ≤ i
def NewWPost (w : World) (en : Ending) (w' : World) : Prop := en = .returned (.pointer (some ⟨w.heap.size, 0, none⟩)) ∧ WAt w' w.heap.size (newer w) ([], 0) ∧ Below w.heap.size w w'
set_option maxHeartbeats 800000 in
theorem newWriter_c (w : World) : Calls Try.prog 15 #[] w (NewWPost w) := by
  go_enter Try.func15, Try.ntmps15
  go_wp2
  go_ret
  exact ⟨rfl, ⟨⟨.slice none 0 0, Blk.new _ _ _, World.ownsRow_nil _ _ _ _, fun i hi => by cases hi⟩, Nat.le_refl _, fun _ => rfl, by simp⟩, (Below.refl _ _).alloc (Nat.le_refl _) _⟩
theorem WAt.clip {w : World} {g : Nat} {F : Nat → Prop} {s : List Nat × Int} (h : WAt w g F s) : WAt w g (fun i => F i ∧ i < w.heap.size) s := by
  obtain ⟨v, hb, ho, hv⟩ := h.ex
  exact ⟨⟨v, hb, ho, fun i hi => ⟨⟨(hv i hi).1, own_lt ho i hi⟩, (hv i hi).2⟩⟩, ⟨h.mem, hb.lt⟩, h.err, h.byte⟩
/-- It returns the bytes, in new memory, and the error. -/
def BytesPost (w : World) (s : List Nat × Int) (en : Ending) (w' : World) : Prop := ∃ V m d, en = .returned (.tuple #[.slice V m d, .int .i64 s.2]) ∧ Reads .u8 w' V m d s.1 ∧ (∀ ad, V = some ad → w.heap.size ≤ ad.block) ∧ Below w.heap.size w w'
set_option maxHeartbeats 1600000 in
theorem wbytes_c (g : Nat) (F : Nat → Prop) (s : List Nat × Int) (w : World) (h : WAt w g F s) (hb : s.1.length ≤ 1099511627776) :
    Calls Try.prog 17 #[.pointer (some ⟨g, 0, none⟩)] w (BytesPost w s) := by
  obtain ⟨i0, hi, hz0, hz1, hz2⟩ := info_parts infoU8
  obtain ⟨v, hblk, hown, hv⟩ := h.ex
  obtain ⟨B, d, e1, hr⟩ := Reads.of_own hown (fun x hx => wf_u8.2 (h.byte x hx))
  subst e1
  obtain ⟨ws, e⟩ := s
  simp only at *
  have c0 : w.cell? ⟨g, 0, none⟩ = _ := hblk.cell 0
  have c1 : w.cell? ⟨g, 1, none⟩ = _ := hblk.cell 1
  simp only [List.getElem?_cons_zero, List.getElem?_cons_succ] at c0 c1
  have hby := h.byte
  have hlt := hblk.lt
  obtain ⟨N, hN⟩ : ∃ N, Hid (ws.length = N) := ⟨_, rfl⟩
  rw [hN.out] at c0 hr hb
  have HR := Lib.hid hr
  clear hr hblk hown hv h
  go_enter Try.func17, Try.ntmps17
  go_wp2_with fail
  go_region_held3 (fun w' => w'.cell? ⟨g, 0, none⟩ = some (.slice B N d) ∧ w'.cell? ⟨g, 1, none⟩ = some (.int .i64 e))
    (first
      | go_keep
      | (go_split_ands
         exact ⟨(World.cell?_of_block (hgrow1.block g hlt (by simp [Value.ownBlock]))).trans c0, (World.cell?_of_block (hgrow1.block g hlt (by simp [Value.ownBlock]))).trans c1⟩))
    ((refine step_appB rfl (.const (.slice none 0 0)) (.tmp 7) 38 rfl w.heap.size 5 i0 (.int .u8 0) 1 Try.underlying38 hi hz0 hz1 hz2 rfl (.slice none 0 0) 0 [] rfl (World.ownsRow_nil _ _ _ _) .u8 B N d ws rfl (HR.out.of_heap rfl) (by unfold maxLen; omega) (by omega) (Nat.le_refl _) ?_; intro v1 w1 hown1 hgrow1 hat1; obtain ⟨A1, c1', rfl⟩ := own_form hown1))
  go_wp2
  go_ret2
  have hbel : Below w.heap.size w w1 := ⟨hgrow1.os, hgrow1.tape, hgrow1.output, hgrow1.size, fun i hi => hgrow1.block i hi (by simp [Value.ownBlock])⟩
  obtain ⟨A2, c2, e2, hr2⟩ := Reads.of_own (k := .u8) (l := ws) (by simpa using hown1) (fun x hx => wf_u8.2 (hby x hx))
  have e3 : A1 = A2 ∧ c1' = c2 := by simpa using e2
  obtain ⟨rfl, rfl⟩ := e3
  refine ⟨A1, N, c1', by simp, by simpa using hr2, ?_, hbel⟩
  intro ad e
  exact own_base hown1 _ (by rw [e]; rfl)
theorem alloc_below (w : World) (o : Obj) : Below w.heap.size w (w.alloc o) := (Below.refl _ _).alloc (Nat.le_refl _) o
/-- put of a row that has just been made. -/
theorem wput_new (g : Nat) (F : Nat → Prop) (s : List Nat × Int) (l : List Nat) (cs : Array Value) (n : Nat) (t : TypeId) (w : World) (h : WAt w g F s) (hc : cs.toList = ints .u8 l) (hl : l.length = n) (hn : n ≤ 32) (hx : ∀ x ∈ l, x < 256) (hb : s.1.length + n ≤ 1099511627776) :
    Calls Try.prog 39 #[.pointer (some ⟨g, 0, none⟩), .slice (some ⟨w.heap.size, 0, none⟩) n n] (w.alloc (.cells cs t)) (WPost w g F (wrote s (0, l))) :=
  (wput_c g (orNew F w) s _ n n l _ ((h.below (alloc_below _ _)).mono inNew) (reads_new hc hl (by unfold maxLen; omega) hx) hb).mono fun _ _ k => WPost.behind (Chg.of_below (alloc_below _ _)) k
end Go.Proofs.Ytbmnpbmimhodbaa
