/- What the methods Fail, next, Byte, Err, Left, Done of a Reader of package codec do, and NewReader, for every argument, as a walk through the translated text. Conditions: the Reader lies in a block of its own, slices read as lists. -/
import Derived.Test.YtbmnpbmimhodbaaCodec0
import Derived.Test.YtbmnpbmimhodbaaCut
import Derived.Test.YtbmnpbmimhodbaaSame
namespace Go.Proofs.Ytbmnpbmimhodbaa
open Go.ChangeShapes Go.WideShapes Go.RowKit
/-- At block g lies a Reader with what is left and the error s; its bytes lie in block D. -/
structure RAt (w : World) (g : Nat) (D : Option Nat) (s : List Nat × Int) : Prop where
  ex : ∃ A n c, Blk w g 64 [.slice A n c, .int .i64 s.2] ∧ Reads .u8 w A n c s.1 ∧ (0 < n → ∀ ad, A = some ad → D = some ad.block)
  off : D ≠ some g
  low : ∀ h, D = some h → h < w.heap.size
  err : s.2 ≠ 0 → s.1 = []
def failR (s : List Nat × Int) (e : Int) : List Nat × Int := if s.2 = 0 then (if e = 0 then s else ([], e)) else s
/-- It returns v; the Reader holds s, and nothing but it has turned. -/
def RPost (w : World) (g : Nat) (D : Option Nat) (s : List Nat × Int) (v : Value) (en : Ending) (w' : World) : Prop := en = .returned v ∧ RAt w' g D s ∧ w.grownBy w' (some g)
section
variable {w w' : World} {g : Nat} {D : Option Nat} {s : List Nat × Int}
theorem RAt.lt (h : RAt w g D s) : g < w.heap.size := by obtain ⟨_, _, _, hb, _⟩ := h.ex; exact hb.lt
theorem RAt.below (h : RAt w g D s) (k : Below w.heap.size w w') : RAt w' g D s := by
  obtain ⟨A, n, c, hb, hr, ho⟩ := h.ex
  exact ⟨⟨A, n, c, hb.below k hb.lt, hr.keep k, ho⟩, h.off, fun i hi => Nat.lt_of_lt_of_le (h.low i hi) k.size, h.err⟩
theorem RAt.only (h : RAt w g D s) {i : Nat} (k : w.grownBy w' (some i)) (hi : i ≠ g) (hD : D ≠ some i) : RAt w' g D s := by
  obtain ⟨A, n, c, hb, hr, ho⟩ := h.ex
  exact ⟨⟨A, n, c, hb.grown k (fun e => hi (Option.some.inj e).symm), hr.only' (fun h0 ad e eq => hD ((ho h0 ad e).trans (by rw [eq]))) k, ho⟩, h.off, fun j hj => Nat.lt_of_lt_of_le (h.low j hj) k.size, h.err⟩
theorem RAt.chg {F : Nat → Prop} (h : RAt w g D s) (k : Chg F w w') (hg : ¬ F g) (hD : ∀ i, D = some i → ¬ F i) : RAt w' g D s := by
  obtain ⟨A, n, c, hb, hr, ho⟩ := h.ex
  exact ⟨⟨A, n, c, hb.chg k hg, hr.chg k (fun h0 ad e => hD _ (ho h0 ad e)), ho⟩, h.off, fun j hj => Nat.lt_of_lt_of_le (h.low j hj) k.size, h.err⟩
theorem RAt.of_heap (h : RAt w g D s) (e : w'.heap = w.heap) : RAt w' g D s := by
  obtain ⟨A, n, c, hb, hr, ho⟩ := h.ex
  exact ⟨⟨A, n, c, hb.of_heap e, hr.of_heap e, ho⟩, h.off, fun i hi => by rw [e]; exact h.low i hi, h.err⟩
theorem RAt.byte (h : RAt w g D s) : ∀ x ∈ s.1, x < 256 := by
  obtain ⟨A, n, c, hb, hr, ho⟩ := h.ex
  exact fun x hx => wf_u8.1 (hr.wf x hx)
theorem RAt.len (h : RAt w g D s) : s.1.length ≤ maxLen := by
  obtain ⟨A, n, c, hb, hr, ho⟩ := h.ex
  have h1 := hr.len
  have h2 := hr.room
  have h3 := hr.cap
  omega
end
theorem failR_err (s : List Nat × Int) (e : Int) (h : s.2 ≠ 0) : failR s e = s := by rw [failR, if_neg h]
theorem failR_ok (s : List Nat × Int) (e : Int) (h : s.2 = 0) (he : e ≠ 0) : failR s e = ([], e) := by rw [failR, if_pos h, if_neg he]
/-- It has no result that counts. -/
def RPost0 (w : World) (g : Nat) (D : Option Nat) (s : List Nat × Int) (en : Ending) (w' : World) : Prop := (∃ v, en = .returned v) ∧ RAt w' g D s ∧ w.grownBy w' (some g)
set_option maxHeartbeats 800000 in
theorem rfail_ok (g : Nat) (D : Option Nat) (b : List Nat) (e : Int) (w : World) (h : RAt w g D (b, 0)) (he : e ≠ 0) :
    Calls Try.prog 32 #[.pointer (some ⟨g, 0, none⟩), .int .i64 e] w (RPost0 w g D ([], e)) := by
  obtain ⟨A, n, c, hblk, _, _⟩ := h.ex
  have c0 : w.cell? ⟨g, 0, none⟩ = _ := hblk.cell 0
  have c1 : w.cell? ⟨g, 1, none⟩ = _ := hblk.cell 1
  have f0 := hblk.frozen 0
  have f1 := hblk.frozen 1
  simp only [List.getElem?_cons_zero, List.getElem?_cons_succ] at c0 c1
  have hz : (e == 0) = false := by simpa using he
  have HB := Lib.hid hblk
  have HD := Lib.hid h.off
  have HW := Lib.hid h.low
  clear hblk h he
  go_enter Try.func32, Try.ntmps32
  go_wp2
  go_end0
  exact ⟨⟨_, rfl⟩, ⟨⟨none, 0, 0, (HB.out.set_ 1 _).set_ 0 _, Reads.nil.2 (by simp [maxLen]), fun h => absurd h (by decide)⟩, HD.out, fun i hi => by simpa using HW.out i hi, fun _ => rfl⟩, only_setCell (p := ⟨g, 0, none⟩) (only_setCell (p := ⟨g, 1, none⟩) (World.grownBy.refl _ _) rfl _) rfl _⟩
set_option maxHeartbeats 800000 in
theorem rfail_err (g : Nat) (D : Option Nat) (s : List Nat × Int) (e : Int) (w : World) (h : RAt w g D s) (he : s.2 ≠ 0) :
    Calls Try.prog 32 #[.pointer (some ⟨g, 0, none⟩), .int .i64 e] w (RPost0 w g D s) := by
  obtain ⟨A, n, c, hblk, _, _⟩ := h.ex
  have c1 : w.cell? ⟨g, 1, none⟩ = _ := hblk.cell 1
  simp only [List.getElem?_cons_zero, List.getElem?_cons_succ] at c1
  have hz : (s.2 != 0) = true := by simpa using he
  have H := Lib.hid h
  clear hblk h he
  go_enter Try.func32, Try.ntmps32
  go_wp2
  go_end0
  exact ⟨⟨_, rfl⟩, H.out, World.grownBy.refl _ _⟩
theorem rfail_c (g : Nat) (D : Option Nat) (s : List Nat × Int) (e : Int) (w : World) (h : RAt w g D s) (he : e ≠ 0) :
    Calls Try.prog 32 #[.pointer (some ⟨g, 0, none⟩), .int .i64 e] w (RPost0 w g D (failR s e)) := by
  obtain ⟨b, e'⟩ := s
  by_cases h' : e' = 0
  · subst h'
    rw [failR_ok _ _ rfl he]
    exact rfail_ok g D b e w h he
  · rw [failR_err _ _ h']
    exact rfail_err g D _ e w h h'
/-! ### next -/
/-- The next n bytes, and what is left behind them. -/
def nextR (n : Nat) (s : List Nat × Int) : List Nat × (List Nat × Int) := if s.1.length < n then ([], failR s 4) else (s.1.take n, (s.1.drop n, s.2))
/-- It returns bytes that lie outside the Reader's block. -/
def RowRPost (w : World) (g : Nat) (D : Option Nat) (r : List Nat × (List Nat × Int)) (en : Ending) (w' : World) : Prop := ∃ V m d, en = .returned (.slice V m d) ∧ Reads .u8 w' V m d r.1 ∧ (0 < m → ∀ ad, V = some ad → D = some ad.block) ∧ RAt w' g D r.2 ∧ w.grownBy w' (some g)
set_option maxHeartbeats 800000 in
theorem next_c (g : Nat) (D : Option Nat) (n : Nat) (s : List Nat × Int) (w : World) (h : RAt w g D s) (hn : n < 9223372036854775808) :
    Calls Try.prog 41 #[.pointer (some ⟨g, 0, none⟩), .int .i64 (n : Int)] w (RowRPost w g D (nextR n s)) := by
  obtain ⟨A, N, C, hblk, hr, ho⟩ := h.ex
  have herr := h.err
  have hl := hr.len
  have hroom := hr.room
  have c0 : w.cell? ⟨g, 0, none⟩ = _ := hblk.cell 0
  have f0 := hblk.frozen 0
  simp only [List.getElem?_cons_zero] at c0
  have H := Lib.hid h
  have HB := Lib.hid hblk
  have HR := Lib.hid hr
  have HO := Lib.hid ho
  have HL := Lib.hid hl
  have HE := Lib.hid herr
  have HD := Lib.hid h.off
  have HW := Lib.hid h.low
  clear h hblk hr ho hl herr
  by_cases hlt : N < n
  · have HN : Hid (nextR n s = ([], failR s 4)) := by show _ = _; rw [nextR, if_pos (by rw [HL.out]; exact hlt)]
    rw [HN.out]
    have hlt2 : decide ((N : Int) < (n : Int)) = true := by simp; omega
    go_enter Try.func41, Try.ntmps41
    go_wp2_with fail
    refine (rfail_c g D s 4 w H.out (by decide)).mono ?_
    rintro en w1 ⟨⟨v, rfl⟩, h1, h2⟩
    go_wp2
    go_ret
    exact ⟨none, 0, 0, rfl, Reads.nil.2 (by simp [maxLen]), fun h => absurd h (by decide), h1, h2⟩
  · have HN : Hid (nextR n s = (s.1.take n, (s.1.drop n, s.2))) := by show _ = _; rw [nextR, if_neg (by rw [HL.out]; exact hlt)]
    rw [HN.out]
    have hle : n ≤ N := by omega
    go_enter Try.func41, Try.ntmps41
    go_wp2_with (first
      | ((with_reducible refine at_slice_h 38 ?_); refine wpList_cut_h (o := ⟨some 20, _, _, _, _, _⟩) rfl (.tmp 18) (.tmp 19) rfl Try.underlying38 (by kernel_rfl) rfl .i64 n _ rfl rfl (by omega) ?_)
      | ((with_reducible refine at_slice_l 38 ?_); refine wpList_cut_lO (o := ⟨some 27, _, _, _, _, _⟩) rfl (.tmp 25) (.tmp 26) rfl Try.underlying38 (by kernel_rfl) (k := .u8) (L := s.1) rfl .i64 n _ rfl rfl (by omega) ?_; intro A2 hr2 ho2))
    go_ret
    have hg : w.grownBy (w.setCell ⟨g, 0, none⟩ (.slice A2 (N - n) (C - n))) (some g) := only_setCell (p := ⟨g, 0, none⟩) (World.grownBy.refl _ _) rfl _
    have hoA : 0 < N → Off A g := fun h0 ad e eq => HD.out ((HO.out h0 ad e).trans (by rw [eq]))
    have hoA2 : 0 < N - n → ∀ ad', A2 = some ad' → D = some ad'.block := by
      intro h0 ad' e
      obtain ⟨ad, hA, hb⟩ := ho2 ad' e
      rw [hb]
      exact HO.out (by omega) ad hA
    have hoA3 : 0 < N - n → Off A2 g := fun h0 ad e eq => HD.out ((hoA2 h0 ad e).trans (by rw [eq]))
    refine ⟨A, n, C, rfl, (reads_pre HR.out n hle).only' (fun h0 => hoA (by omega)) hg, fun h0 => HO.out (by omega), ⟨⟨A2, N - n, C - n, HB.out.set_ 0 _, (hr2 _ HR.out).only' hoA3 hg, hoA2⟩, HD.out, fun i hi => by simpa using HW.out i hi, ?_⟩, hg⟩
    intro he
    simp [HE.out he]
/-! ### Byte, Err, Left, Done -/
/-- The next byte, and what is left behind it. -/
def byteR : List Nat × Int → Nat × (List Nat × Int)
  | ([], e) => (0, failR ([], e) 4)
  | (x :: r, e) => (x, (r, e))
theorem RPost.of {w w1 w' : World} {g : Nat} {D : Option Nat} {s : List Nat × Int} {v : Value} {en : Ending} (h : w.grownBy w1 (some g)) (k : RPost w1 g D s v en w') : RPost w g D s v en w' := ⟨k.1, k.2.1, only_trans h k.2.2⟩
set_option maxHeartbeats 800000 in
theorem rbyte_c (g : Nat) (D : Option Nat) (s : List Nat × Int) (w : World) (h : RAt w g D s) :
    Calls Try.prog 40 #[.pointer (some ⟨g, 0, none⟩)] w (RPost w g D (byteR s).2 (.int .u8 ((byteR s).1 : Int))) := by
  have HC := Lib.hid (next_c g D 1 s w h (by decide))
  obtain ⟨b, e⟩ := s
  cases b with
  | nil =>
    have HN : Hid (nextR 1 ([], e) = ([], failR ([], e) 4)) := rfl
    rw [HN.out] at HC
    have HB : Hid (byteR ([], e) = (0, failR ([], e) 4)) := rfl
    rw [HB.out]
    clear h HN HB
    go_enter Try.func40, Try.ntmps40
    go_wp2_with fail
    refine HC.out.mono ?_
    rintro en w1 ⟨V, m, d, rfl, hr, _, h1, h2⟩
    obtain rfl : 0 = m := hr.len
    clear hr
    go_wp2
    go_ret
    exact ⟨rfl, h1, h2⟩
  | cons x r =>
    have HN : Hid (nextR 1 (x :: r, e) = ([x], (r, e))) := by show _ = _; rw [nextR, if_neg (by simp)]; rfl
    rw [HN.out] at HC
    have HB : Hid (byteR (x :: r, e) = (x, (r, e))) := rfl
    rw [HB.out]
    clear h HN HB
    go_enter Try.func40, Try.ntmps40
    go_wp2_with fail
    refine HC.out.mono ?_
    rintro en w1 ⟨V, m, d, rfl, hr, _, h1, h2⟩
    obtain rfl : 1 = m := hr.len
    obtain ⟨ad, rfl, _, hc⟩ := hr.cell 0 (by simp)
    have hc0 : w1.cell? ad = some (.int .u8 (x : Int)) := by simpa [Addr.add] using hc
    clear hr hc
    go_wp2
    go_ret
    exact ⟨rfl, h1, h2⟩
section
variable (g : Nat) (D : Option Nat) (s : List Nat × Int) (w : World) (h : RAt w g D s)
include h
set_option maxHeartbeats 800000 in
theorem rerr_c : Calls Try.prog 22 #[.pointer (some ⟨g, 0, none⟩)] w fun en w' => en = .returned (.int .i64 s.2) ∧ w = w' := by
  obtain ⟨A, N, C, hblk, hr, ho⟩ := h.ex
  have c1 : w.cell? ⟨g, 1, none⟩ = _ := hblk.cell 1
  simp only [List.getElem?_cons_zero, List.getElem?_cons_succ] at c1
  clear hblk hr ho h
  go_enter Try.func22, Try.ntmps22
  go_wp2
  go_ret
  exact ⟨rfl, rfl⟩
set_option maxHeartbeats 800000 in
theorem rleft_c : Calls Try.prog 23 #[.pointer (some ⟨g, 0, none⟩)] w fun en w' => en = .returned (.int .i64 (s.1.length : Int)) ∧ w = w' := by
  obtain ⟨A, N, C, hblk, hr, ho⟩ := h.ex
  have c0 : w.cell? ⟨g, 0, none⟩ = _ := hblk.cell 0
  simp only [List.getElem?_cons_zero] at c0
  have hl := hr.len
  rw [hl]
  clear hblk hr ho h hl
  go_enter Try.func23, Try.ntmps23
  go_wp2
  go_ret
  exact ⟨rfl, rfl⟩
end
/-! ### NewReader -/
def NewRPost (w : World) (b : List Nat) (en : Ending) (w' : World) : Prop := ∃ g D, en = .returned (.pointer (some ⟨g, 0, none⟩)) ∧ w.heap.size ≤ g ∧ (∀ h, D = some h → w.heap.size ≤ h) ∧ RAt w' g D (b, 0) ∧ Below w.heap.size w w'
set_option maxHeartbeats 800000 in
theorem newReader_c (A : Option Addr) (n c : Nat) (b : List Nat) (w : World) (hr : Reads .u8 w A n c b) (hn : n ≤ 1099511627776) :
    Calls Try.prog 18 #[.slice A n c] w (NewRPost w b) := by
  obtain ⟨i0, hi, hz0, hz1, hz2⟩ := info_parts infoU8
  have HR := Lib.hid hr
  clear hr
  go_enter Try.func18, Try.ntmps18
  go_wp2_with (at_builtin; refine wpList_appB rfl (.const (.slice none 0 0)) (.tmp 3) 38 rfl w.heap.size 5 i0 (.int .u8 0) 1 Try.underlying38 hi hz0 hz1 hz2 rfl (.slice none 0 0) 0 [] rfl (World.ownsRow_nil _ _ _ _) .u8 A n c b rfl HR.out (by unfold maxLen; omega) (by omega) (Nat.le_refl _) ?_; intro v1 w1 hown1 hgrow1 hat1; obtain ⟨A1, c1, rfl⟩ := own_form hown1)
  go_ret
  have hbel : Below w.heap.size w w1 := ⟨hgrow1.os, hgrow1.tape, hgrow1.output, hgrow1.size, fun i hi => hgrow1.block i hi (by simp [Value.ownBlock])⟩
  obtain ⟨A2, c2, e2, hr2⟩ := Reads.of_own (k := .u8) (l := b) (by simpa using hown1) (fun x hx => HR.out.wf x hx)
  have e3 : A1 = A2 ∧ c1 = c2 := by simpa using e2
  obtain ⟨rfl, rfl⟩ := e3
  have hD : ∀ h, A1.map Addr.block = some h → w.heap.size ≤ h ∧ h < w1.heap.size := by
    intro h e
    obtain ⟨ad, rfl, rfl⟩ := Option.map_eq_some_iff.1 e
    exact ⟨own_base hown1 _ rfl, own_lt hown1 _ rfl⟩
  refine ⟨w1.heap.size, A1.map Addr.block, rfl, hbel.size, fun h e => (hD h e).1, ⟨⟨A1, n, c1, ?_, hr2.keep ((Below.refl _ _).alloc (Nat.le_refl _) _), ?_⟩, fun e => absurd (hD _ e).2 (Nat.lt_irrefl _), fun h e => ?_, fun h => absurd rfl h⟩, hbel.alloc hbel.size _⟩
  · exact Blk.new w1 64 [.slice A1 n c1, .int .i64 0]
  · intro _ ad e
    rw [e]; rfl
  · rw [World.size_alloc]
    exact Nat.lt_succ_of_lt (hD h e).2
end Go.Proofs.Ytbmnpbmimhodbaa
