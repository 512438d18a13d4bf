/- What the functions round and schedule of package sha return, for every argument, as a walk through the translated text. Conditions: the block reads as 64 bytes. -/
import Derived.Test.YtjacfihpjolddaaDoorWordB
import Derived.Test.YtjacfihpjolddaaDoorShaMath
namespace Go.Proofs.YtjacfihpjolddaaDoor
open Go.ChangeShapes Go.WideShapes Go.RowKit

def u32s (l : List (BitVec 32)) : List Value := ints .u32 (l.map BitVec.toNat)
theorem length_u32s (l : List (BitVec 32)) : (u32s l).length = l.length := by simp [u32s, ints]

theorem u32s8 (a b c d e f g z : BitVec 32) : u32s [a, b, c, d, e, f, g, z] = [.int .u32 (a.toNat : Int), .int .u32 (b.toNat : Int), .int .u32 (c.toNat : Int), .int .u32 (d.toNat : Int), .int .u32 (e.toNat : Int), .int .u32 (f.toNat : Int), .int .u32 (g.toNat : Int), .int .u32 (z.toNat : Int)] := by
  simp only [u32s, ints, List.map]

theorem rotW_c (x r : BitVec 32) (n : Int) (k : Nat) (w : World) (hn : (n % 32).toNat = k) (hk : k ≤ 32) (hr : Hid (rotW x k = r)) :
    Calls Tryd.prog 44 #[.int .u32 (x.toNat : Int), .int .i64 n] w fun e w' => e = .returned (.int .u32 (r.toNat : Nat)) ∧ w = w' := by
  refine (rot_c x.toNat n w x.isLt).mono ?_
  rintro e w' ⟨rfl, rfl⟩
  exact ⟨by rw [← hr.out, rotW_nat _ _ hk, hn], rfl⟩

set_option maxHeartbeats 800000 in
theorem round_c (a b c d e f g z kw : BitVec 32) (w : World) :
    Calls Tryd.prog 42 #[.agg #[.int .u32 (a.toNat : Int), .int .u32 (b.toNat : Int), .int .u32 (c.toNat : Int), .int .u32 (d.toNat : Int), .int .u32 (e.toNat : Int), .int .u32 (f.toNat : Int), .int .u32 (g.toNat : Int), .int .u32 (z.toNat : Int)], .int .u32 (kw.toNat : Int)] w fun en w' => en = .returned (.agg (u32s (roundW [a, b, c, d, e, f, g, z] kw)).toArray) ∧ Below w.heap.size w w' := by
  obtain ⟨e6, he6⟩ : ∃ q, Hid (rotW e 6 = q) := ⟨_, rfl⟩
  obtain ⟨e11, he11⟩ : ∃ q, Hid (rotW e 11 = q) := ⟨_, rfl⟩
  obtain ⟨e25, he25⟩ : ∃ q, Hid (rotW e 25 = q) := ⟨_, rfl⟩
  obtain ⟨a2, ha2⟩ : ∃ q, Hid (rotW a 2 = q) := ⟨_, rfl⟩
  obtain ⟨a13, ha13⟩ : ∃ q, Hid (rotW a 13 = q) := ⟨_, rfl⟩
  obtain ⟨a22, ha22⟩ : ∃ q, Hid (rotW a 22 = q) := ⟨_, rfl⟩
  go_enter Tryd.func42, Tryd.ntmps42
  go_wp2_with fail
  go_quiet (fail)
  go_wp2_with fail
  go_quiet (fail)
  go_wp2_with fail
  refine (rotW_c e e6 _ _ _ (by decide) (by decide) he6).mono ?_
  rintro en w' ⟨rfl, rfl⟩
  go_wp2_with fail
  refine (rotW_c e e11 _ _ _ (by decide) (by decide) he11).mono ?_
  rintro en w' ⟨rfl, rfl⟩
  go_wp2_with fail
  refine (rotW_c e e25 _ _ _ (by decide) (by decide) he25).mono ?_
  rintro en w' ⟨rfl, rfl⟩
  go_wp2_with fail
  refine (rotW_c a a2 _ _ _ (by decide) (by decide) ha2).mono ?_
  rintro en w' ⟨rfl, rfl⟩
  go_wp2_with fail
  refine (rotW_c a a13 _ _ _ (by decide) (by decide) ha13).mono ?_
  rintro en w' ⟨rfl, rfl⟩
  go_wp2_with fail
  refine (rotW_c a a22 _ _ _ (by decide) (by decide) ha22).mono ?_
  rintro en w' ⟨rfl, rfl⟩
  go_upto_region 5 with (fail)
  simp only [bnotx, bxor, band, badd4, badd]
  rw [show z + (e6 ^^^ e11 ^^^ e25) + (e &&& f ^^^ ~~~e &&& g) + kw = tW e f g z kw from by rw [← he6.out, ← he11.out, ← he25.out]; rfl,
    show (a2 ^^^ a13 ^^^ a22) + (a &&& b ^^^ a &&& c ^^^ b &&& c) = uW a b c from by rw [← ha2.out, ← ha13.out, ← ha22.out]; rfl]
  generalize ht : tW e f g z kw = t
  generalize hu : uW a b c = u
  have HF : Hid (roundW [a, b, c, d, e, f, g, z] kw = [t + u, a, b, c, d + t, e, f, g]) := by
    show _ = _
    rw [roundW_eq, ht, hu]
  clear ht hu he6 he11 he25 ha2 ha13 ha22
  refine name_wp (fun w5 => Blk w5 w.heap.size 63 [.int .u32 (a.toNat : Int), .int .u32 (b.toNat : Int), .int .u32 (c.toNat : Int), .int .u32 (d.toNat : Int), .int .u32 (e.toNat : Int), .int .u32 (f.toNat : Int), .int .u32 (g.toNat : Int), .int .u32 (z.toNat : Int)] ∧
    Blk w5 (w.heap.size + 1) 63 [.int .u32 0, .int .u32 0, .int .u32 0, .int .u32 0, .int .u32 0, .int .u32 0, .int .u32 0, .int .u32 0] ∧ Below w.heap.size w w5)
    ⟨((Blk.new _ _ _).alloc _).drewN _, ?_, ?_⟩ ?_
  · have := Blk.new (w.alloc (.cells #[.int .u32 (a.toNat : Int), .int .u32 (b.toNat : Int), .int .u32 (c.toNat : Int), .int .u32 (d.toNat : Int), .int .u32 (e.toNat : Int), .int .u32 (f.toNat : Int), .int .u32 (g.toNat : Int), .int .u32 (z.toNat : Int)] 63)) 63 [.int .u32 0, .int .u32 0, .int .u32 0, .int .u32 0, .int .u32 0, .int .u32 0, .int .u32 0, .int .u32 0]
    rw [World.size_alloc] at this
    exact this.drewN _
  · exact belowDrewN (((Below.refl _ _).alloc (Nat.le_refl _) _).alloc (by simp) _) _
  rintro w5 ⟨hb1, hb2, hbel⟩
  go_still_tail 2, (by kernel_rfl)
  have HB1 := Lib.hid hb1
  have HB2 := Lib.hid hb2
  clear hb1 hb2
  refine wpList_copy_g rfl (.tmp 69) (.tmp 70) 50 50 rfl 53 Tryd.underlying50 (by kernel_rfl) (some ⟨w.heap.size, 1, none⟩) (some ⟨w.heap.size, 0, none⟩) 7 7 7 8 rfl rfl w.heap.size 1 _ _ HB1.out
    [.int .u32 (a.toNat : Int), .int .u32 (b.toNat : Int), .int .u32 (c.toNat : Int), .int .u32 (d.toNat : Int), .int .u32 (e.toNat : Int), .int .u32 (f.toNat : Int), .int .u32 (g.toNat : Int)] rfl ?_ ?_ ?_ ?_
  · exact fun _ => ⟨rfl, _, rfl, Blk.pre (rest := [.int .u32 (z.toNat : Int)]) HB1.out⟩
  · simp only [List.length_cons, List.length_nil]; decide
  · simp [Value.oneCell']
  intro w6 hb3 hg6
  replace hg6 := only_undrew hg6
  simp only [splice, List.take, List.drop, List.length, List.cons_append, List.nil_append, List.append_nil] at hb3
  have HB2' := Lib.hid (HB2.out.grown hg6 (by simp))
  have hbel6 := below_of_only hbel hg6 hbel.size (Nat.le_refl _)
  have hc4 : w6.cell? ⟨w.heap.size, 4, none⟩ = some (.int .u32 (d.toNat : Int)) := hb3.cell 4
  have hf4 := hb3.frozen 4
  have hc0 : w6.cell? ⟨w.heap.size, 0, none⟩ = some (.int .u32 (a.toNat : Int)) := hb3.cell 0
  have hf0 := hb3.frozen 0
  have HB3 := Lib.hid hb3
  clear hb3 hg6 HB2 HB1 hbel
  go_upto_region 8 with (fail)
  simp only [badd]
  have hb4 := (HB3.out.set_ 4 (.int .u32 ((d + t).toNat : Int))).set_ 0 (.int .u32 ((t + u).toNat : Int))
  simp only [List.set] at hb4
  rw [← u32s8] at hb4
  have HB4 := Lib.hid hb4
  clear hb4
  refine wp_region_lit ?_
  refine wpList_load_at rfl 63 (.tmp 2) rfl ⟨w.heap.size, 0, none⟩ rfl _ _ HB4.out.all Tryd.underlying63 rfl (by kernel_rfl) ?_
  refine wpList_store_at rfl rfl 63 (.tmp 4) (.tmp 81) rfl (w.heap.size + 1) 0 rfl _ rfl _ _ ((HB2'.out.far (by simp) _).far (by simp) _) ?_ ?_ (by kernel_rfl) ?_
  · rw [length_u32s]; simp only [List.length_cons, List.length_nil]; decide
  · exact ints_oneCell _ _
  intro w7 hb7 hg7
  have hbel7 : Below w.heap.size w w7 := by
    refine below_of_only ?_ hg7 ?_ ?_
    · exact (hbel6.setCell (Nat.le_refl _) _).setCell (Nat.le_refl _) _
    · simp only [World.size_setCell]; exact hbel6.size
    · exact Nat.le_succ _
  rw [splice_all _ _ (by rw [length_u32s]; simp only [List.length_cons, List.length_nil])] at hb7
  refine wpList_nil ?_
  go_wp2
  refine bodyPost_ret (v := .agg (u32s (roundW [a, b, c, d, e, f, g, z] kw)).toArray) ?_ rfl ⟨rfl, hbel7⟩
  rw [HF.out]
  exact results_cell_row rfl _ _ (w.heap.size + 1) _ _ _ _ rfl hb7 Tryd.underlying63 rfl (by kernel_rfl)

/-! ### schedule -/
def zero64 : List Value := ints .u32 (List.replicate 64 0)
theorem length_zero64 : zero64.length = 64 := by simp [zero64, ints]
theorem wordsL_64 (l : List Nat) (hl : l.length = 64) (h : ∀ x ∈ l, x < 256) : ints .u32 (wordsL l) = u32s (blockW l) := by
  rw [u32s, blockW_nat l h, wordsL, hl]
/-- The 64 cells while the schedule is being filled: k words stand. -/
def schedC (l : List Nat) (k : Nat) : List Value := u32s (schedN (blockW l) (k - 16)) ++ ints .u32 (List.replicate (64 - k) 0)
theorem length_schedC (l : List Nat) (k : Nat) (h : 16 ≤ k) (h2 : k ≤ 64) : (schedC l k).length = 64 := by
  simp [schedC, length_u32s, length_schedN, length_blockW, length_ints]; omega
theorem schedC_start (l : List Nat) : splice zero64 0 (u32s (blockW l)) = schedC l 16 := by
  simp [splice, schedC, schedN, zero64, length_u32s, length_blockW, ints]
theorem schedC_end (l : List Nat) : schedC l 64 = u32s (schedN (blockW l) 48) := by simp [schedC, ints]
theorem schedC_at (l : List Nat) (k j : Nat) (h : 16 ≤ k) (hj : j < k) : (schedC l k)[j]? = some (.int .u32 (((schedN (blockW l) (k - 16)).getD j 0).toNat : Int)) := by
  have hl : j < (schedN (blockW l) (k - 16)).length := by rw [length_schedN, length_blockW]; omega
  rw [schedC, List.getElem?_append_left (by rw [length_u32s]; exact hl)]
  simp [u32s, ints, List.getD_eq_getElem?_getD, hl]
theorem schedC_set (l : List Nat) (k : Nat) (h : 16 ≤ k) (h2 : k < 64) (x : BitVec 32) (hx : nextW (schedN (blockW l) (k - 16)) = x) : (schedC l k).set k (.int .u32 (x.toNat : Int)) = schedC l (k + 1) := by
  have hl : (u32s (schedN (blockW l) (k - 16))).length = k := by rw [length_u32s, length_schedN, length_blockW]; omega
  have e1 : List.replicate (64 - k) 0 = 0 :: List.replicate (64 - (k + 1)) 0 := by rw [← List.replicate_succ]; congr 1; omega
  rw [schedC, schedC, show k + 1 - 16 = (k - 16) + 1 by omega, schedN, hx, e1, List.set_append_right _ _ (by omega), hl, Nat.sub_self]
  simp [u32s, ints]
theorem nextW_eq (l : List (BitVec 32)) (k : Nat) (h : l.length = k) (a b c d : BitVec 32) (ha : l.getD (k - 16) 0 = a) (hb : l.getD (k - 15) 0 = b) (hc : l.getD (k - 7) 0 = c) (hd : l.getD (k - 2) 0 = d) :
    nextW l = a + sig0 b + c + sig1 d := by
  unfold nextW; rw [h, ha, hb, hc, hd]
set_option maxRecDepth 100000 in
set_option maxHeartbeats 1600000 in
theorem schedule_c (A : Option Addr) (c : Nat) (l : List Nat) (w : World) (h : Reads .u8 w A 64 c l) :
    Calls Tryd.prog 41 #[.slice A 64 c] w fun en w' => en = .returned (.agg (u32s (schedN (blockW l) 48)).toArray) ∧ Below w.heap.size w w' := by
  have hW := wordsL_64 l h.len (fun x hx => wf_u8.1 (h.wf x hx))
  have HW := Lib.hid hW
  clear hW
  go_enter Tryd.func41, Tryd.ntmps41
  go_wp2_with fail
  refine name_Calls (fun w2 => Blk w2 w.heap.size 71 zero64 ∧ Blk w2 (w.heap.size + 1) 71 zero64 ∧ Below w.heap.size w w2 ∧ w2.heap.size = w.heap.size + 2) ⟨?_, ?_, ?_, ?_⟩ ?_
  · exact (Blk.new _ _ zero64).alloc _
  · have := Blk.new (w.alloc (.cells zero64.toArray 71)) 71 zero64
    rw [World.size_alloc] at this
    exact this
  · exact ((Below.refl _ _).alloc (Nat.le_refl _) _).alloc (by simp) _
  · simp
  rintro w2 ⟨hb1, hb2, hbel, hsz⟩
  have hr2 := h.keep hbel
  refine (words_ok A 16 64 c l _ hr2 (show 4 * 16 = 64 by decide) (by decide) (by decide)).mono ?_
  rintro en w3 ⟨rfl, hown, hbel3⟩
  rw [HW.out] at hown
  have HB1 := Lib.hid (hb1.below hbel3 (by omega))
  have HB2 := Lib.hid (hb2.below hbel3 (by omega))
  have hbelw3 := hbel.trans (hbel3.mono hbel.size)
  generalize w2.heap.size = g2 at *
  clear hb1 hb2 h hr2 hsz hbel hbel3 HW
  go_upto_region 3 with (fail)
  refine wp_region_lit ?_
  go_wp2_with ((with_reducible refine at_copy ?_); refine wpList_copy_g (o := ⟨some 18, _, _, _, _, _⟩) rfl (.tmp 16) (.tmp 17) 50 50 rfl 53 Tryd.underlying50 (by kernel_rfl) (some ⟨w.heap.size + 1, 0, none⟩) (some ⟨g2, 0, none⟩) 64 64 16 16 rfl rfl (w.heap.size + 1) 0 _ _ HB2.out (u32s (blockW l)) (by rw [length_u32s, length_blockW]; rfl) (fun _ => ⟨rfl, _, rfl, hown.cells rfl⟩) (by rw [length_u32s, length_blockW, length_zero64]; decide) (ints_oneCell _ _) ?_; intro w4 hb4 hg4)
  rw [schedC_start] at hb4
  have hbel4 := below_of_only hbelw3 hg4 hbelw3.size (Nat.le_succ _)
  have hb1 := HB1.out.grown hg4 (by simp)
  rw [length_u32s, length_blockW, show ((16 : Nat) : Int) = (16 : Int) from rfl]
  have HB := Lib.hid hb4
  have HB1' := Lib.hid hb1
  clear HB1 HB2 hown hg4 hbelw3 hb4 hb1
  go_wp2_with fail
  go_loopw [6] (fun i wr => ∃ k : Nat, 16 ≤ k ∧ k ≤ 64 ∧ i = .int .i64 k ∧ Blk wr w.heap.size 71 zero64 ∧ Blk wr (w.heap.size + 1) 71 (schedC l k) ∧ Below w.heap.size w wr) (fun i _ => 64 - (intOf i).toNat)
  case atStart => exact ⟨16, by omega, by omega, rfl, HB1'.out, HB.out, hbel4⟩
  case round =>
    clear HB HB1' hbel4
    obtain ⟨k, hk1, hk2, rfl, hb1, hb2, hbel⟩ := hrel
    by_cases hlt : k < 64
    · have c15 := (hb2.cell (k - 15)).trans (schedC_at l k (k - 15) hk1 (by omega))
      have c2 := (hb2.cell (k - 2)).trans (schedC_at l k (k - 2) hk1 (by omega))
      have c16 := (hb2.cell (k - 16)).trans (schedC_at l k (k - 16) hk1 (by omega))
      have c7 := (hb2.cell (k - 7)).trans (schedC_at l k (k - 7) hk1 (by omega))
      have hN := nextW_eq (schedN (blockW l) (k - 16)) k (by rw [length_schedN, length_blockW]; omega) _ _ _ _ rfl rfl rfl rfl
      generalize (schedN (blockW l) (k - 16)).getD (k - 15) 0 = x15 at *
      generalize (schedN (blockW l) (k - 16)).getD (k - 2) 0 = x2 at *
      generalize (schedN (blockW l) (k - 16)).getD (k - 16) 0 = x16 at *
      generalize (schedN (blockW l) (k - 16)).getD (k - 7) 0 = x7 at *
      have HB1 := Lib.hid hb1
      have HB2 := Lib.hid hb2
      have HN := Lib.hid hN
      clear hb1 hb2 hN
      obtain ⟨r7, h7⟩ : ∃ q, Hid (rotW x15 7 = q) := ⟨_, rfl⟩
      obtain ⟨r18, h18⟩ : ∃ q, Hid (rotW x15 18 = q) := ⟨_, rfl⟩
      obtain ⟨r17, h17⟩ : ∃ q, Hid (rotW x2 17 = q) := ⟨_, rfl⟩
      obtain ⟨r19, h19⟩ : ∃ q, Hid (rotW x2 19 = q) := ⟨_, rfl⟩
      have i15 : IntKind.i64.wrap ((k : Int) - 15) = (k : Int) - 15 := IntWalk.i64_in _ (by omega)
      have i2 : IntKind.i64.wrap ((k : Int) - 2) = (k : Int) - 2 := IntWalk.i64_in _ (by omega)
      have i16 : IntKind.i64.wrap ((k : Int) - 16) = (k : Int) - 16 := IntWalk.i64_in _ (by omega)
      have i7 : IntKind.i64.wrap ((k : Int) - 7) = (k : Int) - 7 := IntWalk.i64_in _ (by omega)
      have t15 : ((k : Int) - 15).toNat = k - 15 := by omega
      have t2 : ((k : Int) - 2).toNat = k - 2 := by omega
      have t16 : ((k : Int) - 16).toNat = k - 16 := by omega
      have t7 : ((k : Int) - 7).toNat = k - 7 := by omega
      have p15 : 0 ≤ (k : Int) - 15 := by omega
      have p2 : 0 ≤ (k : Int) - 2 := by omega
      have p16 : 0 ≤ (k : Int) - 16 := by omega
      have p7 : 0 ≤ (k : Int) - 7 := by omega
      have q15 : (k : Int) - 15 < 64 := by omega
      have q2 : (k : Int) - 2 < 64 := by omega
      have q16 : (k : Int) - 16 < 64 := by omega
      have q7 : (k : Int) - 7 < 64 := by omega
      go_wp2_with fail
      go_quiet (fail)
      go_wp2_with fail
      refine (rotW_c x15 r7 _ _ _ (by decide) (by decide) h7).mono ?_
      rintro en w' ⟨rfl, rfl⟩
      go_wp2_with fail
      refine (rotW_c x15 r18 _ _ _ (by decide) (by decide) h18).mono ?_
      rintro en w' ⟨rfl, rfl⟩
      go_wp2_with fail
      refine (rotW_c x2 r17 _ _ _ (by decide) (by decide) h17).mono ?_
      rintro en w' ⟨rfl, rfl⟩
      go_wp2_with fail
      refine (rotW_c x2 r19 _ _ _ (by decide) (by decide) h19).mono ?_
      rintro en w' ⟨rfl, rfl⟩
      go_upto_region 9 with (fail)
      simp only [bshr3, bshr10, bxor]
      rw [show r7 ^^^ r18 ^^^ x15 >>> 3 = sig0 x15 from by rw [← h7.out, ← h18.out]; rfl, show r17 ^^^ r19 ^^^ x2 >>> 10 = sig1 x2 from by rw [← h17.out, ← h19.out]; rfl]
      clear h7 h18 h17 h19 i15 i2 t15 t2 p15 p2 q15 q2 c15 c2
      generalize sig0 x15 = s0 at *
      generalize sig1 x2 = s1 at *
      refine name_wp (fun w5 => w5.heap = wr.heap ∧ Below w.heap.size w w5) ⟨rfl, belowDrewN hbel _⟩ ?_
      rintro w5 ⟨hheap, hbel5⟩
      have hb1 := HB1.out.of_heap hheap
      have hb2 := HB2.out.of_heap hheap
      have d16 : w5.cell? ⟨w.heap.size + 1, k - 16, none⟩ = some (.int .u32 (x16.toNat : Int)) := by rw [← c16, hb2.cell, HB2.out.cell]
      have d7 : w5.cell? ⟨w.heap.size + 1, k - 7, none⟩ = some (.int .u32 (x7.toNat : Int)) := by rw [← c7, hb2.cell, HB2.out.cell]
      clear hbel c16 c7 hheap HB1 HB2
      obtain ⟨v, dk⟩ : ∃ v, w5.cell? ⟨w.heap.size + 1, k, none⟩ = some v := ⟨_, hb2.cellAt k (by rw [length_schedC l k hk1 hk2]; exact hlt)⟩
      have fk := hb2.frozen k
      have HB1 := Lib.hid hb1
      have HB2 := Lib.hid hb2
      clear hb1 hb2
      have hlt2 : (k : Int) < 64 := by omega
      go_region
      go_wp2
      go_roundw
      case rel =>
        simp only [badd4]
        refine ⟨k + 1, by omega, by omega, by go_num, ?_, ?_, ?_⟩
        · exact (HB1.out.far (by simp) _).drew
        · rw [← schedC_set l k hk1 hlt _ HN.out]
          exact (HB2.out.set_ _ _).drew
        · exact (hbel5.setCell (Nat.le_succ _) _).drew
      case measure => simp [intOf]; omega
    · have hk : k = 64 := by omega
      subst hk
      have HB1 := Lib.hid hb1
      rw [schedC_end] at hb2
      have HB2 := Lib.hid hb2
      clear hb1 hb2
      go_upto_region 10 with (fail)
      refine wp_region_lit ?_
      refine wpList_load_at rfl 71 (.tmp 3) rfl ⟨w.heap.size + 1, 0, none⟩ rfl _ _ HB2.out.all Tryd.underlying71 rfl ?_ ?_
      · rw [length_u32s, length_schedN, length_blockW]; kernel_rfl
      refine wpList_store_at rfl rfl 71 (.tmp 2) (.tmp 62) rfl w.heap.size 0 rfl _ rfl _ _ HB1.out ?_ (ints_oneCell _ _) ?_ ?_
      · rw [length_u32s, length_schedN, length_blockW, length_zero64]; decide
      · rw [length_u32s, length_schedN, length_blockW]; kernel_rfl
      intro w7 hb7 hg7
      have hbel7 := below_of_only hbel hg7 hbel.size (Nat.le_refl _)
      rw [splice_all _ _ (by rw [length_u32s, length_schedN, length_blockW, length_zero64])] at hb7
      refine wpList_nil ?_
      go_wp2
      refine bodyPost_ret (v := .agg (u32s (schedN (blockW l) 48)).toArray) ?_ rfl ⟨rfl, hbel7⟩
      refine results_cell_row rfl _ _ w.heap.size _ _ _ _ rfl hb7 Tryd.underlying71 rfl ?_
      rw [List.size_toArray, length_u32s, length_schedN, length_blockW]; kernel_rfl
end Go.Proofs.YtjacfihpjolddaaDoor
