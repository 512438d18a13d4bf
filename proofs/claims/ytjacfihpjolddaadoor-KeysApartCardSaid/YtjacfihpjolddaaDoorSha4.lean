/- What the methods Write and Sum of a Hash and the function Sum of package sha do, for every argument, as a walk through the translated text. Conditions: the bytes read as a list, the Hash lies in a block of its own, the table of the rounds' constants holds what the program lays there. -/
import Derived.Test.YtjacfihpjolddaaDoorSha3
import Derived.Test.YtjacfihpjolddaaDoorRegs
import Derived.Deep.RegionWith
namespace Go.Proofs.YtjacfihpjolddaaDoor
open Go.ChangeShapes Go.WideShapes Go.RowKit

/-- What stands in a Hash's block, with the message cut off at j bytes of l. -/
theorem hashC_copy (ws : List (BitVec 32)) (rest xs : List Nat) (n r : Nat) (h : ws.length = 8) (hr : rest.length = 64) (hx : r + xs.length ≤ 64) :
    splice (hashC ws rest n) (8 + r) (ints .u8 xs) = hashC ws (splice rest r xs) n := by
  have e1 : (hashC ws rest n).take (8 + r) = u32s ws ++ ints .u8 (rest.take r) := by
    rw [hashC, List.take_append, length_u32s, h, List.take_of_length_le (by rw [length_u32s]; omega), Nat.add_sub_cancel_left, List.take_append_of_le_length (by rw [length_ints]; omega)]
    simp [ints, List.map_take]
  have e2 : (hashC ws rest n).drop (8 + r + xs.length) = ints .u8 (rest.drop (r + xs.length)) ++ [.int .i64 (n : Int)] := by
    rw [hashC, List.drop_append, length_u32s, h, List.drop_eq_nil_of_le (by rw [length_u32s]; omega), List.nil_append, show 8 + r + xs.length - 8 = r + xs.length by omega, List.drop_append_of_le_length (by rw [length_ints]; omega)]
    simp [ints, List.map_drop]
  rw [splice, length_ints, e1, e2, hashC, splice, ints_append, ints_append]
  simp only [List.append_assoc]
theorem hashC_setSize (ws : List (BitVec 32)) (rest : List Nat) (n m : Nat) (h : ws.length = 8) (hr : rest.length = 64) : (hashC ws rest n).set 72 (.int .i64 (m : Int)) = hashC ws rest m := by
  rw [hashC, List.set_append_right _ _ (by rw [length_u32s]; omega), length_u32s, h, List.set_append_right _ _ (by rw [length_ints]; omega), length_ints, hr]
  rfl
theorem hashC_words (ws vs : List (BitVec 32)) (rest : List Nat) (n : Nat) (h : ws.length = 8) (hv : vs.length = 8) : splice (hashC ws rest n) 0 (u32s vs) = hashC vs rest n := by
  rw [splice, List.take_zero, List.nil_append, length_u32s, hv, Nat.zero_add, hashC, List.drop_left' (by rw [length_u32s, h]), hashC]
theorem take_splice (rest xs : List Nat) (r : Nat) (hr : r + xs.length ≤ rest.length) : (splice rest r xs).take (r + xs.length) = rest.take r ++ xs := by
  rw [splice, ← List.append_assoc, List.take_append_of_le_length (by simp; omega), List.take_of_length_le (by simp; omega)]
/-- m bytes more: the block is not full yet. -/
theorem more_rest (msg xs rest : List Nat) (h1 : rest.length = 64) (h3 : rest.take (msg.length % 64) = msg.drop (64 * (msg.length / 64))) (hm : msg.length % 64 + xs.length < 64) :
    (splice rest (msg.length % 64) xs).take ((msg ++ xs).length % 64) = (msg ++ xs).drop (64 * ((msg ++ xs).length / 64)) ∧ (msg ++ xs).length / 64 = msg.length / 64 := by
  have hq : (msg ++ xs).length / 64 = msg.length / 64 := by rw [List.length_append]; omega
  have hmod : (msg ++ xs).length % 64 = msg.length % 64 + xs.length := by rw [List.length_append]; omega
  refine ⟨?_, hq⟩
  rw [hq, hmod, take_splice _ _ _ (by omega), h3, List.drop_append_of_le_length (by omega)]
/-- m bytes more fill the block. -/
theorem more_full (msg xs rest : List Nat) (h1 : rest.length = 64) (h3 : rest.take (msg.length % 64) = msg.drop (64 * (msg.length / 64))) (hm : msg.length % 64 + xs.length = 64) :
    splice rest (msg.length % 64) xs = ((msg ++ xs).drop (64 * (msg.length / 64))).take 64 ∧ (msg ++ xs).length / 64 = msg.length / 64 + 1 ∧ (msg ++ xs).length % 64 = 0 ∧ (msg ++ xs).drop (64 * ((msg ++ xs).length / 64)) = [] := by
  have hl : (msg ++ xs).length = 64 * (msg.length / 64 + 1) := by rw [List.length_append]; omega
  refine ⟨?_, by omega, by omega, List.drop_eq_nil_of_le (by omega)⟩
  have e := take_splice rest xs (msg.length % 64) (by omega)
  rw [hm, List.take_of_length_le (by rw [length_splice _ _ _ (by omega)]; omega), h3] at e
  rw [e, List.drop_append_of_le_length (by omega), List.take_of_length_le (by simp; omega)]

theorem KT.of_heap {w w' : World} (h : KT w) (e : w'.heap = w.heap) : KT w' := fun i hi => (World.cell?_of_block (by rw [e])).trans (h i hi)

theorem hash8 {w : World} {k : Nat} {t : TypeId} {a b c d e f g z : BitVec 32} {rest : List Nat} {n : Nat} (h : Blk w k t (hashC [a, b, c, d, e, f, g, z] rest n)) :
    w.cell? ⟨k, 0, none⟩ = some (.int .u32 (a.toNat : Int)) ∧ w.cell? ⟨k, 1, none⟩ = some (.int .u32 (b.toNat : Int)) ∧ w.cell? ⟨k, 2, none⟩ = some (.int .u32 (c.toNat : Int)) ∧ w.cell? ⟨k, 3, none⟩ = some (.int .u32 (d.toNat : Int)) ∧
    w.cell? ⟨k, 4, none⟩ = some (.int .u32 (e.toNat : Int)) ∧ w.cell? ⟨k, 5, none⟩ = some (.int .u32 (f.toNat : Int)) ∧ w.cell? ⟨k, 6, none⟩ = some (.int .u32 (g.toNat : Int)) ∧ w.cell? ⟨k, 7, none⟩ = some (.int .u32 (z.toNat : Int)) := by
  rw [hashC, u32s8] at h
  exact ⟨h.cell 0, h.cell 1, h.cell 2, h.cell 3, h.cell 4, h.cell 5, h.cell 6, h.cell 7⟩
theorem hash8_set (a b c d e f g z a' b' c' d' e' f' g' z' : BitVec 32) (rest : List Nat) (n : Nat) :
    ((((((((hashC [a, b, c, d, e, f, g, z] rest n).set 0 (.int .u32 (a'.toNat : Int))).set 1 (.int .u32 (b'.toNat : Int))).set 2 (.int .u32 (c'.toNat : Int))).set 3 (.int .u32 (d'.toNat : Int))).set 4 (.int .u32 (e'.toNat : Int))).set 5 (.int .u32 (f'.toNat : Int))).set 6 (.int .u32 (g'.toNat : Int))).set 7 (.int .u32 (z'.toNat : Int)) = hashC [a', b', c', d', e', f', g', z'] rest n := by
  simp only [hashC, u32s8, List.cons_append, List.nil_append, List.set]
theorem only8 {v w : World} {k : Nat} (a' b' c' d' e' f' g' z' : BitVec 32) (h : v.grownBy w (some k)) : v.grownBy ((((((((w.setCell ⟨k, 0, none⟩ (.int .u32 (a'.toNat : Int))).setCell ⟨k, 1, none⟩ (.int .u32 (b'.toNat : Int))).setCell ⟨k, 2, none⟩ (.int .u32 (c'.toNat : Int))).setCell ⟨k, 3, none⟩ (.int .u32 (d'.toNat : Int))).setCell ⟨k, 4, none⟩ (.int .u32 (e'.toNat : Int))).setCell ⟨k, 5, none⟩ (.int .u32 (f'.toNat : Int))).setCell ⟨k, 6, none⟩ (.int .u32 (g'.toNat : Int))).setCell ⟨k, 7, none⟩ (.int .u32 (z'.toNat : Int))) (some k) :=
  only_setCell (only_setCell (only_setCell (only_setCell (only_setCell (only_setCell (only_setCell (only_setCell h rfl _) rfl _) rfl _) rfl _) rfl _) rfl _) rfl _) rfl _
theorem blk8 {w : World} {k : Nat} {t : TypeId} {a b c d e f g z : BitVec 32} (a' b' c' d' e' f' g' z' : BitVec 32) {rest : List Nat} {n : Nat} (h : Blk w k t (hashC [a, b, c, d, e, f, g, z] rest n)) : Blk ((((((((w.setCell ⟨k, 0, none⟩ (.int .u32 (a'.toNat : Int))).setCell ⟨k, 1, none⟩ (.int .u32 (b'.toNat : Int))).setCell ⟨k, 2, none⟩ (.int .u32 (c'.toNat : Int))).setCell ⟨k, 3, none⟩ (.int .u32 (d'.toNat : Int))).setCell ⟨k, 4, none⟩ (.int .u32 (e'.toNat : Int))).setCell ⟨k, 5, none⟩ (.int .u32 (f'.toNat : Int))).setCell ⟨k, 6, none⟩ (.int .u32 (g'.toNat : Int))).setCell ⟨k, 7, none⟩ (.int .u32 (z'.toNat : Int))) k t (hashC [a', b', c', d', e', f', g', z'] rest n) := by
  rw [← hash8_set a b c d e f g z]
  exact (((((((h.set_ _ _).set_ _ _).set_ _ _).set_ _ _).set_ _ _).set_ _ _).set_ _ _).set_ _ _
def RoundsPost (W : World) (a b c d e f g z : BitVec 32) (en : Ending) (w' : World) : Prop :=
  en = .returned (.tuple #[.agg #[.int .u32 (a.toNat : Int), .int .u32 (b.toNat : Int), .int .u32 (c.toNat : Int), .int .u32 (d.toNat : Int), .int .u32 (e.toNat : Int), .int .u32 (f.toNat : Int), .int .u32 (g.toNat : Int), .int .u32 (z.toNat : Int)], .int .i64 0]) ∧ Below W.heap.size W w'
theorem rounds8_ok (a b c d e f g z a' b' c' d' e' f' g' z' : BitVec 32) (A : Option Addr) (cp : Nat) (l : List Nat) (w : World) (hx : roundsW [a, b, c, d, e, f, g, z] l = [a', b', c', d', e', f', g', z']) (hr : Reads .u8 w A 64 cp l) (hk : KT w) :
    Calls Tryd.prog 37 #[.agg #[.int .u32 (a.toNat : Int), .int .u32 (b.toNat : Int), .int .u32 (c.toNat : Int), .int .u32 (d.toNat : Int), .int .u32 (e.toNat : Int), .int .u32 (f.toNat : Int), .int .u32 (g.toNat : Int), .int .u32 (z.toNat : Int)], .slice A 64 cp] w (RoundsPost w a' b' c' d' e' f' g' z') := by
  have h := rounds_ok [a, b, c, d, e, f, g, z] A cp l w rfl hr hk
  rw [u32s8, hx, u32s8] at h
  exact h
theorem reads_rest {w : World} {g : Nat} {t : TypeId} {ws : List (BitVec 32)} {rest : List Nat} {n : Nat} (h : Blk w g t (hashC ws rest n)) (hw : ws.length = 8) (hr : rest.length = 64) (h2 : ∀ x ∈ rest, x < 256) : Reads .u8 w (some ⟨g, 8, none⟩) 64 64 rest := by
  refine ⟨hr, Nat.le_refl _, by simp [maxLen], fun x hx => wf_u8.2 (h2 x hx), fun i hi => ⟨_, rfl, h.lt, ?_⟩⟩
  exact Blk.mid (pre := u32s ws) (cs := ints .u8 rest) 8 (by rw [length_u32s, hw]) h i _ (by simp [ints, hi])
theorem splice_lt (rest xs : List Nat) (r : Nat) (h : ∀ x ∈ rest, x < 256) (hx : ∀ x ∈ xs, x < 256) : ∀ x ∈ splice rest r xs, x < 256 := by
  intro x h'
  simp only [splice, List.mem_append] at h'
  rcases h' with h' | h' | h'
  · exact h x (List.mem_of_mem_take h')
  · exact hx x h'
  · exact h x (List.mem_of_mem_drop h')
def WritePost (w : World) (g : Nat) (msg : List Nat) (en : Ending) (w' : World) : Prop := (∃ v, en = .returned v) ∧ HashAt w' g msg ∧ w.grownBy w' (some g)
set_option maxRecDepth 100000 in
set_option maxHeartbeats 3200000 in
theorem write_c (g : Nat) (A : Option Addr) (n c : Nat) (msg l : List Nat) (w : World) (hh : HashAt w g msg) (hr : Reads .u8 w A n c l) (ho : 0 < n → Off A g) (hk : KT w) (hg : 0 < g) (hb : msg.length + n ≤ 1099511627776) :
    Calls Tryd.prog 28 #[.pointer (some ⟨g, 0, none⟩), .slice A n c] w (WritePost w g (msg ++ l)) := by
  have hll := hr.len
  have HLL := Lib.hid hll
  clear hll
  go_enter Tryd.func28, Tryd.ntmps28
  go_wp2_with fail
  go_loopw [1] (fun b wr => ∃ (j m c' : Nat) (A' : Option Addr), j + m = n ∧ b = .slice A' m c' ∧ Reads .u8 wr A' m c' (l.drop j) ∧ (0 < m → Off A' g) ∧ HashAt wr g (msg ++ l.take j) ∧ KT wr ∧ w.grownBy wr (some g)) (fun b _ => match b with | .slice _ m _ => m | _ => 0)
  case atStart => exact ⟨0, n, c, A, by omega, rfl, by simpa using hr, ho, by simpa using hh, hk, World.grownBy.refl w _⟩
  case round =>
    clear hr ho hh hk
    obtain ⟨j, m, c', A', hjm, rfl, hr, ho', hh, hk, hgr⟩ := hrel
    by_cases hm : 0 < m
    · have ho := ho' hm
      clear ho'
      obtain ⟨M, hM⟩ : ∃ M, Hid (msg ++ l.take j = M) := ⟨_, rfl⟩
      rw [hM.out] at hh
      obtain ⟨rest, h1, h2, h3, h4⟩ := hh.ex
      have hsz : M.length ≤ 1099511627776 := by rw [← hM.out, List.length_append, List.length_take, HLL.out]; omega
      have hMl : M.length + m ≤ 1099511627776 := by rw [← hM.out, List.length_append, List.length_take, HLL.out]; omega
      have hrl := hr.len
      obtain ⟨ad, rfl, hadlt, hcel⟩ := hr.cell 0 (by rw [hrl]; exact hm)
      clear hcel
      have c72 := hh.sizeCell
      have f72 := h4.frozen 72
      have hwl := length_blocksW M (M.length / 64)
      obtain ⟨r, hr64⟩ : ∃ r, Hid (M.length % 64 = r) := ⟨_, rfl⟩
      have hrlt : r < 64 := by rw [← hr64.out]; exact Nat.mod_lt _ (by decide)
      have htm : Int.tmod (M.length : Int) 64 = (r : Int) := by rw [← hr64.out, Int.tmod_eq_emod_of_nonneg (by omega)]; omega
      obtain ⟨p, hp⟩ : ∃ p, Hid (p = Nat.min m (64 - r)) := ⟨_, rfl⟩
      have hpm : p ≤ m := by rw [hp.out]; exact Nat.min_le_left _ _
      have hpr : p ≤ 64 - r := by rw [hp.out]; exact Nat.min_le_right _ _
      have hp0 : 0 < p := by have := hp.out; simp only [Nat.min_def] at this; split at this <;> omega
      have hxl : ((l.drop j).take p).length = p := by rw [List.length_take, hrl]; omega
      have hcopy := hashC_copy (blocksW M (M.length / 64)) rest ((l.drop j).take p) M.length r hwl h1 (by rw [hxl]; omega)
      have hsrc : ∀ i v, (ints .u8 ((l.drop j).take p))[i]? = some v → wr.cell? (ad.add i) = some v := by
        intro i v hv
        have hi : i < p := by
          rcases Nat.lt_or_ge i p with h | h
          · exact h
          · rw [List.getElem?_eq_none (by rw [length_ints, hxl]; exact h)] at hv; cases hv
        obtain ⟨ad', e, _, hc⟩ := hr.cell i (by rw [hrl]; omega)
        cases e
        rw [hc, ← hv]
        simp [ints, hi, show j + i < l.length by rw [HLL.out]; omega]
      have H4 := Lib.hid h4
      have HC := Lib.hid hcopy
      have HSRC := Lib.hid hsrc
      have HXL := Lib.hid hxl
      have HLT : Hid (∀ x ∈ splice rest r ((l.drop j).take p), x < 256) := splice_lt _ _ _ h2 (fun x hx => wf_u8.1 (hr.wf x (List.mem_of_mem_take hx)))
      have H1 := Lib.hid h1
      have H2 := Lib.hid h2
      have H3 := Lib.hid h3
      have HWL := Lib.hid hwl
      have HR := Lib.hid hr
      have HRL := Lib.hid hrl
      have HJM := Lib.hid hjm
      clear h4 hcopy hsrc hxl h1 h2 h3 hwl hr hrl hjm hh
      generalize hs : M.length = sz at *
      have HS := Lib.hid hs
      clear hs
      have r0 : 0 ≤ (r : Int) := by omega
      have r64 : (r : Int) ≤ 64 := by omega
      have r65 : r ≤ 64 := by omega
      have rne : ¬ 64 = r := by omega
      go_upto_region 1 with (fail)
      go_still_tail 10, (by kernel_rfl)
      refine wpList_copy_g rfl (.tmp 16) (.tmp 17) 32 32 rfl 5 Tryd.underlying32 infoU8s (some ⟨g, 8 + r, none⟩) (some ad) (64 - r) (64 - r) m c' rfl rfl g (8 + r) _ _ H4.out (ints .u8 ((l.drop j).take p)) (by rw [length_ints, HXL.out]; exact hp.out) (fun _ => ⟨rfl, ad, rfl, HSRC.out⟩) (by rw [length_ints, HXL.out, length_hashC _ _ _ HWL.out H1.out]; omega) (ints_oneCell _ _) ?_
      intro w5 hb5 hg5
      rw [HC.out] at hb5
      replace hg5 := only_undrew hg5
      rw [length_ints, HXL.out]
      have hl5 : (splice rest r ((l.drop j).take p)).length = 64 := by rw [length_splice _ _ _ (by rw [HXL.out, H1.out]; omega), H1.out]
      have d72 := (hb5.cell 72).trans (hashC_size _ _ _ HWL.out hl5)
      have e72 := hb5.frozen 72
      have hb6 := hb5.set_ 72 (.int .i64 ((sz + p : Nat) : Int))
      rw [hashC_setSize _ _ _ _ HWL.out hl5] at hb6
      have HB6 := Lib.hid hb6
      have HL5 := Lib.hid hl5
      have HR5 := Lib.hid (HR.out.only ho hg5)
      have hk5 := hk.only hg5 hg
      have hgr5 := only_trans hgr hg5
      clear hb5 hb6 hl5 hg5 H4 HC HSRC HR hk hgr c72 f72 htm r0 r64 r65 rne hadlt
      have hroom := HR5.out.room
      have p1 : ((p : Int)).toNat = p := by omega
      have p2 : (p : Int) ≤ (m : Int) := by omega
      have p3 : 0 ≤ (p : Int) := by omega
      have hcast : (sz : Int) + (p : Int) = ((sz + p : Nat) : Int) := by omega
      have HCAST := Lib.hid hcast
      clear hcast
      obtain ⟨sz2, hsz2⟩ : ∃ s2, Hid (sz + p = s2) := ⟨_, rfl⟩
      have hsz2b : sz2 ≤ 1099511627776 := by have := hsz2.out; omega
      have hmr : (sz2 : Int) % 64 = ((r + p) % 64 : Nat) := by have := hsz2.out; have := hr64.out; have := HS.out; omega
      have HMR := Lib.hid hmr
      clear hmr
      have HJP : Hid (msg ++ l.take (j + p) = M ++ (l.drop j).take p) := by show _ = _; rw [← hM.out, List.take_add, List.append_assoc]
      have hr2 : Reads .u8 w5 (if c' = p then some ad else some (ad.add p)) (m - p) (c' - p) (l.drop (j + p)) := by
        by_cases hcap : c' = p
        · have hnil : l.drop (j + p) = [] := List.drop_eq_nil_of_le (by rw [HLL.out]; have := HJM.out; omega)
          rw [hnil, show m - p = 0 by omega]
          exact Reads.nil.2 (by have := HR5.out.cap; omega)
        · have := HR5.out.sub p (m - p) (by omega)
          rw [if_neg hcap]
          rwa [List.drop_drop, List.take_of_length_le (by rw [List.length_drop, HLL.out]; have := HJM.out; omega)] at this
      have ho2 : Off (if c' = p then some ad else some (ad.add p)) g := by
        intro ad' e
        split at e
        · exact ho ad' e
        · cases e; rw [block_add]; exact ho ad rfl
      have HR2' := Lib.hid hr2
      have HO2' := Lib.hid ho2
      clear hr2 ho2
      by_cases hcap : c' = p
      all_goals
        go_upto_region 4 with (fail)
        rw [HCAST.out, hsz2.out]
        have hr2 := HR2'.out
        have ho2 := HO2'.out
        first
          | rw [if_pos hcap, show c' - p = 0 from by omega] at hr2; rw [if_pos hcap] at ho2
          | rw [if_neg hcap] at hr2 ho2
        refine name_wp (fun w6 => Blk w6 g 66 (hashC (blocksW M (sz / 64)) (splice rest r ((l.drop j).take p)) sz2) ∧ Reads .u8 w6 _ (m - p) _ (l.drop (j + p)) ∧ KT w6 ∧ w.grownBy w6 (some g)) ⟨by rw [← hsz2.out]; exact HB6.out, hr2.only ho2 (only_setCell (World.grownBy.refl _ _) rfl _), hk5.only (only_setCell (World.grownBy.refl _ _) rfl _) hg, only_setCell hgr5 rfl _⟩ ?_
        rintro w6 ⟨hb6, hr6, hk6, hgr6⟩
        have c72 := (hb6.cell 72).trans (hashC_size _ _ _ HWL.out HL5.out)
        have HR6 := Lib.hid hr6
        have HB := Lib.hid hb6
        clear hb6 hr6 hr2 HB6 HR5 hk5 hgr5 d72 e72 hcap
        by_cases hfull : r + p = 64
        · have hz : ((sz2 : Int) % 64 == 0) = true := by rw [HMR.out, hfull]; rfl
          go_upto_region 5 with (fail)
          obtain ⟨x0, x1, x2, x3, x4, x5, x6, x7, h8⟩ := list8 (blocksW M (sz / 64)) HWL.out
          have hb6 := HB.out
          rw [h8] at hb6
          obtain ⟨y0, y1, y2, y3, y4, y5, y6, y7, hy8⟩ := list8 (roundsW [x0, x1, x2, x3, x4, x5, x6, x7] (splice rest r ((l.drop j).take p))) (by rw [length_roundsW]; rfl)
          have HY8 := Lib.hid hy8
          have H8 := Lib.hid h8
          have hct : ∀ W : World, W.heap = w6.heap → Calls Tryd.prog 37 #[.agg #[.int .u32 (x0.toNat : Int), .int .u32 (x1.toNat : Int), .int .u32 (x2.toNat : Int), .int .u32 (x3.toNat : Int), .int .u32 (x4.toNat : Int), .int .u32 (x5.toNat : Int), .int .u32 (x6.toNat : Int), .int .u32 (x7.toNat : Int)], .slice (some ⟨g, 8, none⟩) 64 64] W (RoundsPost W y0 y1 y2 y3 y4 y5 y6 y7) :=
            fun W e => rounds8_ok x0 x1 x2 x3 x4 x5 x6 x7 y0 y1 y2 y3 y4 y5 y6 y7 _ _ _ W hy8 ((reads_rest hb6 rfl HL5.out HLT.out).of_heap e) (hk6.of_heap e)
          obtain ⟨v0, v1, v2, v3, v4, v5, v6, v7⟩ := hash8 hb6
          have HCT := Lib.hid hct
          have HB6 := Lib.hid hb6
          clear hct hb6 h8 hy8 c72 hz
          go_region_with ((go_at_call 37; refine (HCT.out _ ?_).mono ?_; rfl; rintro en w7 ⟨rfl, hbel7⟩; have hb7 := (Blk.of_heap (w' := w6.drew) HB6.out rfl).below hbel7 HB6.out.lt; obtain ⟨n0, n1, n2, n3, n4, n5, n6, n7⟩ := hash8 hb7; have f0 := hb7.frozen 0; have f1 := hb7.frozen 1; have f2 := hb7.frozen 2; have f3 := hb7.frozen 3; have f4 := hb7.frozen 4; have f5 := hb7.frozen 5; have f6 := hb7.frozen 6; have f7 := hb7.frozen 7; have HB7 := Lib.hid hb7; have hg7 := only_of_drew (only_of_below hbel7 (some g)); clear hb7 hbel7))
          go_wp2
          go_roundw
          case rel =>
            refine ⟨j + p, m - p, _, _, by have := HJM.out; omega, rfl, ?_, fun _ => ho2, ?_, ?_, ?_⟩
            · exact HR6.out.only ho2 (only8 y0 y1 y2 y3 y4 y5 y6 y7 hg7)
            · have hmf := more_full M ((l.drop j).take p) rest H1.out (by rw [HS.out]; exact H3.out) (by rw [HS.out, hr64.out, HXL.out]; exact hfull)
              rw [HS.out, hr64.out] at hmf
              rw [HJP.out]
              refine ⟨_, HL5.out, HLT.out, ?_, ?_⟩
              · rw [hmf.2.2.1, hmf.2.2.2, List.take_zero]
              · have hbl : blocksW (M ++ (l.drop j).take p) (sz / 64 + 1) = [y0, y1, y2, y3, y4, y5, y6, y7] := by
                  rw [blocksW, ← hmf.1, blocksW_append _ _ _ (by rw [HS.out]; omega), H8.out, HY8.out]
                rw [hmf.2.1, hbl, List.length_append, HS.out, HXL.out, hsz2.out]
                exact blk8 y0 y1 y2 y3 y4 y5 y6 y7 HB7.out
            · exact hk6.only (only8 y0 y1 y2 y3 y4 y5 y6 y7 hg7) hg
            · exact only_trans hgr6 (only8 y0 y1 y2 y3 y4 y5 y6 y7 hg7)
          case measure => simp; omega
        · have hz : ((sz2 : Int) % 64 == 0) = false := by rw [HMR.out]; simp; omega
          go_wp2
          go_roundw
          case rel =>
            refine ⟨j + p, m - p, _, _, by have := HJM.out; omega, rfl, HR6.out, fun _ => ho2, ?_, hk6, hgr6⟩
            have hmr := more_rest M ((l.drop j).take p) rest H1.out (by rw [HS.out]; exact H3.out) (by rw [HS.out, hr64.out, HXL.out]; omega)
            rw [HS.out, hr64.out] at hmr
            rw [HJP.out]
            refine ⟨_, HL5.out, ?_, hmr.1, ?_⟩
            · exact HLT.out
            · rw [hmr.2, List.length_append, HS.out, HXL.out, hsz2.out, blocksW_append _ _ _ (by rw [HS.out]; omega)]
              exact HB.out
          case measure => simp; omega
    · go_wp2
      go_end0
      have hm0 : m = 0 := by omega
      rw [show j = l.length by rw [HLL.out]; omega, List.take_length] at hh
      exact ⟨⟨_, rfl⟩, hh, hgr⟩
end Go.Proofs.YtjacfihpjolddaaDoor
