/- What the method Sum of a Hash and the function Sum of package sha return, for every argument, as a walk through the translated text: the digest of all that was written. Conditions: the bytes read as a list, the Hash lies in a block of its own, the table of the rounds' constants holds what the program lays there. -/
import Derived.Test.YtjacfihpjolddaaDoorSha4
import Derived.Deep.RegionLaw
namespace Go.Proofs.YtjacfihpjolddaaDoor
open Go.ChangeShapes Go.WideShapes Go.RowKit

def zeroH : List Value := ints .u32 (List.replicate 8 0) ++ (ints .u8 (List.replicate 64 0) ++ [.int .i64 0])
theorem length_zeroH : zeroH.length = 73 := by simp [zeroH, length_ints]
theorem infoH : (Tryd.prog.info? 66).map (fun i => (i.zero, i.size)) = some (some (.agg zeroH.toArray), 73) := by kernel_rfl
theorem infoHs : (Tryd.prog.info? 66).map (·.size) = some 73 := by kernel_rfl
def zero32 : List Value := ints .u8 (List.replicate 32 0)
theorem length_zero32 : zero32.length = 32 := by simp [zero32, length_ints]
theorem hashC_oneCell (ws : List (BitVec 32)) (rest : List Nat) (n : Nat) : ∀ v ∈ hashC ws rest n, v.oneCell' = true := by
  intro v hv
  simp only [hashC, List.mem_append, List.mem_singleton] at hv
  rcases hv with h | h | rfl
  · exact ints_oneCell _ _ v h
  · exact ints_oneCell _ _ v h
  · rfl
theorem reads_words {w : World} {g : Nat} {t : TypeId} {ws : List (BitVec 32)} {rest : List Nat} {n : Nat} (h : Blk w g t (hashC ws rest n)) (hw : ws.length = 8) : Reads .u32 w (some ⟨g, 0, none⟩) 8 8 (ws.map BitVec.toNat) := by
  refine ⟨by simp [hw], Nat.le_refl _, by simp [maxLen], fun x hx => ?_, fun i hi => ⟨_, rfl, h.lt, ?_⟩⟩
  · obtain ⟨y, _, rfl⟩ := List.mem_map.1 hx
    exact wf_u32.2 y.isLt
  · exact Blk.pre (cs := u32s ws) h i _ (by simp [u32s, ints] at hi ⊢; simp [hi])

set_option maxRecDepth 100000 in
set_option maxHeartbeats 1600000 in
theorem hsum_c (g : Nat) (msg : List Nat) (w : World) (hh : HashAt w g msg) (hk : KT w) (hb : msg.length ≤ 549755813888) :
    Calls Tryd.prog 29 #[.pointer (some ⟨g, 0, none⟩)] w fun en w' => en = .returned (.agg (ints .u8 (digestN msg)).toArray) ∧ Below w.heap.size w w' := by
  have hz := (zero_of_info infoH).1
  obtain ⟨rest, h1, h2, h3, h4⟩ := hh.ex
  have c72 := hh.sizeCell
  have hlt := hh.lt
  have hkl := hk.lt
  have hwl := length_blocksW msg (msg.length / 64)
  have hlc := length_hashC (blocksW msg (msg.length / 64)) rest msg.length hwl h1
  have H1 := Lib.hid h1
  have H2 := Lib.hid h2
  have H3 := Lib.hid h3
  have H4 := Lib.hid h4
  have HLC := Lib.hid hlc
  clear hh h1 h2 h3 h4 hwl hlc
  go_enter Tryd.func29, Tryd.ntmps29
  go_upto_region 1 with (fail)
  refine name_wp (fun w1 => Blk w1 w.heap.size 23 zero32 ∧ Below w.heap.size w w1 ∧ w1.heap.size = w.heap.size + 1) ⟨Blk.new _ _ zero32, (Below.refl _ _).alloc (Nat.le_refl _) _, by simp⟩ ?_
  rintro w1 ⟨hb1, hbel1, hs1⟩
  have HB1 := Lib.hid hb1
  have HG1 := Lib.hid (H4.out.below hbel1 hlt)
  have HS1 := Lib.hid hs1
  have hk1 := hk.below hbel1
  clear hb1 hs1 c72 H4 hk
  go_upto_region 2 with (first
    | ((with_reducible refine at_load 66 ?_); refine wpList_load_at rfl 66 (.tmp 6) rfl ⟨g, 0, none⟩ rfl _ _ HG1.out.all Tryd.underlying66 rfl (by rw [HLC.out]; kernel_rfl) ?_)
    | ((with_reducible refine at_store 66 ?_); refine wpList_store_at rfl rfl 66 (.tmp 3) (.tmp 7) rfl w1.heap.size 0 rfl _ rfl zeroH 66 (Blk.new _ _ zeroH) (by rw [HLC.out, length_zeroH]; decide) (hashC_oneCell _ _ _) (by rw [HLC.out]; kernel_rfl) ?_; intro w2 hb2 hg2))
  rw [splice_all _ _ (by rw [HLC.out, length_zeroH])] at hb2
  have hbel2 := below_of_only (hbel1.alloc hbel1.size _) hg2 (by simp; have := hbel1.size; omega) hbel1.size
  have HB1' := Lib.hid ((HB1.out.alloc _).grown hg2 (by simp; have := HS1.out; omega))
  have hg2b := (HG1.out.alloc _).grown hg2 (by simp; have := HS1.out; omega)
  have hh2 : HashAt w2 w1.heap.size msg := ⟨rest, H1.out, H2.out, H3.out, hb2⟩
  have c72 := (hg2b.cell 72).trans (hashC_size _ _ _ (length_blocksW _ _) H1.out)
  have hk2 : KT w2 := (hk1.below ((Below.refl _ _).alloc (Nat.le_refl _) _)).only hg2 hk1.lt
  have hs2 : w1.heap.size < w2.heap.size := hb2.lt
  have hlt1 : w.heap.size < w1.heap.size := by have := HS1.out; omega
  generalize w1.heap.size = g1 at *
  clear hb2 hg2 hg2b hk1 hbel1 HB1 HG1 HS1
  go_wp2_with fail
  refine (pad_c _ msg.length _ _ (by omega) (by omega) (by show _ = _; simp) rfl).mono ?_
  rintro en w3 ⟨rfl, hown, hbel3⟩
  have hbp := (own_blk hown).1
  obtain ⟨A, c, eA, hrp⟩ := Reads.of_own hown (fun x hx => wf_u8.2 (padN_lt _ x hx))
  cases eA
  have hk3 := hk2.below hbel3
  have hh3 := hh2.below hbel3
  have HB3 := Lib.hid (HB1'.out.below hbel3 HB1'.out.lt)
  have hbel3' := hbel2.trans (hbel3.mono hbel2.size)
  generalize w2.heap.size = g2 at *
  clear hown hbel3 HB1' hk2 hh2 hbel2 hbp
  go_wp2_with fail
  refine (write_c g1 _ _ _ msg (padN msg.length) _ hh3 hrp (fun _ ad e => by cases e; simp; omega) hk3 (Nat.lt_trans hkl hlt1) (by omega)).mono ?_
  rintro en w4 ⟨⟨v, rfl⟩, hh4, hg4⟩
  have hbel4 := below_of_only hbel3' hg4 hbel3'.size (by omega)
  have HB4 := Lib.hid (HB3.out.grown hg4 (by simp; omega))
  have hs4 : g1 < w4.heap.size := hh4.lt
  clear HB3 hg4 hbel3' hh3 hk3 hrp
  go_upto_region 4 with (fail)
  refine name_wp (fun w5 => Blk w5 w.heap.size 23 zero32 ∧ Blk w5 w4.heap.size 23 zero32 ∧ HashAt w5 g1 (msg ++ padN msg.length) ∧ Below w.heap.size w w5) ⟨HB4.out.alloc _, Blk.new _ _ zero32, hh4.below ((Below.refl _ _).alloc (Nat.le_refl _) _), hbel4.alloc hbel4.size _⟩ ?_
  rintro w5 ⟨hb1, hb5, hh5, hbel5⟩
  have hs45 : w4.heap.size < w5.heap.size := hb5.lt
  generalize w4.heap.size = g4 at *
  obtain ⟨rest2, k1, k2, k3, k4⟩ := hh5.ex
  have hrw := reads_words k4 (length_blocksW _ _)
  have hdig : bytesL ((blocksW (msg ++ padN msg.length) ((msg ++ padN msg.length).length / 64)).map BitVec.toNat) = digestN msg := by
    rw [digestN, List.length_append]; rfl
  have HDIG := Lib.hid hdig
  have HRW := Lib.hid hrw
  have HB1 := Lib.hid hb1
  have HB5 := Lib.hid hb5
  have hct : ∀ W : World, W.heap = w5.heap → Calls Tryd.prog 39 #[.slice (some ⟨g1, 0, none⟩) 8 8] W fun e w' => e = .returned (.slice (some ⟨W.heap.size, 0, none⟩) 32 32) ∧
      w'.ownsRow W.heap.size 5 1 (.slice (some ⟨W.heap.size, 0, none⟩) 32 32) 32 (ints .u8 (digestN msg)) ∧ Below W.heap.size W w' := by
    intro W e
    have := bytes_c _ 8 8 _ W (HRW.out.of_heap e) (by decide)
    rw [HDIG.out] at this
    exact this
  have HCT := Lib.hid hct
  clear hct hrw hdig k1 k2 k3 k4 hh5 hb1 hb5 hh4 hbel4 HB4
  go_region_law (first
    | (refine step_copy_g rfl (.tmp 14) (.tmp 17) 32 32 rfl 5 Tryd.underlying32 infoU8s (some ⟨g4, 0, none⟩) (some ⟨w5.heap.size, 0, none⟩) 32 32 32 32 rfl rfl g4 0 _ _ hb6 (ints .u8 (digestN msg)) (by rw [length_ints, length_digestN]; rfl) (fun _ => ⟨rfl, _, rfl, hbd.all⟩) (by rw [length_ints, length_digestN, length_zero32]; decide) (ints_oneCell _ _) ?_; intro w7 hb7 hg7)
    | (go_simp; go_at_call 39; refine (HCT.out _ ?_).mono ?_; rfl; rintro en w6 ⟨rfl, hown, hbel6⟩; have hbd := (own_blk hown).1; have hb6 := (Blk.of_heap (w' := w5.drew) HB5.out rfl).below hbel6 HB5.out.lt; have HB6 := Lib.hid ((Blk.of_heap (w' := w5.drew) HB1.out rfl).below hbel6 HB1.out.lt); have hbel6' := hbel5.drew.trans (hbel6.mono hbel5.size)))
  rw [splice_all _ _ (by rw [length_ints, length_digestN, length_zero32])] at hb7
  have hbel7 := below_of_only hbel6' hg7 hbel6'.size (by omega)
  have HB7 := Lib.hid hb7
  have HB8 := Lib.hid (HB6.out.grown hg7 (by simp; omega))
  clear hb7 hg7 hb6 hbd hown hbel6 hbel6' HB6 HB5 HB1
  go_upto_region 5 with (fail)
  refine wp_region_lit ?_
  refine wpList_load_at rfl 23 (.tmp 4) rfl ⟨g4, 0, none⟩ rfl _ _ HB7.out.all Tryd.underlying23 rfl (by rw [length_ints, length_digestN]; kernel_rfl) ?_
  refine wpList_store_at rfl rfl 23 (.tmp 2) (.tmp 19) rfl w.heap.size 0 rfl _ rfl _ _ HB8.out (by rw [length_ints, length_digestN, length_zero32]; decide) (ints_oneCell _ _) (by rw [length_ints, length_digestN]; kernel_rfl) ?_
  intro w9 hb9 hg9
  have hbel9 := below_of_only hbel7 hg9 hbel7.size (Nat.le_refl _)
  rw [splice_all _ _ (by rw [length_ints, length_digestN, length_zero32])] at hb9
  refine wpList_nil ?_
  go_wp2
  refine bodyPost_ret (v := .agg (ints .u8 (digestN msg)).toArray) ?_ rfl ⟨rfl, hbel9⟩
  exact results_cell_row rfl _ _ w.heap.size _ _ _ _ rfl hb9 Tryd.underlying23 rfl (by rw [List.size_toArray, length_ints, length_digestN]; kernel_rfl)

set_option maxRecDepth 100000 in
set_option maxHeartbeats 1600000 in
theorem sum_c (A : Option Addr) (n c : Nat) (l : List Nat) (w : World) (hr : Reads .u8 w A n c l) (hk : KT w) (hb : n ≤ 549755813888) :
    Calls Tryd.prog 26 #[.slice A n c] w fun en w' => en = .returned (.agg (ints .u8 (digestN l)).toArray) ∧ Below w.heap.size w w' := by
  have hkl := hk.lt
  have HLL := Lib.hid hr.len
  go_enter Tryd.func26, Tryd.ntmps26
  go_wp2_with fail
  refine name_Calls (fun w1 => Blk w1 w.heap.size 23 zero32 ∧ Below w.heap.size w w1 ∧ w.heap.size < w1.heap.size) ⟨Blk.new _ _ zero32, (Below.refl _ _).alloc (Nat.le_refl _) _, by simp⟩ ?_
  rintro w1 ⟨hb1, hbel1, hs1⟩
  have hr1 := hr.keep hbel1
  have hk1 := hk.below hbel1
  have hr1lt : ∀ ad, A = some ad → 0 < n → ad.block < w1.heap.size := by
    intro ad e hn
    obtain ⟨ad', e', hlt, _⟩ := hr1.cell 0 (by rw [hr1.len]; exact hn)
    rw [e'] at e; cases e; exact hlt
  refine (new_c _).mono ?_
  rintro en w2 ⟨g, rfl, hgs, hh2, hbel2⟩
  have hr2 := hr1.keep hbel2
  have hk2 := hk1.below hbel2
  have HB2 := Lib.hid (hb1.below hbel2 hb1.lt)
  have hbel2' := hbel1.trans (hbel2.mono hbel1.size)
  have hgl := hh2.lt
  have hwg : w.heap.size < g := by omega
  clear hb1 hbel2 hbel1 hk1 hr1 hr hk
  go_wp2_with fail
  · refine (write_c g _ _ _ [] l _ hh2 hr2 (fun hn ad e => by have := hr1lt ad e hn; omega) hk2 (Nat.lt_trans hkl hwg) (by simp; omega)).mono ?_
    rintro en w3 ⟨⟨v, rfl⟩, hh3, hg3⟩
    rw [List.nil_append] at hh3
    have hk3 := hk2.only hg3 (Nat.lt_trans hkl hwg)
    have hbel3 := below_of_only hbel2' hg3 hbel2'.size (by omega)
    have HB3 := Lib.hid (HB2.out.grown hg3 (by simp; omega))
    clear hg3 HB2 hbel2' hk2 hh2 hr2 hr1lt
    go_wp2_with fail
    refine (hsum_c g l _ hh3 hk3 (by rw [HLL.out]; exact hb)).mono ?_
    rintro en w4 ⟨rfl, hbel4⟩
    have HB4 := Lib.hid (HB3.out.below hbel4 HB3.out.lt)
    have hbel4' := hbel3.trans (hbel4.mono hbel3.size)
    clear HB3 hbel3 hbel4
    go_wp2_with ((with_reducible refine at_store 23 ?_); refine wpList_store_at rfl rfl 23 (.tmp 2) (.tmp 9) rfl w.heap.size 0 rfl _ rfl _ _ HB4.out (by rw [length_ints, length_digestN, length_zero32]; decide) (ints_oneCell _ _) (by rw [length_ints, length_digestN]; kernel_rfl) ?_; intro w9 hb9 hg9)
    have hbel9 := below_of_only hbel4' hg9 hbel4'.size (Nat.le_refl _)
    rw [splice_all _ _ (by rw [length_ints, length_digestN, length_zero32])] at hb9
    refine bodyPost_ret (v := .agg (ints .u8 (digestN l)).toArray) ?_ rfl ⟨rfl, hbel9⟩
    exact results_cell_row rfl _ _ w.heap.size _ _ _ _ rfl hb9 Tryd.underlying23 rfl (by rw [List.size_toArray, length_ints, length_digestN]; kernel_rfl)
end Go.Proofs.YtjacfihpjolddaaDoor
