/- Plain words for the proofs on package sha: words of 32 bits, the steps of the digest as functions on lists, and laws for loading and storing whole arrays and for copy. Conditions: none; it speaks of no program. -/
import Derived.Test.YtdldffgdipedpaaDoorBase
import Derived.Laws.CopyOwn
import Derived.Deep.RegionLaw
import Derived.Deep.RegionHeld3
import Derived.StillTailTactics
import Derived.Deep.WholeRow
import Derived.OwnWalk
import Derived.Deep.Cut
namespace Go.Proofs.YtdldffgdipedpaaDoor
open Go.RowKit

/-! ### Words of 32 bits -/
theorem bv_lt (x : BitVec 32) : x.toNat < 4294967296 := x.isLt
theorem bxor (a b : BitVec 32) : bits BinOp.xor IntKind.u32 (a.toNat : Int) (b.toNat : Int) = ((a ^^^ b).toNat : Int) := by
  rw [u32_xor_nat _ _ a.isLt b.isLt, BitVec.toNat_xor]
theorem band (a b : BitVec 32) : bits BinOp.and IntKind.u32 (a.toNat : Int) (b.toNat : Int) = ((a &&& b).toNat : Int) := by
  rw [u32_and_nat _ _ a.isLt b.isLt, BitVec.toNat_and]
theorem badd (a b : BitVec 32) : ((a.toNat : Int) + (b.toNat : Int)) % 4294967296 = ((a + b).toNat : Int) := by
  rw [BitVec.toNat_add]; omega
theorem badd4 (a b c d : BitVec 32) : ((a.toNat : Int) + (b.toNat : Int) + (c.toNat : Int) + (d.toNat : Int)) % 4294967296 = ((a + b + c + d).toNat : Int) := by
  simp only [BitVec.toNat_add]; omega
theorem bnotx (a : BitVec 32) : bits BinOp.xor IntKind.u32 IntKind.u32.max (a.toNat : Int) = ((~~~a).toNat : Int) := by
  have e : IntKind.u32.max = ((BitVec.allOnes 32).toNat : Int) := by decide
  rw [e, bxor, BitVec.allOnes_xor]
theorem bnot (a : BitVec 32) : (4294967295 : Int) - (a.toNat : Int) = ((~~~a).toNat : Int) := by
  have := a.isLt
  rw [BitVec.toNat_not]; omega
theorem bshr3 (a : BitVec 32) : (a.toNat : Int) / (8 : Int) = ((a >>> 3).toNat : Int) := by
  rw [BitVec.toNat_ushiftRight, Nat.shiftRight_eq_div_pow]; omega
theorem bshr10 (a : BitVec 32) : (a.toNat : Int) / (1024 : Int) = ((a >>> 10).toNat : Int) := by
  rw [BitVec.toNat_ushiftRight, Nat.shiftRight_eq_div_pow]; omega
/-- Turned right by k. -/
def rotW (x : BitVec 32) (k : Nat) : BitVec 32 := BitVec.ofNat 32 (rot32 x.toNat k)
theorem rotW_nat (x : BitVec 32) (k : Nat) (hk : k ≤ 32) : (rotW x k).toNat = rot32 x.toNat k := by
  unfold rotW; rw [BitVec.toNat_ofNat]; exact Nat.mod_eq_of_lt (rot32_lt _ _ x.isLt hk)

def sig0 (x : BitVec 32) : BitVec 32 := rotW x 7 ^^^ rotW x 18 ^^^ (x >>> 3)
def sig1 (x : BitVec 32) : BitVec 32 := rotW x 17 ^^^ rotW x 19 ^^^ (x >>> 10)
def sum0 (a : BitVec 32) : BitVec 32 := rotW a 2 ^^^ rotW a 13 ^^^ rotW a 22
def sum1 (e : BitVec 32) : BitVec 32 := rotW e 6 ^^^ rotW e 11 ^^^ rotW e 25
def chW (e f g : BitVec 32) : BitVec 32 := (e &&& f) ^^^ (~~~e &&& g)
def majW (a b c : BitVec 32) : BitVec 32 := (a &&& b) ^^^ (a &&& c) ^^^ (b &&& c)
def tW (e f g z kw : BitVec 32) : BitVec 32 := z + sum1 e + chW e f g + kw
def uW (a b c : BitVec 32) : BitVec 32 := sum0 a + majW a b c
/-- One round; kw is the sum of the round's constant and word. -/
def roundW : List (BitVec 32) → BitVec 32 → List (BitVec 32)
  | [a, b, c, d, e, f, g, z], kw => [tW e f g z kw + uW a b c, a, b, c, d + tW e f g z kw, e, f, g]
  | l, _ => l
theorem roundW_eq (a b c d e f g z kw : BitVec 32) : roundW [a, b, c, d, e, f, g, z] kw = [tW e f g z kw + uW a b c, a, b, c, d + tW e f g z kw, e, f, g] := by rw [roundW]
theorem length_roundW (l : List (BitVec 32)) (kw : BitVec 32) : (roundW l kw).length = l.length := by
  unfold roundW; split <;> simp only [List.length_cons, List.length_nil]
/-- One word more of the schedule. -/
def nextW (l : List (BitVec 32)) : BitVec 32 := l.getD (l.length - 16) 0 + sig0 (l.getD (l.length - 15) 0) + l.getD (l.length - 7) 0 + sig1 (l.getD (l.length - 2) 0)
def schedN (l : List (BitVec 32)) : Nat → List (BitVec 32)
  | 0 => l
  | n + 1 => schedN l n ++ [nextW (schedN l n)]
theorem length_schedN (l : List (BitVec 32)) (n : Nat) : (schedN l n).length = l.length + n := by
  induction n with
  | zero => rfl
  | succ n ih => simp [schedN, ih]; omega
/-- The constants of the rounds. -/
def kN : List Nat := [
  0x428a2f98, 0x71374491, 0xb5c0fbcf, 0xe9b5dba5, 0x3956c25b, 0x59f111f1, 0x923f82a4, 0xab1c5ed5,
  0xd807aa98, 0x12835b01, 0x243185be, 0x550c7dc3, 0x72be5d74, 0x80deb1fe, 0x9bdc06a7, 0xc19bf174,
  0xe49b69c1, 0xefbe4786, 0x0fc19dc6, 0x240ca1cc, 0x2de92c6f, 0x4a7484aa, 0x5cb0a9dc, 0x76f988da,
  0x983e5152, 0xa831c66d, 0xb00327c8, 0xbf597fc7, 0xc6e00bf3, 0xd5a79147, 0x06ca6351, 0x14292967,
  0x27b70a85, 0x2e1b2138, 0x4d2c6dfc, 0x53380d13, 0x650a7354, 0x766a0abb, 0x81c2c92e, 0x92722c85,
  0xa2bfe8a1, 0xa81a664b, 0xc24b8b70, 0xc76c51a3, 0xd192e819, 0xd6990624, 0xf40e3585, 0x106aa070,
  0x19a4c116, 0x1e376c08, 0x2748774c, 0x34b0bcb5, 0x391c0cb3, 0x4ed8aa4a, 0x5b9cca4f, 0x682e6ff3,
  0x748f82ee, 0x78a5636f, 0x84c87814, 0x8cc70208, 0x90befffa, 0xa4506ceb, 0xbef9a3f7, 0xc67178f2]
def kW : List (BitVec 32) := kN.map (BitVec.ofNat 32)
theorem length_kW : kW.length = 64 := rfl
theorem kW_nat : kW.map BitVec.toNat = kN := by decide +kernel
def firstN : List Nat := [0x6a09e667, 0xbb67ae85, 0x3c6ef372, 0xa54ff53a, 0x510e527f, 0x9b05688c, 0x1f83d9ab, 0x5be0cd19]
def firstW : List (BitVec 32) := firstN.map (BitVec.ofNat 32)
theorem firstW_nat : firstW.map BitVec.toNat = firstN := by decide +kernel
theorem length_firstW : firstW.length = 8 := rfl
/-- The variables after n rounds. -/
def stW (h ws : List (BitVec 32)) : Nat → List (BitVec 32)
  | 0 => h
  | n + 1 => roundW (stW h ws n) (kW.getD n 0 + ws.getD n 0)
theorem length_stW (h ws : List (BitVec 32)) (n : Nat) : (stW h ws n).length = h.length := by
  induction n with
  | zero => rfl
  | succ n ih => simp [stW, length_roundW, ih]
/-- The words of a block's bytes. -/
def blockW (l : List Nat) : List (BitVec 32) := (List.range 16).map fun i => BitVec.ofNat 32 (be ((l.drop (4 * i)).take 4))
theorem length_blockW (l : List Nat) : (blockW l).length = 16 := by simp [blockW]
def addW (h v : List (BitVec 32)) : List (BitVec 32) := List.zipWith (· + ·) h v
/-- The words h after one more block. -/
def roundsW (h : List (BitVec 32)) (l : List Nat) : List (BitVec 32) := addW h (stW h (schedN (blockW l) 48) 64)
theorem length_roundsW (h : List (BitVec 32)) (l : List Nat) : (roundsW h l).length = h.length := by simp [roundsW, addW, length_stW]
/-- After n blocks of l. -/
def blocksW (l : List Nat) : Nat → List (BitVec 32)
  | 0 => firstW
  | n + 1 => roundsW (blocksW l n) ((l.drop (64 * n)).take 64)
theorem length_blocksW (l : List Nat) (n : Nat) : (blocksW l n).length = 8 := by
  induction n with
  | zero => rfl
  | succ n ih => simp [blocksW, length_roundsW, ih]
theorem blocksW_append (l m : List Nat) (n : Nat) (h : 64 * n ≤ l.length) : blocksW (l ++ m) n = blocksW l n := by
  induction n with
  | zero => rfl
  | succ n ih =>
    simp only [blocksW]
    rw [ih (by omega), List.drop_append_of_le_length (by omega), List.take_append_of_le_length (by simp; omega)]
/-- What stands behind a message of n bytes. -/
def padN (n : Nat) : List Nat := 128 :: (List.replicate ((119 - n % 64) % 64) 0 ++ (List.range 8).map fun i => 8 * n % 18446744073709551616 / 256 ^ (7 - i) % 256)
theorem length_padN (n : Nat) : (padN n).length = 9 + (119 - n % 64) % 64 := by simp [padN]; omega
theorem padN_lt (n : Nat) : ∀ x ∈ padN n, x < 256 := by
  intro x hx
  simp only [padN, List.mem_cons, List.mem_append, List.mem_replicate, List.mem_map] at hx
  rcases hx with rfl | ⟨_, rfl⟩ | ⟨i, _, rfl⟩
  · decide
  · decide
  · exact Nat.mod_lt _ (by decide)
/-- The digest. -/
def digestN (l : List Nat) : List Nat := ((blocksW (l ++ padN l.length) ((l.length + (padN l.length).length) / 64)).map BitVec.toNat).flatMap bytes4
theorem length_flat4 (l : List Nat) : (l.flatMap bytes4).length = 4 * l.length := by
  induction l with
  | nil => rfl
  | cons x l ih => simp only [List.flatMap_cons, List.length_append, length_bytes4, List.length_cons] at *; omega
theorem length_digestN (l : List Nat) : (digestN l).length = 32 := by
  unfold digestN; rw [length_flat4]; simp [length_blocksW]
theorem flat4_lt (l : List Nat) : ∀ x ∈ l.flatMap bytes4, x < 256 := by
  intro x hx
  obtain ⟨y, _, hy⟩ := List.mem_flatMap.1 hx
  exact bytes4_lt y x hy
theorem digest_abc : digestN [97, 98, 99] = [0xba, 0x78, 0x16, 0xbf, 0x8f, 0x01, 0xcf, 0xea, 0x41, 0x41, 0x40, 0xde, 0x5d, 0xae, 0x22, 0x23, 0xb0, 0x03, 0x61, 0xa3, 0x96, 0x17, 0x7a, 0x9c, 0xb4, 0x10, 0xff, 0x61, 0xf2, 0x00, 0x15, 0xad] := by decide +kernel

theorem wf_drop4 (l : List Nat) (h : ∀ x ∈ l, x < 256) (i : Nat) : be ((l.drop i).take 4) < 4294967296 := by
  have h1 := be_lt ((l.drop i).take 4) (fun x hx => h x (List.mem_of_mem_drop (List.mem_of_mem_take hx)))
  have h2 : ((l.drop i).take 4).length ≤ 4 := List.length_take_le _ _
  have h3 : 256 ^ ((l.drop i).take 4).length ≤ 256 ^ 4 := Nat.pow_le_pow_right (by decide) h2
  exact Nat.lt_of_lt_of_le h1 h3
theorem blockW_nat (l : List Nat) (h : ∀ x ∈ l, x < 256) : (blockW l).map BitVec.toNat = (List.range 16).map fun i => be ((l.drop (4 * i)).take 4) := by
  rw [blockW, List.map_map]
  refine List.map_congr_left fun i _ => ?_
  simp only [Function.comp, BitVec.toNat_ofNat]
  exact Nat.mod_eq_of_lt (wf_drop4 l h _)

/-! ### Whole blocks -/
/-- Block g of the world is just the cells cs, of type t, none of them barred from writing. -/
def Blk (w : World) (g : Nat) (t : TypeId) (cs : List Value) : Prop := w.heap[g]? = some (.cells cs.toArray t (0, 0))
section
variable {w w' : World} {g : Nat} {t : TypeId} {cs : List Value}
/-- Whatever leaves the block as it is keeps it. -/
theorem Blk.move (h : Blk w g t cs) (e : w'.heap[g]? = w.heap[g]?) : Blk w' g t cs := Eq.trans e h
theorem Blk.lt (h : Blk w g t cs) : g < w.heap.size := (Array.getElem?_eq_some_iff.1 h).1
theorem Blk.cell (h : Blk w g t cs) (i : Nat) : w.cell? ⟨g, i, none⟩ = cs[i]? := by
  simpa using cell_of_row w g i _ t (0, 0) h
theorem Blk.cellAt (h : Blk w g t cs) (i : Nat) (hi : i < cs.length) : w.cell? ⟨g, i, none⟩ = some cs[i] :=
  (h.cell i).trans (List.getElem?_eq_getElem hi)
theorem Blk.frozen (h : Blk w g t cs) (i : Nat) : w.frozen? ⟨g, i, none⟩ = false := frozen_of_row w g i _ t h
theorem Blk.new (w : World) (t : TypeId) (cs : List Value) : Blk (w.alloc (.cells cs.toArray t)) w.heap.size t cs := heap_alloc_last w _
theorem Blk.of_heap (h : Blk w g t cs) (e : w'.heap = w.heap) : Blk w' g t cs := h.move (congrArg (fun a : Array Obj => a[g]?) e)
theorem Blk.drew (h : Blk w g t cs) : Blk w.drew g t cs := h.move rfl
theorem Blk.drewN (h : Blk w g t cs) (n : Nat) : Blk (w.drewN n) g t cs := h.move rfl
theorem Blk.alloc (h : Blk w g t cs) (o : Obj) : Blk (w.alloc o) g t cs := h.move (Below.heap_alloc w o g h.lt)
theorem Blk.set_ (h : Blk w g t cs) (i : Nat) (u : Value) : Blk (w.setCell ⟨g, i, none⟩ u) g t (cs.set i u) := by
  simpa [Blk] using heap_setCell_same w g i _ t u h
theorem Blk.far (h : Blk w g t cs) {p : Addr} (hp : g ≠ p.block) (u : Value) : Blk (w.setCell p u) g t cs := h.move (heap_setCell_other w p g u hp)
theorem Blk.below {B : Nat} (h : Blk w g t cs) (hb : Below B w w') (hg : g < B) : Blk w' g t cs := h.move (hb.block g hg)
theorem Blk.grown {row : Option Nat} (h : Blk w g t cs) (hb : w.grownBy w' row) (hg : some g ≠ row) : Blk w' g t cs := h.move (hb.block g h.lt hg)
end
/-! Nothing of a has turned but one row: such steps one behind the other. -/
theorem only_trans {a b c : World} {row : Option Nat} (h : a.grownBy b row) (k : b.grownBy c row) : a.grownBy c row where
  os := k.os.trans h.os
  tape := k.tape.trans h.tape
  output := k.output.trans h.output
  size := Nat.le_trans h.size k.size
  block i hi hne := (k.block i (Nat.lt_of_lt_of_le hi h.size) hne).trans (h.block i hi hne)
theorem only_undrew {w w' : World} {row : Option Nat} {k : Nat} (h : ({ w with drawn := k } : World).grownBy w' row) : w.grownBy w' row where
  os := h.os
  tape := h.tape
  output := h.output
  size := h.size
  block := h.block
theorem only_of_below {a w : World} (h : Below a.heap.size a w) (row : Option Nat) : a.grownBy w row where
  os := h.os
  tape := h.tape
  output := h.output
  size := h.size
  block i hi _ := h.block i hi
theorem only_setRow {a w : World} {g : Nat} (h : a.grownBy w (some g)) (cs : Array Value) : a.grownBy (w.setRow g cs) (some g) :=
  only_trans h { os := rfl, tape := rfl, output := rfl, size := Nat.le_of_eq (setRow_size w g cs).symm, block := fun i _ hne => setRow_other w g i cs (fun e => hne (by rw [e])) }
theorem only_setCell {a w : World} {g : Nat} (h : a.grownBy w (some g)) {p : Addr} (hp : p.block = g) (u : Value) : a.grownBy (w.setCell p u) (some g) :=
  only_trans h { os := rfl, tape := rfl, output := rfl, size := Nat.le_of_eq (by rw [World.size_setCell]), block := fun i _ hne => heap_setCell_other w p i u (fun e => hne (by rw [e, hp])) }
theorem below_of_only {B g : Nat} {w0 w w' : World} (hb : Below B w0 w) (h : w.grownBy w' (some g)) (hB : B ≤ w.heap.size) (hg : B ≤ g) : Below B w0 w' :=
  hb.trans ⟨h.os, h.tape, h.output, h.size, fun i hi => h.block i (Nat.lt_of_lt_of_le hi hB) (fun e => by injection e with e; omega)⟩

theorem Blk.pre {w : World} {g : Nat} {t : TypeId} {cs rest : List Value} (h : Blk w g t (cs ++ rest)) : ∀ j v, cs[j]? = some v → w.cell? ((⟨g, 0, none⟩ : Addr).add j) = some v := by
  intro j v hv
  rw [add_head, h.cell, List.getElem?_append_left (by rcases Nat.lt_or_ge j cs.length with h | h; exact h; rw [List.getElem?_eq_none h] at hv; cases hv), hv]
theorem Blk.all {w : World} {g : Nat} {t : TypeId} {cs : List Value} (h : Blk w g t cs) : ∀ j v, cs[j]? = some v → w.cell? ((⟨g, 0, none⟩ : Addr).add j) = some v := by
  intro j v hv
  rw [add_head, h.cell, hv]
theorem Blk.mid {w : World} {g : Nat} {t : TypeId} {pre cs rest : List Value} (off : Nat) (ho : pre.length = off) (h : Blk w g t (pre ++ (cs ++ rest))) : ∀ j v, cs[j]? = some v → w.cell? ((⟨g, off, none⟩ : Addr).add j) = some v := by
  intro j v hv
  have e : (⟨g, off, none⟩ : Addr).add j = ⟨g, off + j, none⟩ := by unfold Addr.add; by_cases hj : j = 0 <;> simp [hj]
  subst ho
  rw [e, h.cell, List.getElem?_append_right (by omega), Nat.add_sub_cancel_left, List.getElem?_append_left (by rcases Nat.lt_or_ge j cs.length with h | h; exact h; rw [List.getElem?_eq_none h] at hv; cases hv), hv]

theorem splice_all {α : Type} (L cs : List α) (h : cs.length = L.length) : splice L 0 cs = cs := by
  simp [splice, h]

/-- A row of the call's own that is full is a block known whole, and back. -/
theorem own_blk {w : World} {base g n : Nat} {e : TypeId} {xs : List Value} (h : w.ownsRow base e 1 (.slice (some ⟨g, 0, none⟩) n n) n xs) : Blk w g e xs ∧ base ≤ g := by
  rcases h.2 with ⟨e1, _⟩ | ⟨g', cap, cur, e1, hb, hh, _, _, hs, ht⟩
  · cases e1
  · cases e1
    refine ⟨?_, hb⟩
    have : cur.toList = xs := by
      rw [← ht, List.take_of_length_le (by simp; omega)]
    unfold Blk
    rw [hh, ← this]
theorem blk_own {w : World} {base g n : Nat} {e : TypeId} {xs : List Value} (h : Blk w g e xs) (hl : xs.length = n) (hb : base ≤ g) (hm : n ≤ maxLen) : w.ownsRow base e 1 (.slice (some ⟨g, 0, none⟩) n n) n xs :=
  ⟨by simp [hl], .inr ⟨g, n, xs.toArray, rfl, hb, h, Nat.le_refl _, hm, by simp [hl], by simp [← hl]⟩⟩

theorem Reads.of_heap {w w' : World} {k : IntKind} {A : Option Addr} {n c : Nat} {l : List Nat} (h : Reads k w A n c l) (e : w'.heap = w.heap) : Reads k w' A n c l :=
  ⟨h.len, h.room, h.cap, h.wf, fun i hi => by
    obtain ⟨ad, ea, hlt, hc⟩ := h.cell i hi
    exact ⟨ad, ea, by rw [e]; exact hlt, by rw [← hc]; exact World.cell?_of_block (by rw [e])⟩⟩

/-! ### A world under a name -/
theorem name_wp {P : Program} {c : Code} {Q : Exit → Act → World → Prop} {a : Act} {w : World} (F : World → Prop) (h : F w) (k : ∀ w', F w' → c.wp P Q a w') : c.wp P Q a w := k w h
theorem name_wpList {P : Program} {ops : Array Oper} {l : List Oper} {Q : Exit → Act → World → Prop} {a : Act} {w : World} (F : World → Prop) (h : F w) (k : ∀ w', F w' → wpList P ops Q l a w') : wpList P ops Q l a w := k w h
theorem name_Calls {P : Program} {f : FuncId} {args : Array Value} {R : Ending → World → Prop} {w : World} (F : World → Prop) (h : F w) (k : ∀ w', F w' → Calls P f args w' R) : Calls P f args w R := k w h

/-! ### Marks: does the walk stand at such an operation? -/
section
variable {P : Program} {ops : Array Oper} {Q : Exit → Act → World → Prop} {rest : List Oper} {a : Act} {w : World} {d : Option Tmp} {ty : TypeId} {pos : String} {after : Array Edge} {gd : Option (Tmp × Bool)}
theorem at_copy {xs : Array Operand} {ts : Array TypeId} (h : wpList P ops Q ({ dst := d, op := .call { callee := .builtin .copy, args := xs, argTypes := ts }, type := ty, pos := pos, after := after, guard := gd } :: rest) a w) :
    wpList P ops Q ({ dst := d, op := .call { callee := .builtin .copy, args := xs, argTypes := ts }, type := ty, pos := pos, after := after, guard := gd } :: rest) a w := h
theorem at_store (t : TypeId) {p x : Operand} (h : wpList P ops Q ({ dst := d, op := .store t p x, type := ty, pos := pos, after := after, guard := gd } :: rest) a w) :
    wpList P ops Q ({ dst := d, op := .store t p x, type := ty, pos := pos, after := after, guard := gd } :: rest) a w := h
theorem at_load (t : TypeId) {p : Operand} (h : wpList P ops Q ({ dst := d, op := .load t p, type := ty, pos := pos, after := after, guard := gd } :: rest) a w) :
    wpList P ops Q ({ dst := d, op := .load t p, type := ty, pos := pos, after := after, guard := gd } :: rest) a w := h
end

/-! ### Whole arrays in and out, and copy, as laws for the walk -/
section
variable {P : Program} {ops : Array Oper} {rest : List Oper} {o : Oper} {a : Act} {w : World} {Q : Exit → Act → World → Prop}
theorem run_loadVar_at (w : World) (ad : Addr) (ty : TypeId) (cs : List Value) (d : TypeDesc) (hc : ∀ j u, cs[j]? = some u → w.cell? (ad.add j) = some u)
    (hu : P.underlying ty = some d) (hd : (match d with | .struct _ | .array _ _ => true | _ => false) = true) (hi : (P.info? ty).map (·.size) = some cs.length) :
    (loadVar ty ad).run P w = .ok (.agg cs.toArray) w := by
  have hl : (loadCells ad cs.length).run P w = .ok cs.toArray w := run_loadCells_list (P := P) w ad cs hc
  cases hq : P.info? ty with
  | none => simp [hq] at hi
  | some i =>
    have hs : i.size = cs.length := by simpa [hq] using hi
    have hagg : (isAgg ty).run P w = .ok true w := by
      unfold isAgg
      rw [Sem.run_bind, run_underlying hu w]
      cases d <;> simp_all
    simp [loadVar, Sem.run_bind, hagg, sizeOf, typeInfo, hq, hs, hl]
theorem run_storeVar_at (w : World) (g off : Nat) (ty t : TypeId) (cur cs : List Value) (hg : Blk w g t cur) (hfit : off + cs.length ≤ cur.length) (h1 : ∀ v ∈ cs, v.oneCell' = true)
    (hi : (P.info? ty).map (·.size) = some cs.length) :
    (storeVar ty ⟨g, off, none⟩ (.agg cs.toArray)).run P w = .ok () (w.setRow g (splice cur off cs).toArray) := by
  have hst := run_storeCells_at P g off t cs 0 cur.toArray w hg (by simpa using hfit) h1
  cases hq : P.info? ty with
  | none => simp [hq] at hi
  | some i =>
    have hs : i.size = cs.length := by simpa [hq] using hi
    simp [storeVar, sizeOf, typeInfo, hq, hs, Value.cells, hst, splice]
theorem Blk.splice_ {g off : Nat} {t : TypeId} {cur : List Value} (h : Blk w g t cur) (cs : List Value) : Blk (w.setRow g (splice cur off cs).toArray) g t (splice cur off cs) := setRow_heap w g _ _ t _ h
/-- A whole array or struct out of memory. -/
theorem wpList_load_at (hgd : o.guard = none) (ty : TypeId) (x : Operand) (ho : o.op = .load ty x) (ad : Addr) (hx : a.eval x = .pointer (some ad)) (cs : List Value) (d : TypeDesc)
    (hc : ∀ j u, cs[j]? = some u → w.cell? (ad.add j) = some u) (hu : P.underlying ty = some d) (hd : (match d with | .struct _ | .array _ _ => true | _ => false) = true) (hi : (P.info? ty).map (·.size) = some cs.length)
    (h : wpList P ops Q rest (a.put o.dst (.agg cs.toArray)) w) : wpList P ops Q (o :: rest) a w :=
  wpList_plain hgd fun _ hK => by
    unfold Oper.wp execOp
    simp only [ho, hx, Instr.loadAt, Instr.sureAddr, Sem.run_bind, Sem.run_pure, Result.andThen_ok, run_loadVar_at w ad ty cs d hc hu hd hi]
    exact hK _ _ h
/-- A whole array or struct into a block that is known whole. -/
theorem wpList_store_at (hgd : o.guard = none) (hdst : o.dst = none) (ty : TypeId) (p x : Operand) (ho : o.op = .store ty p x) (g off : Nat) (hp : a.eval p = .pointer (some ⟨g, off, none⟩)) (cs : List Value) (hx : a.eval x = .agg cs.toArray)
    (cur : List Value) (t : TypeId) (hg : Blk w g t cur) (hfit : off + cs.length ≤ cur.length) (h1 : ∀ v ∈ cs, v.oneCell' = true) (hi : (P.info? ty).map (·.size) = some cs.length)
    (h : ∀ w', Blk w' g t (splice cur off cs) → w.grownBy w' (some g) → wpList P ops Q rest a w') : wpList P ops Q (o :: rest) a w :=
  wpList_plain hgd fun K hK => by
    have := hK a _ (h _ (hg.splice_ cs) (only_setRow (World.grownBy.refl w _) _))
    unfold Oper.wp execOp
    simp only [ho, hx, hp, Instr.storeAt, Instr.sureAddr, Sem.run_bind, Sem.run_pure, Result.andThen_ok, run_storeVar_at w g off ty t cur cs hg hfit h1 hi, Oper.upon_skip, hdst]
    exact this
/-- copy into a block that is known whole, from wherever. -/
theorem wpList_copy_g (hgd : o.guard = none) (d s : Operand) (dT sT : TypeId)
    (ho : o.op = .call { callee := .builtin .copy, args := #[d, s], argTypes := #[dT, sT] }) (elem : TypeId) (hu : P.underlying dT = some (.slice elem)) (hsz : (P.info? elem).map (·.size) = some 1)
    (dp sp : Option Addr) (dLen dCap sLen sCap : Nat) (hd : a.eval d = .slice dp dLen dCap) (hs : a.eval s = .slice sp sLen sCap)
    (g off : Nat) (cur : List Value) (t : TypeId) (hg : Blk w g t cur) (cs : List Value) (hn : cs.length = Nat.min sLen dLen)
    (hpos : 0 < cs.length → dp = some ⟨g, off, none⟩ ∧ ∃ ad, sp = some ad ∧ ∀ j v, cs[j]? = some v → w.cell? (ad.add j) = some v)
    (hfit : off + cs.length ≤ cur.length) (h1 : ∀ v ∈ cs, v.oneCell' = true)
    (h : ∀ w', Blk w' g t (splice cur off cs) → w.grownBy w' (some g) → wpList P ops Q rest (a.put o.dst (goInt cs.length)) w') :
    wpList P ops Q (o :: rest) a w := by
  by_cases h0 : cs.length = 0
  · obtain rfl : cs = [] := List.eq_nil_of_length_eq_zero h0
    refine wpList_copy_nothing hgd d s dT sT ho elem hu hsz dp sp dLen dCap sLen sCap hd hs (by simpa using hn.symm) ?_
    exact h w (by simpa [splice] using hg) (World.grownBy.refl w _)
  · obtain ⟨rfl, ad, rfl, hsrc⟩ := hpos (by omega)
    refine wpList_copy_own hgd d s dT sT ho elem hu hsz g off dLen dCap ad sLen sCap hd hs cur.toArray t hg cs hn hsrc (by simpa using hfit) h1 ?_
    have := h _ (hg.splice_ (off := off) cs) (only_setRow (World.grownBy.refl w _) _)
    simpa [splice] using this
end
end Go.Proofs.YtdldffgdipedpaaDoor
