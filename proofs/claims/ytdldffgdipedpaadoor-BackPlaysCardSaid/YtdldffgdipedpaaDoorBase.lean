/- Plain words for memory, and plain lemmas on numbers and lists, used by the proofs beside it: a slice of integers that reads as a list of natural numbers (nil let in), how such a reading is kept, big-endian numbers and 32-bit rotation. Conditions: none; it speaks of no program. -/
import Derived.WalkKit
import Derived.ProofKit
import Derived.OpenShut
import Derived.WalkSpells
import Derived.WalkLawsBesides
import Derived.IntWalk
import Derived.Lib.Hide
import Derived.BigQuiet
import Derived.Laws.BitsAllLaws
import Derived.Deep.Draws
namespace Go.Proofs.YtdldffgdipedpaaDoor
open Go.RowKit

/-! ### Numbers -/
/-- x turned right by k bits, 32 bits wide. -/
def rot32 (x k : Nat) : Nat := x / 2 ^ k + x % 2 ^ k * 2 ^ (32 - k)
/-- The number whose bytes are l, the most significant first. -/
def be (l : List Nat) : Nat := l.foldl (fun a b => a * 256 + b) 0
def bytes4 (x : Nat) : List Nat := [x / 16777216 % 256, x / 65536 % 256, x / 256 % 256, x % 256]

theorem be_snoc (l : List Nat) (b : Nat) : be (l ++ [b]) = be l * 256 + b := by simp [be]
theorem be_take_succ (l : List Nat) (k : Nat) (h : k < l.length) : be (l.take (k + 1)) = be (l.take k) * 256 + l[k] := by
  rw [List.take_succ_eq_append_getElem h, be_snoc]
theorem be_lt (l : List Nat) (h : ∀ x ∈ l, x < 256) : be l < 256 ^ l.length := by
  have key : ∀ n, ∀ l : List Nat, l.length = n → (∀ x ∈ l, x < 256) → be l < 256 ^ l.length := by
    intro n
    induction n with
    | zero =>
      intro l hl _
      have : l = [] := List.eq_nil_of_length_eq_zero hl
      subst this
      simp [be]
    | succ n ih =>
      intro l hl hx
      obtain ⟨m, b, rfl⟩ : ∃ m b, l = m ++ [b] := ⟨l.dropLast, l.getLast (by intro e; subst e; simp at hl), (List.dropLast_concat_getLast _).symm⟩
      have hm : m.length = n := by simpa using hl
      have h1 := ih m hm (fun x hx' => hx x (by simp [hx']))
      have h2 := hx b (by simp)
      rw [be_snoc, List.length_append, List.length_singleton, Nat.pow_succ]
      omega
  exact key _ l rfl h

theorem be_bytes4 (x : Nat) (h : x < 4294967296) : be (bytes4 x) = x := by
  simp only [be, bytes4, List.foldl]
  omega
theorem bytes4_be (a b c d : Nat) (ha : a < 256) (hb : b < 256) (hc : c < 256) (hd : d < 256) : bytes4 (be [a, b, c, d]) = [a, b, c, d] := by
  simp only [be, bytes4, List.foldl, List.cons.injEq, and_true]
  omega
theorem bytes4_lt (x : Nat) : ∀ y ∈ bytes4 x, y < 256 := by
  intro y hy
  simp only [bytes4, List.mem_cons, List.not_mem_nil, or_false] at hy
  omega
theorem length_bytes4 (x : Nat) : (bytes4 x).length = 4 := rfl

theorem or_low (n c : Nat) (hc : c < 256) : n * 256 % 18446744073709551616 ||| c = (n * 256 + c) % 18446744073709551616 := by
  have e : n * 256 % 18446744073709551616 = (n % 72057594037927936) * 2 ^ 8 := by omega
  rw [e, ← Nat.shiftLeft_eq, Nat.shiftLeft_add_eq_or_of_lt (b := c) (by omega) _ |>.symm, Nat.shiftLeft_eq]
  omega

theorem rot32_zero (x : Nat) : rot32 x 0 = x := by simp [rot32, Nat.mod_one]
theorem pow_split (k : Nat) (h : k ≤ 32) : 2 ^ k * 2 ^ (32 - k) = 4294967296 := by
  rw [← Nat.pow_add, Nat.add_sub_cancel' h]
theorem rot32_lt (x k : Nat) (hx : x < 4294967296) (hk : k ≤ 32) : rot32 x k < 4294967296 := by
  unfold rot32
  have hp := pow_split k hk
  have h1 : 0 < 2 ^ k := Nat.two_pow_pos k
  have h2 : x % 2 ^ k < 2 ^ k := Nat.mod_lt _ h1
  have h3 : x / 2 ^ k < 2 ^ (32 - k) := by
    rw [Nat.div_lt_iff_lt_mul h1, Nat.mul_comm, hp]; exact hx
  have h4 : (x % 2 ^ k + 1) * 2 ^ (32 - k) ≤ 2 ^ k * 2 ^ (32 - k) := Nat.mul_le_mul_right _ h2
  rw [Nat.add_mul, Nat.one_mul, hp] at h4
  omega
theorem shl_wrap (x k : Nat) (hk : k ≤ 32) : x * 2 ^ (32 - k) % 4294967296 = x % 2 ^ k * 2 ^ (32 - k) := by
  rw [← pow_split k hk, Nat.mul_mod_mul_right]
theorem rot32_or (x k : Nat) (hx : x < 4294967296) (hk : k ≤ 32) : x / 2 ^ k ||| x * 2 ^ (32 - k) % 4294967296 = rot32 x k := by
  rw [shl_wrap x k hk, Nat.or_comm, nat_join (32 - k) _ _ (Nat.mul_mod_left _ _), rot32, Nat.add_comm]
  rw [Nat.div_lt_iff_lt_mul (Nat.two_pow_pos k), Nat.mul_comm, pow_split k hk]; exact hx
theorem rot32_back (x k : Nat) (hx : x < 4294967296) (hk : k ≤ 32) : rot32 (rot32 x k) (32 - k) = x := by
  have hp := pow_split k hk
  have h1 : 0 < 2 ^ k := Nat.two_pow_pos k
  have h1' : 0 < 2 ^ (32 - k) := Nat.two_pow_pos _
  have h3 : x / 2 ^ k < 2 ^ (32 - k) := by
    rw [Nat.div_lt_iff_lt_mul h1, Nat.mul_comm, hp]; exact hx
  unfold rot32
  rw [show 32 - (32 - k) = k from by omega, Nat.add_mul_div_right _ _ h1', Nat.div_eq_of_lt h3, Nat.add_mul_mod_self_right, Nat.mod_eq_of_lt h3, Nat.zero_add]
  have := Nat.div_add_mod x (2 ^ k)
  rw [Nat.mul_comm] at this
  omega
theorem wrap_rem32 (n : Int) : (IntKind.u64.wrap n).tmod 32 = ((n % 32).toNat : Int) := by
  rw [IntKind.wrap_u64, Int.tmod_eq_emod_of_nonneg (Int.emod_nonneg _ (by decide))]
  omega

/-- The first j of l, then zeros: a row that is being filled. -/
def fillL (l : List Nat) (j : Nat) : List Nat := l.take j ++ List.replicate (l.length - j) 0
theorem fillL_zero (l : List Nat) : fillL l 0 = List.replicate l.length 0 := by simp [fillL]
theorem fillL_all (l : List Nat) : fillL l l.length = l := by simp [fillL]
theorem fillL_full (l : List Nat) (j : Nat) (h : l.length = j) : fillL l j = l := by subst h; exact fillL_all l
theorem length_fillL (l : List Nat) (j : Nat) (h : j ≤ l.length) : (fillL l j).length = l.length := by simp [fillL]; omega
theorem fillL_set (l : List Nat) (j : Nat) (h : j < l.length) : (fillL l j).set j l[j] = fillL l (j + 1) := by
  apply List.ext_getElem?
  intro i
  rw [List.getElem?_set]
  simp only [fillL, List.getElem?_append, List.length_take, List.getElem?_take, List.getElem?_replicate, List.length_append, List.length_replicate, Nat.min_eq_left (Nat.le_of_lt h), Nat.min_eq_left (show j + 1 ≤ l.length from h)]
  by_cases hij : j = i
  · subst hij
    rw [if_pos rfl, if_pos (by omega), if_pos (by omega), if_pos (by omega), List.getElem?_eq_getElem h]
  · rw [if_neg hij]
    repeat' split
    all_goals first | rfl | (exfalso; omega)

/-! ### A slice of integers that reads as a list of natural numbers -/
def ints (k : IntKind) (l : List Nat) : List Value := l.map fun x : Nat => Value.int k (x : Int)
theorem ints_set (k : IntKind) (l : List Nat) (j x : Nat) : (ints k l).set j (.int k (x : Int)) = ints k (l.set j x) := by simp [ints, List.map_set]
theorem ints_replicate (k : IntKind) (n : Nat) : ints k (List.replicate n 0) = List.replicate n (.int k 0) := by simp [ints]
theorem ints_append (k : IntKind) (l m : List Nat) : ints k (l ++ m) = ints k l ++ ints k m := by simp [ints]
theorem length_ints (k : IntKind) (l : List Nat) : (ints k l).length = l.length := by simp [ints]
theorem ints_oneCell (k : IntKind) (l : List Nat) : ∀ u ∈ ints k l, u.oneCell' = true := by
  intro u hu
  obtain ⟨x, _, rfl⟩ := List.mem_map.1 hu
  rfl
/-- The slice value '.slice A n c' reads as l in the world w. -/
structure Reads (k : IntKind) (w : World) (A : Option Addr) (n c : Nat) (l : List Nat) : Prop where
  len : l.length = n
  room : n ≤ c
  cap : c ≤ maxLen
  wf : ∀ x ∈ l, (Lit.int k (x : Int)).wf = true
  cell : ∀ i, (h : i < l.length) → ∃ ad, A = some ad ∧ ad.block < w.heap.size ∧ w.cell? (ad.add i) = some (.int k (l[i] : Int))

theorem block_lt_of_cell {w : World} {p : Addr} {v : Value} (h : w.cell? p = some v) : p.block < w.heap.size := by
  rcases Nat.lt_or_ge p.block w.heap.size with hlt | hge
  · exact hlt
  · exfalso
    have e : w.heap[p.block]? = none := Array.getElem?_eq_none hge
    simp [World.cell?, e] at h
theorem block_add (a : Addr) (n : Nat) : (a.add n).block = a.block := by unfold Addr.add; split <;> rfl
theorem add_add (a : Addr) (i j : Nat) : (a.add i).add j = a.add (i + j) := by
  unfold Addr.add
  by_cases hi : i = 0 <;> by_cases hj : j = 0 <;> simp [hi, hj, Nat.add_assoc]

section
variable {k : IntKind} {w w' : World} {A : Option Addr} {n c : Nat} {l : List Nat}
theorem Reads.nil : Reads k w A 0 c [] ↔ c ≤ maxLen := ⟨fun h => h.cap, fun h => ⟨rfl, Nat.zero_le _, h, by simp, by simp⟩⟩
theorem Reads.keep (h : Reads k w A n c l) (hb : Below w.heap.size w w') : Reads k w' A n c l :=
  ⟨h.len, h.room, h.cap, h.wf, fun i hi => by
    obtain ⟨ad, e, hlt, hc⟩ := h.cell i hi
    exact ⟨ad, e, Nat.lt_of_lt_of_le hlt hb.size, (hb.cell (by rw [block_add]; exact hlt)).trans hc⟩⟩
theorem Reads.drewN (h : Reads k w A n c l) (m : Nat) : Reads k (w.drewN m) A n c l := ⟨h.len, h.room, h.cap, h.wf, h.cell⟩
/-- A part of a slice. -/
theorem Reads.sub {ad : Addr} (h : Reads k w (some ad) n c l) (i m : Nat) (hi : i + m ≤ n) : Reads k w (some (ad.add i)) m (c - i) ((l.drop i).take m) := by
  have h1 := h.len
  have h2 := h.room
  have h3 := h.cap
  refine ⟨by simp; omega, by omega, by omega, fun x hx => h.wf x (List.mem_of_mem_drop (List.mem_of_mem_take hx)), fun j hj => ?_⟩
  have hj' : i + j < l.length := by simp at hj; omega
  obtain ⟨ad', e, hlt, hc⟩ := h.cell (i + j) hj'
  cases e
  refine ⟨_, rfl, by rw [block_add]; exact hlt, ?_⟩
  rw [add_add, hc]
  simp
/-- An argument's reading, as the shell of a law's proof hands it. -/
theorem Reads.of_row {zs : List Int} (hl : n ≤ c) (hm : c ≤ maxLen) (hz : zs.length = c) (hc : ∀ i, i < zs.length → ∃ ad, A = some ad ∧ w.cell? (ad.add i) = some (.int k (zs.getD i 0)))
    (hwf : ∀ z ∈ zs, (Lit.int k z).wf = true) (hpos : ∀ z, (Lit.int k z).wf = true → 0 ≤ z) : Reads k w A n c ((zs.take n).map Int.toNat) := by
  have hcast : ∀ z ∈ zs, ((z.toNat : Nat) : Int) = z := fun z hz => Int.toNat_of_nonneg (hpos z (hwf z hz))
  refine ⟨by simp [hz, hl], hl, hm, ?_, ?_⟩
  · intro x hx
    obtain ⟨z, hz', rfl⟩ := List.mem_map.1 hx
    have := List.mem_of_mem_take hz'
    rw [hcast z this]
    exact hwf z this
  · intro i hi
    have hi' : i < zs.length := by simp at hi; omega
    obtain ⟨ad, e, h⟩ := hc i hi'
    refine ⟨ad, e, by have := block_lt_of_cell h; rwa [block_add] at this, ?_⟩
    rw [h]
    simp only [List.getElem_map, List.getElem_take]
    rw [hcast _ (List.getElem_mem _)]
    simp [List.getD_eq_getElem?_getD, List.getElem?_eq_getElem hi']
/-- A row that the call owns reads as what it owns. -/
theorem Reads.of_own {base : Nat} {e : TypeId} {v : Value} (h : w.ownsRow base e 1 v n (ints k l)) (hwf : ∀ x ∈ l, (Lit.int k (x : Int)).wf = true) :
    ∃ A c, v = .slice A n c ∧ Reads k w A n c l := by
  have hlen : l.length = n := by simpa [ints] using h.1
  rcases h.2 with ⟨rfl, rfl⟩ | ⟨g, cap, cur, rfl, hb, hh, hn, hm, hs, ht⟩
  · have : l = [] := List.eq_nil_of_length_eq_zero hlen
    subst this
    exact ⟨none, 0, rfl, rfl, Nat.le_refl _, by simp [maxLen], by simp, by simp⟩
  · refine ⟨_, cap, rfl, hlen, hn, hm, hwf, fun i hi => ⟨_, rfl, ?_, ?_⟩⟩
    · show g < w.heap.size
      rcases Nat.lt_or_ge g w.heap.size with hlt | hge
      · exact hlt
      · rw [Array.getElem?_eq_none hge] at hh; cases hh
    · rw [h.cells (g := g) rfl i (.int k (l[i] : Int)) (by simp [ints, hi])]
end
theorem wf_u8 {x : Nat} : (Lit.int .u8 (x : Int)).wf = true ↔ x < 256 := by
  simp [Lit.wf, IntKind.min, IntKind.max, IntKind.signed, IntKind.bits]; omega
theorem wf_u32 {x : Nat} : (Lit.int .u32 (x : Int)).wf = true ↔ x < 4294967296 := by
  simp [Lit.wf, IntKind.min, IntKind.max, IntKind.signed, IntKind.bits]; omega
theorem wf_u64 {x : Nat} : (Lit.int .u64 (x : Int)).wf = true ↔ x < 18446744073709551616 := by
  simp [Lit.wf, IntKind.min, IntKind.max, IntKind.signed, IntKind.bits]; omega
theorem pos_u8 (z : Int) (h : (Lit.int .u8 z).wf = true) : 0 ≤ z := by simp [Lit.wf, IntKind.min, IntKind.max, IntKind.signed, IntKind.bits] at h; omega
theorem pos_u32 (z : Int) (h : (Lit.int .u32 z).wf = true) : 0 ≤ z := by simp [Lit.wf, IntKind.min, IntKind.max, IntKind.signed, IntKind.bits] at h; omega
theorem pos_u64 (z : Int) (h : (Lit.int .u64 z).wf = true) : 0 ≤ z := by simp [Lit.wf, IntKind.min, IntKind.max, IntKind.signed, IntKind.bits] at h; omega
theorem nat_u32 (z : Int) (h : (Lit.int .u32 z).wf = true) : ∃ x : Nat, z = (x : Int) ∧ x < 4294967296 := by
  obtain ⟨x, rfl⟩ := Int.eq_ofNat_of_zero_le (pos_u32 z h)
  exact ⟨x, rfl, wf_u32.1 h⟩
theorem nat_u64 (z : Int) (h : (Lit.int .u64 z).wf = true) : ∃ x : Nat, z = (x : Int) ∧ x < 18446744073709551616 := by
  obtain ⟨x, rfl⟩ := Int.eq_ofNat_of_zero_le (pos_u64 z h)
  exact ⟨x, rfl, wf_u64.1 h⟩
theorem range_i64 (z : Int) (h : (Lit.int .i64 z).wf = true) : -9223372036854775808 ≤ z ∧ z ≤ 9223372036854775807 := by
  simp [Lit.wf, IntKind.min, IntKind.max, IntKind.signed, IntKind.bits] at h; omega

/-! ### Small words for walks -/
theorem add_head (g j : Nat) : (⟨g, 0, none⟩ : Addr).add j = ⟨g, j, none⟩ := by
  unfold Addr.add; by_cases hj : j = 0 <;> simp [hj]
/-- The cells of a block that has just been made. -/
theorem cells_new (w : World) (cs : Array Value) (t : TypeId) : ∀ j u, cs.toList[j]? = some u → (w.alloc (.cells cs t)).cell? ((⟨w.heap.size, 0, none⟩ : Addr).add j) = some u := by
  intro j u h
  have e : ((⟨w.heap.size, 0, none⟩ : Addr).add j) = ⟨w.heap.size, j, none⟩ := by
    unfold Addr.add; by_cases hj : j = 0 <;> simp [hj]
  rw [e, cell_of_row _ _ _ cs t (0, 0) (heap_alloc_new w _), ← h]
  simp
theorem ret_int {k : IntKind} {a b : Int} (h : a = b) : Ending.returned (.int k a) = .returned (.int k b) := by rw [h]
theorem ret_bool {a b : Bool} (h : a = b) : Ending.returned (.bool a) = .returned (.bool b) := by rw [h]
/-- A callee that leaves the world as it is, in a region that draws its order. -/
theorem quiet_same {P : Program} {f : FuncId} {args : Array Value} {w : World} {n : Nat} {v : Value}
    (h : Calls P f args (w.drewN n) fun e w' => e = .returned v ∧ w.drewN n = w') : Calls P f args (w.drewN n) fun e w'' => e = .returned v ∧ ∃ m, w'' = w.drewN m :=
  h.mono fun _ _ ⟨he, hm⟩ => ⟨he, n, hm.symm⟩
theorem belowDrewN {B : Nat} {a w : World} (h : Below B a w) (n : Nat) : Below B a (w.drewN n) := ⟨h.os, h.tape, h.output, h.size, h.block⟩
end Go.Proofs.YtdldffgdipedpaaDoor
