/- A law for walks that write into a row of their own: one number of it is replaced. Conditions: none; it speaks of no program. -/
import Derived.Test.YtnfjghihjpdpiaaRegs
namespace Go.Proofs.Ytnfjghihjpdpiaa
open Go.RowKit
/-- One number of a row of the call's own is replaced. -/
theorem mine_write {w wr : World} {e : TypeId} {V : Option Addr} {n c : Nat} {k : IntKind} {l : List Nat} (h : Mine w wr e (.slice V n c) n (ints k l)) (j : Nat) (hj : j < n) (hjl : j < l.length) :
    ∃ g, V = some ⟨g, 0, none⟩ ∧ w.heap.size ≤ g ∧ wr.cell? ⟨g, j, none⟩ = some (.int k (l[j] : Int)) ∧ wr.frozen? ⟨g, j, none⟩ = false ∧
      ∀ y : Nat, Mine w (wr.setCell ⟨g, j, none⟩ (.int k (y : Int))) e (.slice V n c) n (ints k (l.set j y)) := by
  obtain ⟨⟨hlen, h⟩, hb⟩ := h
  rcases h with ⟨_, h0⟩ | ⟨g, cap, cur, e1, hg, hh, hn, hm, hs, ht⟩
  · omega
  · cases e1
    have hblk : Blk wr g e cur.toList := by unfold Blk; rw [hh]
    rw [Nat.mul_one] at ht hs hlen
    refine ⟨g, rfl, hg, ?_, hblk.frozen j, fun y => ⟨⟨by rw [← ints_set, List.length_set, hlen, Nat.mul_one], .inr ⟨g, c, (cur.toList.set j (.int k (y : Int))).toArray, rfl, hg, hblk.set_ j _, hn, hm, by simp [hs], ?_⟩⟩, hb.setCell hg _⟩⟩
    · rw [hblk.cell j]
      have e2 : (cur.toList.take n)[j]? = cur.toList[j]? := List.getElem?_take_of_lt hj
      rw [← e2, ht]
      simp [ints, hjl]
    · rw [Nat.mul_one, ← ints_set, ← ht, List.take_set]
end Go.Proofs.Ytnfjghihjpdpiaa
