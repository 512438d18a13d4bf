/- What Join of package label and of the reference batonref04 return, for every list of parts, as a walk through the translated text. Conditions: the parts read as a list of lists; at most 64 of at most 2^20 bytes, or more than 64. -/
import Derived.Test.YtjacfihpjolddaaDoorLabel1
namespace Go.Proofs.YtjacfihpjolddaaDoor
open Go.ChangeShapes Go.WideShapes Go.RowKit
theorem mine_grown0 {w wr w' : World} {e : TypeId} {v v' : Value} {n m : Nat} {xs ys : List Value} (h : Mine w wr e v n xs) (ho : w'.ownsRow w.heap.size e 1 v' m ys) (hg : wr.grownBy w' v.ownBlock) : Mine w w' e v' m ys :=
  ⟨ho, h.2.grown hg h.2.size (own_base h.1)⟩
/-- The text while it is made: j parts are done. -/
def joinTo (ls : List (List Nat)) (j : Nat) : List Nat := ls.length % 256 :: bodyL (ls.take j)
theorem joinTo_end (ls : List (List Nat)) (n : Nat) (h : ls.length = n) : joinTo ls n = joinL ls := by rw [joinTo, joinL, List.take_of_length_le (by omega)]
theorem joinTo_succ (ls : List (List Nat)) (j : Nat) (h : j < ls.length) : joinTo ls (j + 1) = joinTo ls j ++ bytes4 ls[j].length ++ ls[j] := by
  rw [joinTo, bodyL_succ ls j h, joinTo, List.cons_append, List.cons_append]
theorem joinTo_le (ls : List (List Nat)) (j : Nat) : (joinTo ls j).length ≤ 1 + (bodyL ls).length := by
  have := bodyL_take_le ls j
  rw [joinTo, List.length_cons]; omega
theorem joinTo_zero (ls : List (List Nat)) : joinTo ls 0 = [ls.length % 256] := by simp [joinTo, bodyL]
end Go.Proofs.YtjacfihpjolddaaDoor
