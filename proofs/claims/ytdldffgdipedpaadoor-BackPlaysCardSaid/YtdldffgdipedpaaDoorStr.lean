/- A string's bytes as a list. Conditions: none. -/
import Derived.Test.YtdldffgdipedpaaDoorBase
import Derived.Lib.AppendStr
namespace Go.Proofs.YtdldffgdipedpaaDoor
open Go.ChangeShapes Go.WideShapes Go.RowKit
/-- A string's bytes. -/
def strL (s : ByteArray) : List Nat := s.data.toList.map UInt8.toNat
theorem length_strL (s : ByteArray) : (strL s).length = s.size := by
  rw [strL, List.length_map, Array.length_toList]; rfl
theorem strL_cells (s : ByteArray) : Lib.strCells s = ints .u8 (strL s) := by
  rw [Lib.strCells, ints, strL, List.map_map]; rfl
theorem strL_lt (s : ByteArray) : ∀ x ∈ strL s, x < 256 := by
  intro x hx
  obtain ⟨b, _, rfl⟩ := List.mem_map.1 hx
  exact b.toNat_lt
theorem strL_get (s : ByteArray) (i : Nat) (h : i < s.size) (h' : i < (strL s).length) : (strL s)[i] = (s[i]'h).toNat := by
  simp only [strL, List.getElem_map, Array.getElem_toList]; rfl
theorem strL_inj {s t : ByteArray} (h : strL s = strL t) : s = t := by
  obtain ⟨a⟩ := s
  obtain ⟨b⟩ := t
  congr
  apply Array.ext'
  have : ∀ l m : List UInt8, l.map UInt8.toNat = m.map UInt8.toNat → l = m := by
    intro l
    induction l with
    | nil => intro m e; cases m with | nil => rfl | cons y r => cases e
    | cons x r ih => intro m e; cases m with
      | nil => cases e
      | cons y q => injection e with e1 e2; rw [UInt8.toNat_inj.1 e1, ih q e2]
  exact this _ _ h
theorem strL_append (s t : ByteArray) : strL (s ++ t) = strL s ++ strL t := by
  simp [strL, ByteArray.data_append]
theorem strL_empty : strL ⟨#[]⟩ = [] := rfl
theorem strL_get! (s : ByteArray) (i : Nat) : (s.get! i).toNat = (strL s).getD i 0 := by
  by_cases h : i < s.size
  · rw [List.getD_eq_getElem?_getD, List.getElem?_eq_getElem (by rw [length_strL]; exact h), Option.getD_some, strL_get s i h]
    cases s with
    | mk d => exact congrArg UInt8.toNat (getElem!_pos d i h)
  · rw [List.getD_eq_getElem?_getD, List.getElem?_eq_none (by rw [length_strL]; omega), Option.getD_none]
    cases s with
    | mk d => exact congrArg UInt8.toNat (getElem!_neg d i h)
theorem strL_extract (s : ByteArray) (i j : Nat) : strL (s.extract i j) = ((strL s).take j).drop i := by
  simp [strL, ByteArray.data_extract, Array.toList_extract, List.map_drop, List.map_take, List.drop_take]
end Go.Proofs.YtdldffgdipedpaaDoor
