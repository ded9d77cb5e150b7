/-
  The statement on Steps and Every.
-/
import Derived.Test.YtdfagnjdconkcaaRoEvery
namespace Go.Proofs.Ytdfagnjdconkcaa
open Go.ChangeShapes Go.WideShapes Go.ChangeAt Go.RowKit
set_option maxRecDepth 100000

theorem row_take (xs : List Int) : rowB (xs.take 13) = rowB xs := by
  by_cases h : xs.length ≤ 13
  · rw [List.take_of_length_le h]
  · unfold rowB
    rw [decide_eq_false (by rw [List.length_take]; omega), decide_eq_false (by omega), Bool.false_and, Bool.false_and]
theorem take_len (xs : List Int) : (xs.take 13).length ≤ maxLen := by rw [List.length_take]; unfold maxLen; omega
theorem row_take13 {n : Nat} {ys : List Nat} (h : IsRow n ys) : (natI ys).take 13 = natI ys := by
  rw [List.take_of_length_le (by rw [natI_length, h.len]; have := h.hi; omega)]
theorem row_len {n : Nat} {ys : List Nat} (h : IsRow n ys) : (natI ys).length ≤ maxLen := by
  rw [natI_length, h.len]; have := h.hi; unfold maxLen; omega

end Go.Proofs.Ytdfagnjdconkcaa
