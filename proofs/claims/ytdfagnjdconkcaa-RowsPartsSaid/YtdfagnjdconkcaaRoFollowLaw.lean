/-
  The statement on Follow.
-/
import Derived.Test.YtdfagnjdconkcaaRoFollow
namespace Go.Proofs.Ytdfagnjdconkcaa
open Go.ChangeShapes Go.WideShapes Go.ChangeAt Go.RowKit
set_option maxRecDepth 100000

theorem row_len10 {xs : List Int} (h : rowB xs = true) : 2 ≤ xs.length ∧ xs.length ≤ 10 := by
  unfold rowB at h
  rw [Bool.and_eq_true, decide_eq_true_eq] at h
  exact h.1

end Go.Proofs.Ytdfagnjdconkcaa
