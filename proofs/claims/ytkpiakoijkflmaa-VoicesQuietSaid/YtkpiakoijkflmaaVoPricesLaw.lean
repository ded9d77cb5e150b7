/-
  The statement on Price and Cross.
-/
import Derived.Test.YtkpiakoijkflmaaVoCross2
namespace Go.Proofs.Ytkpiakoijkflmaa
open Go.ChangeShapes Go.WideShapes Go.ChangeAt Go.RowKit
set_option maxRecDepth 100000

theorem ld_take (k : Nat) (hk : k ≤ 6) (ls : List Int) : ldB k (ls.take 9) = ldB k ls := by
  by_cases h : ls.length ≤ 9
  · rw [List.take_of_length_le h]
  · rw [ld_len (xs := ls) (by omega), ld_len (xs := ls.take 9) (by rw [List.length_take]; omega)]

end Go.Proofs.Ytkpiakoijkflmaa
