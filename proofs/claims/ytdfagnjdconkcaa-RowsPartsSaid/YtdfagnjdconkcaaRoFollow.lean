/-
  Follow, and the reference's.
-/
import Derived.Test.YtdfagnjdconkcaaRoCut
import Derived.Test.YtdfagnjdconkcaaRoFollowMath
namespace Go.Proofs.Ytdfagnjdconkcaa
open Go.ChangeShapes Go.WideShapes Go.ChangeAt Go.RowKit
set_option maxRecDepth 100000

theorem folN_bd (n k : Nat) (ys : List Nat) (i : Nat) : sumN i (folI n k ys) ≤ i := by
  induction i with
  | zero => exact Nat.le_refl _
  | succ i ih => simp only [sumN]; have : folI n k ys i ≤ 1 := by unfold folI; split <;> omega
                 omega

theorem isI_bd (n k : Nat) (ys : List Nat) (i j : Nat) : sumN j (isI n k ys i) ≤ j := by
  induction j with
  | zero => exact Nat.le_refl _
  | succ j ih => simp only [sumN]; have : isI n k ys i j ≤ 1 := by unfold isI; split <;> omega
                 omega
theorem tot_bd (n k : Nat) (ys : List Nat) (i : Nat) (hi : i ≤ 10) : sumN i (fun i => sumN i (isI n k ys i)) ≤ 10 * i := by
  induction i with
  | zero => exact Nat.le_refl _
  | succ i ih => simp only [sumN]; have := isI_bd n k ys i i; have := ih (by omega); omega

end Go.Proofs.Ytdfagnjdconkcaa
