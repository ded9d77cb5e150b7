/-
  Two pairs of integers compared.
-/
import Derived.Test.YtaldfaecpcnomaaDoorRoCut
import Derived.Laws.StructEq
namespace Go.Proofs.YtaldfaecpcnomaaDoor
open Go.ChangeShapes Go.WideShapes Go.ChangeAt Go.RowKit

theorem pairEqIn (d : Nat) (a b c e : Int) (w : World) : (Op.equalIn (d + 1 + 1) 38 (.agg #[.int .i64 a, .int .i64 b]) (.agg #[.int .i64 c, .int .i64 e])).run Tryd.prog w = .ok (decide (a = c ∧ b = e)) w := by
  have hI := fun (x y : Int) (w : World) => run_equalIn_int (P := Tryd.prog) w d 3 .i64 .i64 x y Tryd.underlying3
  rw [Op.equalIn]
  by_cases h1 : a = c <;> by_cases h2 : b = e <;>
    simp [run_underlying Tryd.underlying38, go_sem, Result.andThen, Std.Legacy.Range.forIn_eq_forIn_range', List.range', part, hI, h1, h2]

theorem pairEq (a b c e : Int) (w : World) : (binOp .eql 38 (.agg #[.int .i64 a, .int .i64 b]) (.agg #[.int .i64 c, .int .i64 e])).run Tryd.prog w = .ok (.bool (decide (a = c ∧ b = e))) w := by
  rw [run_eql_struct]
  rw [show (10000 : Nat) = 9998 + 1 + 1 from rfl, pairEqIn]
  rfl
theorem pairEq10 (a b c e : Int) (w : World) : (Op.equalIn 10000 38 (.agg #[.int .i64 a, .int .i64 b]) (.agg #[.int .i64 c, .int .i64 e])).run Tryd.prog w = .ok (decide (a = c ∧ b = e)) w := by
  rw [show (10000 : Nat) = 9998 + 1 + 1 from rfl, pairEqIn]
theorem pairGuard : Tryd.prog.eqGuardType Tryd.prog.depth 38 = false := by kernel_rfl
end Go.Proofs.YtaldfaecpcnomaaDoor
