/-
  The reference's small functions (Step, Valid, Triad, IsWalk, Walk, Shift), the statements' own (fine, text, Of), and Walk, Shift of the program.
-/
import Derived.Test.YtibkhjbcagihbaaDoorTrWalk
namespace Go.Proofs.YtibkhjbcagihbaaDoor
open Go.ChangeShapes Go.WideShapes Go.ChangeAt Go.RowKit
set_option maxRecDepth 100000

abbrev rcells (n a b : Int) : Obj := .cells #[.int .i64 n, .int .i64 a, .int .i64 b] 23

theorem wrap64_fix {x : Int} (h1 : -9223372036854775808 ≤ x) (h2 : x < 9223372036854775808) : wrap64 x = x := by unfold wrap64; omega

theorem stepN_up {n a b t c : Nat} (hn : 0 < n) (h : t < n) : ((stepN n a b t c : Nat) : Int) = (n : Int) + ((t : Int) + (byL a b c : Nat)).tmod n := by
  unfold stepN; rw [if_pos h, Int.tmod_eq_emod_of_nonneg (by omega)]; simp
theorem stepN_down {n a b t c : Nat} (hk : KOk n a b) (ht : t < 2 * n) (h : ¬ t < n) : ((stepN n a b t c : Nat) : Int) = ((t : Int) - (byL a b c : Nat)) % n := by
  have hb := hk.by_le c
  unfold stepN
  rw [if_neg h, Int.natCast_emod]
  have e : ((t - n + (2 * n - byL a b c) : Nat) : Int) = ((t : Int) - (byL a b c : Nat)) + (n : Int) * 1 := by omega
  rw [e, Int.add_mul_emod_self_left]

end Go.Proofs.YtibkhjbcagihbaaDoor
