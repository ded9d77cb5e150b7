/-
  The reference's tests (Valid, Triad, IsWalk), its Walk, and the statements' own small functions (fine, text, Of).
-/
import Derived.Test.YtibkhjbcagihbaaDoorTrRef
namespace Go.Proofs.YtibkhjbcagihbaaDoor
open Go.ChangeShapes Go.WideShapes Go.ChangeAt Go.RowKit
set_option maxRecDepth 100000

theorem Of_any (n a b : Int) (w : World) :
    Calls Tryd.prog 6 #[kv n a b] w fun e w' => e = .returned (kv n a b) ∧ Below w.heap.size w w' := by
  go_enter Tryd.func6, Tryd.ntmps6
  go_wp2
  refine bodyPost_ret (results_cell_row rfl _ _ (w.heap.size + 1) 27 #[.int .i64 n, .int .i64 a, .int .i64 b] (0, 0) _ rfl (heap_alloc2_new w _ _) Tryd.underlying27 rfl (by kernel_rfl)) rfl ?_
  exact ⟨rfl, ((Below.refl _ _).alloc (Nat.le_refl _) _).alloc (by simp) _⟩

theorem RTriad_any (n a b t : Int) (w : World) :
    Calls Tryd.prog 13 #[kv n a b, .int .i64 t] w fun e w' => e = .returned (.bool (decide (0 ≤ t) && decide (t < wrap64 (2 * n)))) ∧ Below w.heap.size w w' := by
  have hal := Lib.hid ((Below.refl w.heap.size w).alloc (Nat.le_refl _) (rcells n a b))
  by_cases h : 0 ≤ t
  · have HD := Lib.hid (show decide (0 ≤ t) = true from decide_eq_true h)
    go_enter Tryd.func13, Tryd.ntmps13
    go_wp2
    go_ret
    exact ⟨ret_bool (by rw [HD.out]; rfl), hal.out⟩
  · have HD := Lib.hid (show decide (0 ≤ t) = false from decide_eq_false h)
    go_enter Tryd.func13, Tryd.ntmps13
    go_wp2
    go_ret
    exact ⟨ret_bool (by rw [HD.out]; rfl), hal.out⟩


theorem notLet (c : Nat) (h : isLetN c = false) : ((c : Int) != 80) = true ∧ ((c : Int) != 76) = true ∧ ((c : Int) != 82) = true := by
  have h' : ¬ (c = 76 ∨ c = 80 ∨ c = 82) := by rw [← isLetN_iff, h]; simp
  refine ⟨?_, ?_, ?_⟩ <;> rw [bne_iff_ne] <;> omega

end Go.Proofs.YtibkhjbcagihbaaDoor
