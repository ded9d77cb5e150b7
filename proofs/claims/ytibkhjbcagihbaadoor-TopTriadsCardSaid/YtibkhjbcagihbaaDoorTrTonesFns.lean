/-
  Tones of package triads.
-/
import Derived.Test.YtibkhjbcagihbaaDoorTrTones
namespace Go.Proofs.YtibkhjbcagihbaaDoor
open Go.ChangeShapes Go.WideShapes Go.ChangeAt Go.RowKit
set_option maxRecDepth 100000

theorem Tones_bad (n a b t : Int) (h : (kindB n a b && triB n t) = false) (w : World) :
    Calls Tryd.prog 5 #[kv n a b, .int .i64 t] w fun e w' => e = .returned (.tuple #[.int .i64 0, .int .i64 2]) ∧ Below w.heap.size w w' := by
  have HV := Lib.hid (valid1 n a b t false h (w.heap.size + 1) 1 (laid1 w n a b t) (by simp))
  have HA := Lib.hid (below_laid1 w n a b t)
  clear h
  go_enter Tryd.func5, Tryd.ntmps5
  go_wp2_with fail
  refine HV.out.mono ?_
  rintro e w1 ⟨rfl, b1⟩
  go_wp2
  go_ret2
  exact ⟨rfl, below_nx HA.out b1⟩

theorem Tones_ok (n a b t : Nat) (hk : KOk n a b) (ht : t < 2 * n) (w : World) :
    Calls Tryd.prog 5 #[kv n a b, .int .i64 t] w fun e w' => e = .returned (.tuple #[.int .i64 (setT n a b t 3 : Nat), .int .i64 0]) ∧ Below w.heap.size w w' := by
  have HV := Lib.hid (valid1 n a b t true (by rw [kindB_of_nat hk, triB_nat ht]; rfl) (w.heap.size + 1) 1 (laid1 w n a b t) (by simp))
  have HA := Lib.hid (below_laid1 w n a b t)
  have HT := Lib.hid (tones_any n a b t hk ht)
  have k0 : (laid1 w n a b t).cell? ⟨w.heap.size, 0, none⟩ = some (.int .i64 n) := by simp
  have k1 : (laid1 w n a b t).cell? ⟨w.heap.size, 1, none⟩ = some (.int .i64 a) := by simp
  have k2 : (laid1 w n a b t).cell? ⟨w.heap.size, 2, none⟩ = some (.int .i64 b) := by simp
  go_enter Tryd.func5, Tryd.ntmps5
  go_wp2_with fail
  refine HV.out.mono ?_
  rintro e w1 ⟨rfl, b1⟩
  have k0 := cell_later b1 k0
  have k1 := cell_later b1 k1
  have k2 := cell_later b1 k2
  have HA1 := Lib.hid (below_nx HA.out b1)
  go_wp2_with fail
  refine (HT.out _).mono ?_
  rintro e w2 ⟨rfl, b2⟩
  go_wp2
  go_ret2
  exact ⟨rfl, below_nx HA1.out b2⟩
end Go.Proofs.YtibkhjbcagihbaaDoor
