/-
  The statements on the wheels of chords, and on chords that are alike.
-/
import Derived.Test.YtlmfmfbnbbooaaaWhRef4
namespace Go.Proofs.Ytlmfmfbnbbooaaa
open Go.ChangeShapes Go.WideShapes Go.ChangeAt Go.RowKit
set_option maxRecDepth 100000

theorem goodC {n c : Int} (h : (circB n && chordsB n.toNat [c]) = true) : ∃ m k : Nat, n = (m : Int) ∧ c = (k : Int) ∧ Circ m ∧ k < 2 ^ m := by
  rw [Bool.and_eq_true] at h
  obtain ⟨m, rfl, hm⟩ := circB_true h.1
  rw [Int.toNat_natCast] at h
  have h2 : 0 ≤ c ∧ c < ((2 ^ m : Nat) : Int) := by
    have := h.2
    unfold chordsB at this
    simpa using this
  exact ⟨m, c.toNat, rfl, by omega, hm, by omega⟩

theorem chB_two (n : Nat) (a b : Int) : chordsB n [a, b] = (chordsB n [a] && chordsB n [b]) := by unfold chordsB; simp

end Go.Proofs.Ytlmfmfbnbbooaaa
