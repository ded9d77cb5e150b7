/-
  The statement on rotations.
-/
import Derived.Test.YtkpiakoijkflmaaVoRot2
import Derived.Test.YtkpiakoijkflmaaVoMovedLaw
namespace Go.Proofs.Ytkpiakoijkflmaa
open Go.ChangeShapes Go.WideShapes Go.ChangeAt Go.RowKit
set_option maxRecDepth 100000

theorem rotN_take {k r q : Nat} (h : q < k) : (rotN k r).take (q + 1) = (rotN k r).take q ++ [(q + r) % k] := by
  have hl : q < (rotN k r).length := by rw [rotN_length]; exact h
  rw [List.take_succ_eq_append_getElem hl, ← rotN_at (r := r) h, List.getElem?_eq_getElem hl]; rfl
theorem leastZ_next {l : List Nat} {p : Nat} {z : Int} (h : z = leastZ (minS l)) : (z < 0 → (p : Int) = leastZ (minS (l ++ [p]))) ∧ ((p : Int) < z → (p : Int) = leastZ (minS (l ++ [p]))) ∧ (¬ z < 0 → ¬ (p : Int) < z → z = leastZ (minS (l ++ [p]))) := by
  rw [minS_snoc]
  cases e : minS l with
  | none =>
    rw [e] at h
    have h' : z = -1 := h
    exact ⟨fun _ => rfl, fun _ => rfl, fun a => by omega⟩
  | some m =>
    rw [e] at h
    have h' : z = (m : Int) := h
    by_cases hp : p < m
    · simp only [hp, if_true]
      exact ⟨fun _ => rfl, fun _ => rfl, fun _ b => by omega⟩
    · simp only [hp, if_false]
      exact ⟨fun a => by omega, fun a => by omega, fun _ _ => h'⟩
theorem rot_tmod {k q r : Nat} : ((q : Int) + (r : Int)).tmod (k : Int) = (((q + r) % k : Nat) : Int) := by
  rw [← Int.natCast_add, Int.tmod_eq_emod_of_nonneg (by omega)]; simp
theorem IntsV.form {W : World} {v : Value} {xs : List Int} (h : IntsV W v xs) : ∃ ao cap, v = .slice ao xs.length cap := by
  obtain ⟨ao, cap, e, _⟩ := h
  exact ⟨ao, cap, e⟩

end Go.Proofs.Ytkpiakoijkflmaa
