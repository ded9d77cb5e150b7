/-
  All walks of up to six steps in their order: the shorter ones first, those of one length by their letters. Plain mathematics.
-/
import Derived.Test.YtibkhjbcagihbaaTrVisitsLaw
import Derived.Test.YtibkhjbcagihbaaTrRoundRef2
namespace Go.Proofs.Ytibkhjbcagihbaa
set_option maxRecDepth 100000

def letN (c : Nat) : Nat := lprL[c]?.getD 0
/-- The walk with number m. -/
def nodeW (m : Nat) : List Nat := if _h : m = 0 then [] else nodeW ((m - 1) / 3) ++ [letN ((m - 1) % 3)]
termination_by m
decreasing_by omega

theorem nodeW_zero : nodeW 0 = [] := by rw [nodeW]; rfl
theorem nodeW_pos {m : Nat} (h : m ≠ 0) : nodeW m = nodeW ((m - 1) / 3) ++ [letN ((m - 1) % 3)] := by
  conv => lhs; rw [nodeW]
  rw [dif_neg h]
theorem nodeW_child (i c : Nat) (hc : c < 3) : nodeW (3 * i + 1 + c) = nodeW i ++ [letN c] := by
  rw [nodeW_pos (by omega), show (3 * i + 1 + c - 1) / 3 = i by omega, show (3 * i + 1 + c - 1) % 3 = c by omega]
theorem nodeW_le : ∀ k m : Nat, 2 * m + 1 < 3 ^ (k + 1) → (nodeW m).length ≤ k
  | 0, m, h => by
    obtain rfl : m = 0 := by simp at h; omega
    rw [nodeW_zero]; exact Nat.le_refl _
  | k + 1, m, h => by
    by_cases h0 : m = 0
    · subst h0; rw [nodeW_zero]; exact Nat.zero_le _
    · rw [nodeW_pos h0, List.length_append, List.length_singleton]
      have := nodeW_le k ((m - 1) / 3) (by rw [Nat.pow_succ] at h; omega)
      omega
theorem pow3_odd (k : Nat) : 3 ^ k % 2 = 1 := by
  induction k with
  | zero => rfl
  | succ k ih => rw [Nat.pow_succ]; omega
theorem nodeW_ge : ∀ k m : Nat, 3 ^ k ≤ 2 * m + 1 → k ≤ (nodeW m).length
  | 0, _, _ => Nat.zero_le _
  | k + 1, m, h => by
    have hp : 0 < 3 ^ k := Nat.pow_pos (by omega)
    have ho := pow3_odd k
    rw [Nat.pow_succ] at h
    have h0 : m ≠ 0 := by omega
    rw [nodeW_pos h0, List.length_append, List.length_singleton]
    have := nodeW_ge k ((m - 1) / 3) (by omega)
    omega
theorem node_short {m : Nat} (h : m < 1093) : ((nodeW m).length < 6 ↔ m < 364) ∧ (nodeW m).length ≤ 6 := by
  refine ⟨⟨fun h1 => ?_, fun h1 => ?_⟩, nodeW_le 6 m (by omega)⟩
  · apply Nat.lt_of_not_le
    intro h2
    have := nodeW_ge 6 m (by omega)
    omega
  · have := nodeW_le 5 m (by omega)
    omega
theorem letN_mem {c : Nat} (h : c < 3) : letN c ∈ lprL ∧ isLetN (letN c) = true := by
  rcases (show c = 0 ∨ c = 1 ∨ c = 2 by omega) with rfl | rfl | rfl <;> decide
theorem nodeW_let (m : Nat) : (nodeW m).all isLetN = true := by
  induction m using Nat.strongRecOn with
  | _ m ih =>
    by_cases h0 : m = 0
    · subst h0; rw [nodeW_zero]; rfl
    · rw [nodeW_pos h0, List.all_append, ih ((m - 1) / 3) (by omega)]
      simp [(letN_mem (show (m - 1) % 3 < 3 by omega)).2]
theorem nodeW_bytes (m : Nat) : ∀ c ∈ nodeW m, c < 256 := fun c hc => by
  have := List.all_eq_true.1 (nodeW_let m) c hc
  rcases (isLetN_iff c).1 this with h | h | h <;> omega
theorem node_str (m : Nat) : bsN (strOf (nodeW m)) = nodeW m := bsN_strOf _ (nodeW_bytes m)

/-- None of the first i walks is a tour. -/
def noTour (n a b i : Nat) : Prop := ∀ j, j < i → tourB n a b (nodeW j) = false
theorem noTour_zero (n a b : Nat) : noTour n a b 0 := fun j h => absurd h (Nat.not_lt_zero _)
theorem noTour_one (n a b : Nat) : noTour n a b 1 := fun j h => by
  obtain rfl : j = 0 := by omega
  rw [nodeW_zero]; rfl
theorem noTour_succ {n a b i : Nat} (h : noTour n a b i) (h2 : tourB n a b (nodeW i) = false) : noTour n a b (i + 1) := fun j hj => by
  by_cases e : j = i
  · subst e; exact h2
  · exact h j (by omega)
/-- What Tours returns. -/
def ToursV (n a b : Nat) (v : Value) : Prop :=
  (∃ m, m < 1093 ∧ noTour n a b m ∧ tourB n a b (nodeW m) = true ∧ v = .tuple #[.string (strOf (nodeW m)), .int .i64 0]) ∨ (noTour n a b 1093 ∧ v = .tuple #[.string ⟨#[]⟩, .int .i64 4])
theorem ToursV.uniq {n a b : Nat} {v u : Value} (h : ToursV n a b v) (k : ToursV n a b u) : v = u := by
  rcases h with ⟨m, m1, m2, m3, rfl⟩ | ⟨m1, rfl⟩ <;> rcases k with ⟨l, l1, l2, l3, rfl⟩ | ⟨l1, rfl⟩
  · have : m = l := by
      rcases Nat.lt_trichotomy m l with h | h | h
      · rw [l2 m h] at m3; cases m3
      · exact h
      · rw [m2 l h] at l3; cases l3
    rw [this]
  · rw [l1 m m1] at m3; cases m3
  · rw [m1 l l1] at l3; cases l3
  · rfl
theorem ToursV.form {n a b : Nat} {v : Value} (h : ToursV n a b v) : ∃ s e, v = .tuple #[.string s, .int .i64 e] := by
  rcases h with ⟨m, _, _, _, rfl⟩ | ⟨_, rfl⟩ <;> exact ⟨_, _, rfl⟩
end Go.Proofs.Ytibkhjbcagihbaa
