/-
  No heights are greater than any script costs. Plain mathematics; no program is spoken of.
-/
import Derived.Test.YtkpmkeklopfhdaaEdScrMath
namespace Go.Proofs.Ytkpmkeklopfhdaa
open Go.RowKit
set_option linter.unusedVariables false

/-- Heights. -/
structure HtB (A B : List Nat) (pi po ps : Nat) (h : Nat → Nat → Int) : Prop where
  zero : h 0 0 = 0
  out : ∀ i j, i < A.length → j ≤ B.length → h (i + 1) j ≤ h i j + (po : Int)
  inn : ∀ i j, i ≤ A.length → j < B.length → h i (j + 1) ≤ h i j + (pi : Int)
  both : ∀ i j, i < A.length → j < B.length → h (i + 1) (j + 1) ≤ h i j + (if atB A i = atB B j then 0 else (ps : Int))

theorem ht_le {A B : List Nat} {pi po ps : Nat} {h : Nat → Nat → Int} (hp : Pr pi po ps) (hh : HtB A B pi po ps h) : ∀ (n i j : Nat), i + j ≤ n → i ≤ A.length → j ≤ B.length → h i j ≤ (pl A B pi po ps i j).c := by
  intro n
  induction n with
  | zero =>
    intro i j hn _ _
    obtain rfl : i = 0 := by omega
    obtain rfl : j = 0 := by omega
    rw [pl_00, hh.zero]; exact Int.le_refl _
  | succ n ih =>
    intro i j hn hi hj
    rcases i with _ | i
    · rcases j with _ | j
      · rw [pl_00, hh.zero]; exact Int.le_refl _
      · have h1 := ih 0 j (by omega) (by omega) (by omega)
        have h2 := hh.inn 0 j (by omega) (by omega)
        have e : (pl A B pi po ps 0 (j + 1)).c = (pl A B pi po ps 0 j).c + (pi : Int) := by rw [pl_0s]; rfl
        omega
    · rcases j with _ | j
      · have h1 := ih i 0 (by omega) (by omega) (by omega)
        have h2 := hh.out i 0 (by omega) (by omega)
        have e : (pl A B pi po ps (i + 1) 0).c = (pl A B pi po ps i 0).c + (po : Int) := by rw [pl_s0]; rfl
        omega
      · have h1 := ih i j (by omega) (by omega) (by omega)
        have h2 := ih i (j + 1) (by omega) (by omega) (by omega)
        have h3 := ih (i + 1) j (by omega) (by omega) (by omega)
        have g1 := hh.both i j (by omega) (by omega)
        have g2 := hh.out i (j + 1) (by omega) (by omega)
        have g3 := hh.inn (i + 1) j (by omega) (by omega)
        rw [pl_cost _ _ _ _ _ hp.i hp.o hp.s]
        omega

/-- The costs from the beginning are heights. -/
theorem ht_pl (A B : List Nat) {pi po ps : Nat} (hp : Pr pi po ps) : HtB A B pi po ps (fun i j => (pl A B pi po ps i j).c) :=
  ⟨by rw [pl_00]; rfl, fun i j _ _ => (pl_le A B hp i j).1, fun i j _ _ => (pl_le A B hp i j).2.1, fun i j _ _ => (pl_le A B hp i j).2.2⟩

/-- What came stays in front. -/
theorem doE_prefix (pi po ps : Nat) : ∀ (s : List (Nat × Nat)) (left came : List Nat) (cost : Nat) (l' c' : List Nat) (k' : Nat), doE pi po ps s (left, came, cost) = some (l', c', k') → ∃ r, c' = came ++ r
  | [], left, came, cost, l', c', k', h => by simp [doE] at h; exact ⟨[], by simp [h.2.1]⟩
  | (k, b) :: s, left, came, cost, l', c', k', h => by
    simp only [doE] at h
    by_cases h3 : k = 3
    · rw [if_pos h3] at h
      obtain ⟨r, hr⟩ := doE_prefix pi po ps s _ _ _ _ _ _ h
      exact ⟨b :: r, by rw [hr, List.append_assoc]; rfl⟩
    · rw [if_neg h3] at h
      cases left with
      | nil => cases h
      | cons x left =>
        simp only at h
        by_cases h0 : k = 0
        · rw [if_pos h0] at h
          obtain ⟨r, hr⟩ := doE_prefix pi po ps s _ _ _ _ _ _ h
          exact ⟨x :: r, by rw [hr, List.append_assoc]; rfl⟩
        · rw [if_neg h0] at h
          by_cases h1 : k = 1
          · rw [if_pos h1] at h
            by_cases hx : x = b
            · rw [if_pos hx] at h; cases h
            · rw [if_neg hx] at h
              obtain ⟨r, hr⟩ := doE_prefix pi po ps s _ _ _ _ _ _ h
              exact ⟨b :: r, by rw [hr, List.append_assoc]; rfl⟩
          · rw [if_neg h1] at h
            exact doE_prefix pi po ps s _ _ _ _ _ _ h

theorem next_byte {B : List Nat} {j b : Nat} {r : List Nat} (hj : j ≤ B.length) (h : B = (B.take j ++ [b]) ++ r) : j < B.length ∧ b = atB B j ∧ B.take j ++ [b] = B.take (j + 1) := by
  have hl := congrArg List.length h
  simp only [List.length_append, List.length_take, List.length_cons, List.length_nil] at hl
  have hjl : j < B.length := by omega
  have hb : b = atB B j := by
    have h2 : B.getD j 0 = ((B.take j ++ [b]) ++ r).getD j 0 := congrArg (fun L => L.getD j 0) h
    unfold atB
    rw [h2, List.getD_eq_getElem?_getD, List.append_assoc, List.getElem?_append_right (by rw [List.length_take]; omega), List.length_take, Nat.min_eq_left (by omega), Nat.sub_self]
    rfl
  exact ⟨hjl, hb, by rw [take_one hjl, hb]⟩

/-- No script costs less. -/
theorem doE_ge (A B : List Nat) {pi po ps : Nat} (hp : Pr pi po ps) : ∀ (s : List (Nat × Nat)) (i j k k' : Nat), i ≤ A.length → j ≤ B.length → (pl A B pi po ps i j).c ≤ (k : Int) →
    doE pi po ps s (A.drop i, B.take j, k) = some ([], B, k') → (pl A B pi po ps A.length B.length).c ≤ (k' : Int)
  | [], i, j, k, k', hi, hj, hc, h => by
    simp only [doE, Option.some.injEq, Prod.mk.injEq] at h
    obtain ⟨h1, h2, rfl⟩ := h
    have e1 := congrArg List.length h1
    have e2 := congrArg List.length h2
    rw [List.length_drop] at e1
    rw [List.length_take] at e2
    simp only [List.length_nil] at e1
    obtain rfl : i = A.length := by omega
    obtain rfl : j = B.length := by omega
    exact hc
  | (q, b) :: s, i, j, k, k', hi, hj, hc, h => by
    simp only [doE] at h
    by_cases h3 : q = 3
    · rw [if_pos h3] at h
      obtain ⟨r, hr⟩ := doE_prefix pi po ps s _ _ _ _ _ _ h
      obtain ⟨g1, g2, g3⟩ := next_byte hj hr
      rw [g3] at h
      have l := (pl_le A B hp i j).2.1
      exact doE_ge A B hp s i (j + 1) (k + pi) k' hi (by omega) (by push_cast; omega) h
    · rw [if_neg h3] at h
      rcases Nat.lt_or_ge i A.length with hil | hil
      · rw [drop_at hil] at h
        simp only at h
        by_cases h0 : q = 0
        · rw [if_pos h0] at h
          obtain ⟨r, hr⟩ := doE_prefix pi po ps s _ _ _ _ _ _ h
          obtain ⟨g1, g2, g3⟩ := next_byte hj hr
          rw [g3] at h
          have l := (pl_le A B hp i j).2.2
          rw [if_pos g2] at l
          exact doE_ge A B hp s (i + 1) (j + 1) k k' (by omega) (by omega) (by omega) h
        · rw [if_neg h0] at h
          by_cases h1 : q = 1
          · rw [if_pos h1] at h
            by_cases hx : atB A i = b
            · rw [if_pos hx] at h; cases h
            · rw [if_neg hx] at h
              obtain ⟨r, hr⟩ := doE_prefix pi po ps s _ _ _ _ _ _ h
              obtain ⟨g1, g2, g3⟩ := next_byte hj hr
              rw [g3] at h
              have l := (pl_le A B hp i j).2.2
              rw [if_neg (by rw [← g2]; exact hx)] at l
              exact doE_ge A B hp s (i + 1) (j + 1) (k + ps) k' (by omega) (by omega) (by push_cast; omega) h
          · rw [if_neg h1] at h
            have l := (pl_le A B hp i j).1
            exact doE_ge A B hp s (i + 1) j (k + po) k' (by omega) hj (by push_cast; omega) h
      · rw [List.drop_of_length_le hil] at h
        cases h
end Go.Proofs.Ytkpmkeklopfhdaa
