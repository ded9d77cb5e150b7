/-
  The least cost: both ways round, 0, multiples, by way of a third line; how many ways. Plain mathematics.
-/
import Derived.Test.YtkpmkeklopfhdaaEdMath
namespace Go.Proofs.Ytkpmkeklopfhdaa
open Go.RowKit
set_option linter.unusedVariables false

structure Pr (pi po ps : Nat) : Prop where
  i : pi ≤ 9
  o : po ≤ 9
  s : ps ≤ 9

theorem pl_0c (A B : List Nat) (pi po ps : Nat) : ∀ j : Nat, (pl A B pi po ps 0 j).c = (j : Int) * (pi : Int) ∧ (pl A B pi po ps 0 j).w = 1
  | 0 => by rw [pl_00]; simp [oneP]
  | j + 1 => by
    obtain ⟨h1, h2⟩ := pl_0c A B pi po ps j
    rw [pl_0s]
    refine ⟨?_, h2⟩
    show (pl A B pi po ps 0 j).c + (pi : Int) = _
    rw [h1]; push_cast; rw [Int.add_mul]; omega
theorem pl_c0 (A B : List Nat) (pi po ps : Nat) : ∀ i : Nat, (pl A B pi po ps i 0).c = (i : Int) * (po : Int) ∧ (pl A B pi po ps i 0).w = 1
  | 0 => by rw [pl_00]; simp [oneP]
  | i + 1 => by
    obtain ⟨h1, h2⟩ := pl_c0 A B pi po ps i
    rw [pl_s0]
    refine ⟨?_, h2⟩
    show (pl A B pi po ps i 0).c + (po : Int) = _
    rw [h1]; push_cast; rw [Int.add_mul]; omega

/-- The other way round. -/
theorem pl_sym (A B : List Nat) {pi po ps : Nat} (h : Pr pi po ps) : ∀ (n i j : Nat), i + j ≤ n → (pl B A po pi ps j i).c = (pl A B pi po ps i j).c ∧ (pl B A po pi ps j i).w = (pl A B pi po ps i j).w := by
  intro n
  induction n with
  | zero =>
    intro i j hn
    obtain rfl : i = 0 := by omega
    obtain rfl : j = 0 := by omega
    rw [pl_00, pl_00]; exact ⟨rfl, rfl⟩
  | succ n ih =>
    intro i j hn
    rcases i with _ | i
    · rw [(pl_c0 B A po pi ps j).1, (pl_c0 B A po pi ps j).2, (pl_0c A B pi po ps j).1, (pl_0c A B pi po ps j).2]; exact ⟨rfl, rfl⟩
    · rcases j with _ | j
      · rw [(pl_c0 A B pi po ps (i + 1)).1, (pl_c0 A B pi po ps (i + 1)).2, (pl_0c B A po pi ps (i + 1)).1, (pl_0c B A po pi ps (i + 1)).2]; exact ⟨rfl, rfl⟩
      · obtain ⟨a1, a2⟩ := ih i j (by omega)
        obtain ⟨b1, b2⟩ := ih i (j + 1) (by omega)
        obtain ⟨c1, c2⟩ := ih (i + 1) j (by omega)
        have hz : (if atB B j = atB A i then (0 : Int) else ps) = if atB A i = atB B j then (0 : Int) else ps := by
          by_cases e : atB A i = atB B j
          · rw [if_pos e, if_pos e.symm]
          · rw [if_neg e, if_neg (fun e' => e e'.symm)]
        have hc : (pl B A po pi ps (j + 1) (i + 1)).c = (pl A B pi po ps (i + 1) (j + 1)).c := by
          rw [pl_cost _ _ _ _ _ h.o h.i h.s, pl_cost _ _ _ _ _ h.i h.o h.s, a1, b1, c1, hz]
          omega
        refine ⟨hc, ?_⟩
        rw [pl_ways _ _ _ _ _ h.o h.i h.s, pl_ways _ _ _ _ _ h.i h.o h.s, hc, a1, b1, c1, a2, b2, c2, hz]
        omega

theorem pl_pos (A B : List Nat) {pi po ps : Nat} (h : Pr pi po ps) (i j : Nat) : 0 ≤ (pl A B pi po ps i j).c ∧ 1 ≤ (pl A B pi po ps i j).w :=
  ⟨(pl_bounds A B pi po ps h.i h.o h.s _ i j (Nat.le_refl _)).1, (pl_bounds A B pi po ps h.i h.o h.s _ i j (Nat.le_refl _)).2.2.1⟩

theorem take_one {L : List Nat} {i : Nat} (h : i < L.length) : L.take (i + 1) = L.take i ++ [atB L i] := by
  rw [List.take_succ_eq_append_getElem h]
  unfold atB
  rw [List.getD_eq_getElem?_getD, List.getElem?_eq_getElem h]; rfl

/-- Nothing costs just what changes nothing. -/
theorem pl_zero (A B : List Nat) {pi po ps : Nat} (h : Pr pi po ps) (h1 : 1 ≤ pi) (h2 : 1 ≤ po) (h3 : 1 ≤ ps) : ∀ (i j : Nat), i ≤ A.length → j ≤ B.length → ((pl A B pi po ps i j).c = 0 ↔ A.take i = B.take j)
  | 0, 0, _, _ => by rw [pl_00]; simp [oneP]
  | 0, j + 1, _, hj => by
    have := pl_pos A B h 0 j
    rw [pl_0s]
    constructor
    · intro e; have e' : (pl A B pi po ps 0 j).c + (pi : Int) = 0 := e; omega
    · intro e
      have := congrArg List.length e
      rw [List.length_take, List.length_take] at this; omega
  | i + 1, 0, hi, _ => by
    have := pl_pos A B h i 0
    rw [pl_s0]
    constructor
    · intro e; have e' : (pl A B pi po ps i 0).c + (po : Int) = 0 := e; omega
    · intro e
      have := congrArg List.length e
      rw [List.length_take, List.length_take] at this; omega
  | i + 1, j + 1, hi, hj => by
    have ih := pl_zero A B h h1 h2 h3 i j (by omega) (by omega)
    have q1 := (pl_pos A B h i j).1
    have q2 := (pl_pos A B h i (j + 1)).1
    have q3 := (pl_pos A B h (i + 1) j).1
    rw [pl_cost _ _ _ _ _ h.i h.o h.s, take_one (by omega), take_one (by omega)]
    by_cases e : atB A i = atB B j
    · rw [if_pos e, e]
      constructor
      · intro hm
        rw [ih.1 (by omega)]
      · intro hm
        have := ih.2 (List.append_inj_left hm (by
          have := congrArg List.length hm
          simp only [List.length_append, List.length_cons, List.length_nil] at this
          omega))
        omega
    · rw [if_neg e]
      constructor
      · intro hm; omega
      · intro hm
        exfalso
        have := List.append_inj_right' hm rfl
        simp at this
        exact e this

/-- All prices multiplied. -/
theorem pl_mul (A B : List Nat) {pi po ps m : Nat} (h : Pr pi po ps) (h' : Pr (pi * m) (po * m) (ps * m)) : ∀ (n i j : Nat), i + j ≤ n → (pl A B (pi * m) (po * m) (ps * m) i j).c = (pl A B pi po ps i j).c * (m : Int) := by
  intro n
  induction n with
  | zero =>
    intro i j hn
    obtain rfl : i = 0 := by omega
    obtain rfl : j = 0 := by omega
    rw [pl_00, pl_00]; simp [oneP]
  | succ n ih =>
    intro i j hn
    rcases i with _ | i
    · rw [(pl_0c A B (pi * m) (po * m) (ps * m) j).1, (pl_0c A B pi po ps j).1]; push_cast; rw [Int.mul_assoc]
    · rcases j with _ | j
      · rw [(pl_c0 A B (pi * m) (po * m) (ps * m) (i + 1)).1, (pl_c0 A B pi po ps (i + 1)).1]; push_cast; rw [Int.mul_assoc]
      · have a1 := ih i j (by omega)
        have b1 := ih i (j + 1) (by omega)
        have c1 := ih (i + 1) j (by omega)
        rw [pl_cost _ _ _ _ _ h'.i h'.o h'.s, pl_cost _ _ _ _ _ h.i h.o h.s, a1, b1, c1]
        have hm : (0 : Int) ≤ m := by omega
        have mm : ∀ x y : Int, min x y * (m : Int) = min (x * m) (y * m) := fun x y => by
          rcases Int.le_total x y with hxy | hxy
          · rw [Int.min_eq_left hxy, Int.min_eq_left (Int.mul_le_mul_of_nonneg_right hxy hm)]
          · rw [Int.min_eq_right hxy, Int.min_eq_right (Int.mul_le_mul_of_nonneg_right hxy hm)]
        rw [mm, mm, Int.add_mul, Int.add_mul, Int.add_mul]
        have hz : (if atB A i = atB B j then (0 : Int) else ((ps * m : Nat) : Int)) = (if atB A i = atB B j then (0 : Int) else (ps : Int)) * (m : Int) := by
          split
          · simp
          · push_cast; rfl
        rw [hz]
        push_cast
        rfl

/-- Of a line to itself there is one way. -/
theorem pl_self (A : List Nat) {pi po ps : Nat} (h : Pr pi po ps) (h1 : 1 ≤ pi) (h2 : 1 ≤ po) (h3 : 1 ≤ ps) : ∀ i : Nat, i ≤ A.length → (pl A A pi po ps i i).w = 1
  | 0, _ => by rw [pl_00]; rfl
  | i + 1, hi => by
    have ih := pl_self A h h1 h2 h3 i (by omega)
    have z1 : (pl A A pi po ps (i + 1) (i + 1)).c = 0 := (pl_zero A A h h1 h2 h3 _ _ hi hi).2 rfl
    have z0 : (pl A A pi po ps i i).c = 0 := (pl_zero A A h h1 h2 h3 _ _ (by omega) (by omega)).2 rfl
    have q2 := (pl_pos A A h i (i + 1)).1
    have q3 := (pl_pos A A h (i + 1) i).1
    rw [pl_ways _ _ _ _ _ h.i h.o h.s, z1, z0, ih, if_pos rfl, if_pos (by omega), if_neg (by omega), if_neg (by omega)]
    omega

/-- The three ways on, none less. -/
theorem pl_le (A B : List Nat) {pi po ps : Nat} (h : Pr pi po ps) (i j : Nat) : (pl A B pi po ps (i + 1) j).c ≤ (pl A B pi po ps i j).c + (po : Int) ∧ (pl A B pi po ps i (j + 1)).c ≤ (pl A B pi po ps i j).c + (pi : Int) ∧
    (pl A B pi po ps (i + 1) (j + 1)).c ≤ (pl A B pi po ps i j).c + (if atB A i = atB B j then 0 else (ps : Int)) := by
  refine ⟨?_, ?_, ?_⟩
  · rcases j with _ | j
    · rw [pl_s0]; exact Int.le_refl _
    · rw [pl_cost _ _ _ _ _ h.i h.o h.s]; omega
  · rcases i with _ | i
    · rw [pl_0s]; exact Int.le_refl _
    · rw [pl_cost _ _ _ _ _ h.i h.o h.s]; omega
  · rw [pl_cost _ _ _ _ _ h.i h.o h.s]; omega

/-- By way of a third line it never costs less. -/
theorem pl_tri (A B C : List Nat) {pi po ps : Nat} (h : Pr pi po ps) : ∀ (n i k j : Nat), i + k + j ≤ n → (pl A B pi po ps i j).c ≤ (pl A C pi po ps i k).c + (pl C B pi po ps k j).c := by
  intro n
  induction n with
  | zero =>
    intro i k j hn
    obtain rfl : i = 0 := by omega
    obtain rfl : j = 0 := by omega
    obtain rfl : k = 0 := by omega
    rw [pl_00, pl_00, pl_00]; decide
  | succ n ih =>
    intro i k j hn
    rcases i with _ | i
    · rcases j with _ | j
      · have q1 := (pl_pos A C h 0 k).1
        have q2 := (pl_pos C B h k 0).1
        rw [pl_00]
        show (0 : Int) ≤ _
        omega
      · rcases k with _ | k
        · rw [pl_00, (pl_0c A B pi po ps (j + 1)).1, (pl_0c C B pi po ps (j + 1)).1]
          show _ ≤ (0 : Int) + _
          omega
        · -- the last of both
          have e1 : (pl A C pi po ps 0 (k + 1)).c = (pl A C pi po ps 0 k).c + (pi : Int) := by rw [pl_0s]; rfl
          have i1 := ih 0 (k + 1) j (by omega)
          have i2 := ih 0 k (j + 1) (by omega)
          have i3 := ih 0 k j (by omega)
          have l1 := (pl_le A B h 0 j).2.1
          rw [e1] at i1 ⊢
          rw [pl_cost C B _ _ _ h.i h.o h.s k j]
          have hz : (0 : Int) ≤ if atB C k = atB B j then (0 : Int) else ps := by split <;> omega
          omega
    · rcases k with _ | k
      · rcases j with _ | j
        · rw [pl_00, (pl_c0 A B pi po ps (i + 1)).1, (pl_c0 A C pi po ps (i + 1)).1]
          show _ ≤ _ + (0 : Int)
          omega
        · have i1 := ih i 0 (j + 1) (by omega)
          have l1 := (pl_le A B h i (j + 1)).1
          have e1 : (pl A C pi po ps (i + 1) 0).c = (pl A C pi po ps i 0).c + (po : Int) := by rw [pl_s0]; rfl
          rw [e1]; omega
      · rcases j with _ | j
        · have e2 : (pl C B pi po ps (k + 1) 0).c = (pl C B pi po ps k 0).c + (po : Int) := by rw [pl_s0]; rfl
          have i1 := ih i (k + 1) 0 (by omega)
          have i2 := ih (i + 1) k 0 (by omega)
          have i3 := ih i k 0 (by omega)
          have l1 := (pl_le A B h i 0).1
          rw [e2] at i1 ⊢
          rw [pl_cost A C _ _ _ h.i h.o h.s i k]
          have hz : (0 : Int) ≤ if atB A i = atB C k then (0 : Int) else ps := by split <;> omega
          omega
        · have i1 := ih i (k + 1) (j + 1) (by omega)
          have i2 := ih (i + 1) (k + 1) j (by omega)
          have i3 := ih (i + 1) k (j + 1) (by omega)
          have i4 := ih i k (j + 1) (by omega)
          have i5 := ih (i + 1) k j (by omega)
          have i6 := ih i k j (by omega)
          have l1 := (pl_le A B h i (j + 1)).1
          have l2 := (pl_le A B h (i + 1) j).2.1
          have l3 := (pl_le A B h i j).2.2
          have t1 : (if atB A i = atB B j then (0 : Int) else ps) ≤ (if atB A i = atB C k then (0 : Int) else ps) + (if atB C k = atB B j then (0 : Int) else ps) := by
            by_cases x1 : atB A i = atB C k <;> by_cases x2 : atB C k = atB B j <;> by_cases x3 : atB A i = atB B j <;> simp [x1, x2, x3] <;> first | omega | (exfalso; exact x3 (x1.trans x2)) | (exfalso; omega)
          have hz1 : (0 : Int) ≤ if atB A i = atB C k then (0 : Int) else ps := by split <;> omega
          have hz2 : (0 : Int) ≤ if atB C k = atB B j then (0 : Int) else ps := by split <;> omega
          have c1 := pl_cost A C pi po ps h.i h.o h.s i k
          have c2 := pl_cost C B pi po ps h.i h.o h.s k j
          generalize (if atB A i = atB B j then (0 : Int) else ps) = z0 at *
          generalize (if atB A i = atB C k then (0 : Int) else ps) = z1 at *
          generalize (if atB C k = atB B j then (0 : Int) else ps) = z2 at *
          generalize (pl A C pi po ps (i + 1) (k + 1)).c = X at *
          generalize (pl C B pi po ps (k + 1) (j + 1)).c = Y at *
          generalize (pl A B pi po ps (i + 1) (j + 1)).c = T at *
          omega
end Go.Proofs.Ytkpmkeklopfhdaa
