/-
  The script that is told: from the last pair back. Plain mathematics; no program is spoken of.
-/
import Derived.Test.YtkpmkeklopfhdaaEdTri
namespace Go.Proofs.Ytkpmkeklopfhdaa

section
open Go.RowKit
set_option linter.unusedVariables false

/-- What an or tells: of one of both. -/
theorem orP_pick (x y : Pl) : ((orP x y).c = x.c ∧ (orP x y).k = x.k ∧ (orP x y).b = x.b ∧ (orP x y).i = x.i ∧ (orP x y).j = x.j) ∨ orP x y = y := by
  unfold orP; split
  · exact Or.inr rfl
  · split
    · exact Or.inl ⟨rfl, rfl, rfl, rfl, rfl⟩
    · exact Or.inl ⟨rfl, rfl, rfl, rfl, rfl⟩

/-- The last edit of a script to a pair, where it is done, and what it costs. -/
inductive Last (A B : List Nat) (pi po ps : Nat) (i j : Nat) (p : Pl) : Prop
  | keep (r c : Nat) (hi : i = r + 1) (hj : j = c + 1) (e : atB A r = atB B c) (hk : p.k = 0) (hb : p.b = 0) (h1 : p.i = r) (h2 : p.j = c) (hc : p.c = (pl A B pi po ps r c).c)
  | swap (r c : Nat) (hi : i = r + 1) (hj : j = c + 1) (e : atB A r ≠ atB B c) (hk : p.k = 1) (hb : p.b = (atB B c : Nat)) (h1 : p.i = r) (h2 : p.j = c) (hc : p.c = (pl A B pi po ps r c).c + (ps : Nat))
  | out (r : Nat) (hi : i = r + 1) (hk : p.k = 2) (hb : p.b = 0) (h1 : p.i = r) (h2 : p.j = j) (hc : p.c = (pl A B pi po ps r j).c + (po : Nat))
  | inn (c : Nat) (hj : j = c + 1) (hk : p.k = 3) (hb : p.b = (atB B c : Nat)) (h1 : p.i = i) (h2 : p.j = c) (hc : p.c = (pl A B pi po ps i c).c + (pi : Nat))

theorem Last.of {A B : List Nat} {pi po ps i j : Nat} {p q : Pl} (h : Last A B pi po ps i j q) (e : p.c = q.c ∧ p.k = q.k ∧ p.b = q.b ∧ p.i = q.i ∧ p.j = q.j) : Last A B pi po ps i j p := by
  obtain ⟨e1, e2, e3, e4, e5⟩ := e
  cases h with
  | keep r c hi hj e hk hb h1 h2 hc => exact .keep r c hi hj e (by rw [e2, hk]) (by rw [e3, hb]) (by rw [e4, h1]) (by rw [e5, h2]) (by rw [e1, hc])
  | swap r c hi hj e hk hb h1 h2 hc => exact .swap r c hi hj e (by rw [e2, hk]) (by rw [e3, hb]) (by rw [e4, h1]) (by rw [e5, h2]) (by rw [e1, hc])
  | out r hi hk hb h1 h2 hc => exact .out r hi (by rw [e2, hk]) (by rw [e3, hb]) (by rw [e4, h1]) (by rw [e5, h2]) (by rw [e1, hc])
  | inn c hj hk hb h1 h2 hc => exact .inn c hj (by rw [e2, hk]) (by rw [e3, hb]) (by rw [e4, h1]) (by rw [e5, h2]) (by rw [e1, hc])

theorem last_both (A B : List Nat) (pi po ps r c : Nat) : Last A B pi po ps (r + 1) (c + 1) (cBoth A B ps (pl A B pi po ps r c) r c) := by
  unfold cBoth
  by_cases e : atB A r = atB B c
  · rw [if_pos e]; exact .keep r c rfl rfl e rfl rfl rfl rfl rfl
  · rw [if_neg e]; exact .swap r c rfl rfl e rfl rfl rfl rfl rfl

theorem pl_last (A B : List Nat) (pi po ps : Nat) : ∀ i j : Nat, ¬ (i = 0 ∧ j = 0) → Last A B pi po ps i j (pl A B pi po ps i j)
  | 0, 0, h => absurd ⟨rfl, rfl⟩ h
  | 0, j + 1, _ => by rw [pl_0s]; exact .inn j rfl rfl rfl rfl rfl rfl
  | i + 1, 0, _ => by rw [pl_s0]; exact .out i rfl rfl rfl rfl rfl rfl
  | i + 1, j + 1, _ => by
    rw [pl_ss]
    rcases orP_pick (orP (cBoth A B ps (pl A B pi po ps i j) i j) (cOut po (pl A B pi po ps i (j + 1)) i (j + 1))) (cIn B pi (pl A B pi po ps (i + 1) j) (i + 1) j) with h | h
    · refine Last.of ?_ h
      rcases orP_pick (cBoth A B ps (pl A B pi po ps i j) i j) (cOut po (pl A B pi po ps i (j + 1)) i (j + 1)) with h2 | h2
      · exact Last.of (last_both A B pi po ps i j) h2
      · rw [h2]; exact .out i rfl rfl rfl rfl rfl rfl
    · rw [h]; exact .inn j rfl rfl rfl rfl rfl rfl

/-- The script from the front to a pair: kinds and bytes. -/
def scrF (A B : List Nat) (pi po ps : Nat) : Nat → Nat → Nat → List (Nat × Nat)
  | 0, _, _ => []
  | n + 1, i, j => if i = 0 ∧ j = 0 then [] else
      scrF A B pi po ps n (pl A B pi po ps i j).i.toNat (pl A B pi po ps i j).j.toNat ++ [((pl A B pi po ps i j).k.toNat, (pl A B pi po ps i j).b.toNat)]
def scr (A B : List Nat) (pi po ps i j : Nat) : List (Nat × Nat) := scrF A B pi po ps (i + j) i j

/-- Doing edits: what is left of a line, what came, what it cost. -/
def doE (pi po ps : Nat) : List (Nat × Nat) → List Nat × List Nat × Nat → Option (List Nat × List Nat × Nat)
  | [], s => some s
  | (k, b) :: t, (left, came, cost) =>
    if k = 3 then doE pi po ps t (left, came ++ [b], cost + pi)
    else match left with
      | [] => none
      | x :: left => if k = 0 then doE pi po ps t (left, came ++ [x], cost) else if k = 1 then (if x = b then none else doE pi po ps t (left, came ++ [b], cost + ps)) else doE pi po ps t (left, came, cost + po)
theorem doE_append (pi po ps : Nat) : ∀ (s t : List (Nat × Nat)) (x : List Nat × List Nat × Nat), doE pi po ps (s ++ t) x = (doE pi po ps s x).bind (doE pi po ps t)
  | [], t, x => by simp [doE]
  | (k, b) :: s, t, (left, came, cost) => by
    simp only [List.cons_append, doE]
    by_cases h3 : k = 3
    · rw [if_pos h3, if_pos h3, doE_append]
    · rw [if_neg h3, if_neg h3]
      cases left with
      | nil => rfl
      | cons y left =>
        by_cases h0 : k = 0
        · simp only [if_pos h0, doE_append]
        · by_cases h1 : k = 1
          · simp only [if_neg h0, if_pos h1]
            by_cases hy : y = b
            · simp [hy]
            · simp only [if_neg hy, doE_append]
          · simp only [if_neg h0, if_neg h1, doE_append]

theorem drop_at {L : List Nat} {i : Nat} (h : i < L.length) : L.drop i = atB L i :: L.drop (i + 1) := by
  rw [List.drop_eq_getElem_cons h]
  unfold atB
  rw [List.getD_eq_getElem?_getD, List.getElem?_eq_getElem h]; rfl

/-- The script does what it has to, at the least cost. -/
theorem scr_done (A B : List Nat) {pi po ps : Nat} (h : Pr pi po ps) : ∀ (n i j : Nat), i + j ≤ n → i ≤ A.length → j ≤ B.length → doE pi po ps (scrF A B pi po ps n i j) (A, [], 0) = some (A.drop i, B.take j, (pl A B pi po ps i j).c.toNat) := by
  intro n
  induction n with
  | zero =>
    intro i j hn hi hj
    obtain rfl : i = 0 := by omega
    obtain rfl : j = 0 := by omega
    rw [pl_00]; simp [scrF, doE, oneP]
  | succ n ih =>
    intro i j hn hi hj
    unfold scrF
    by_cases h0 : i = 0 ∧ j = 0
    · obtain ⟨rfl, rfl⟩ := h0
      rw [pl_00]; simp [doE, oneP]
    · rw [if_neg h0, doE_append]
      have hp := fun r c => (pl_pos A B h r c).1
      cases pl_last A B pi po ps i j h0 with
      | keep r c e1 e2 e hk hb h1 h2 hc =>
        subst e1 e2
        rw [h1, h2, hk, hb, hc, Int.toNat_natCast, Int.toNat_natCast, ih r c (by omega) (by omega) (by omega)]
        simp only [Option.bind_some]
        rw [drop_at (by omega : r < A.length)]
        simp [doE, take_one (by omega : c < B.length), e]
      | swap r c e1 e2 e hk hb h1 h2 hc =>
        subst e1 e2
        rw [h1, h2, hk, hb, hc, Int.toNat_natCast, Int.toNat_natCast, Int.toNat_natCast, ih r c (by omega) (by omega) (by omega)]
        simp only [Option.bind_some]
        rw [drop_at (by omega : r < A.length)]
        have := hp r c
        simp [doE, take_one (by omega : c < B.length), e]
        omega
      | out r e1 hk hb h1 h2 hc =>
        subst e1
        rw [h1, h2, hk, hb, hc, Int.toNat_natCast, Int.toNat_natCast, ih r j (by omega) (by omega) (by omega)]
        simp only [Option.bind_some]
        rw [drop_at (by omega : r < A.length)]
        have := hp r j
        simp [doE]
        omega
      | inn c e2 hk hb h1 h2 hc =>
        subst e2
        rw [h1, h2, hk, hb, hc, Int.toNat_natCast, Int.toNat_natCast, Int.toNat_natCast, ih i c (by omega) (by omega) (by omega)]
        simp only [Option.bind_some]
        have := hp i c
        simp [doE, take_one (by omega : c < B.length)]
        omega
end

section
/-
  No heights are greater than any script costs. Plain mathematics; no program is spoken of.
-/
open Go.RowKit
set_option linter.unusedVariables false

/-- Heights. -/
structure HtB (A B : List Nat) (pi po ps : Nat) (h : Nat → Nat → Int) : Prop where
  zero : h 0 0 = 0
  out : ∀ i j, i < A.length → j ≤ B.length → h (i + 1) j ≤ h i j + (po : Int)
  inn : ∀ i j, i ≤ A.length → j < B.length → h i (j + 1) ≤ h i j + (pi : Int)
  both : ∀ i j, i < A.length → j < B.length → h (i + 1) (j + 1) ≤ h i j + (if atB A i = atB B j then 0 else (ps : Int))

theorem ht_le {A B : List Nat} {pi po ps : Nat} {h : Nat → Nat → Int} (hp : Pr pi po ps) (hh : HtB A B pi po ps h) : ∀ (n i j : Nat), i + j ≤ n → i ≤ A.length → j ≤ B.length → h i j ≤ (pl A B pi po ps i j).c := by
  intro n
  induction n with
  | zero =>
    intro i j hn _ _
    obtain rfl : i = 0 := by omega
    obtain rfl : j = 0 := by omega
    rw [pl_00, hh.zero]; exact Int.le_refl _
  | succ n ih =>
    intro i j hn hi hj
    rcases i with _ | i
    · rcases j with _ | j
      · rw [pl_00, hh.zero]; exact Int.le_refl _
      · have h1 := ih 0 j (by omega) (by omega) (by omega)
        have h2 := hh.inn 0 j (by omega) (by omega)
        have e : (pl A B pi po ps 0 (j + 1)).c = (pl A B pi po ps 0 j).c + (pi : Int) := by rw [pl_0s]; rfl
        omega
    · rcases j with _ | j
      · have h1 := ih i 0 (by omega) (by omega) (by omega)
        have h2 := hh.out i 0 (by omega) (by omega)
        have e : (pl A B pi po ps (i + 1) 0).c = (pl A B pi po ps i 0).c + (po : Int) := by rw [pl_s0]; rfl
        omega
      · have h1 := ih i j (by omega) (by omega) (by omega)
        have h2 := ih i (j + 1) (by omega) (by omega) (by omega)
        have h3 := ih (i + 1) j (by omega) (by omega) (by omega)
        have g1 := hh.both i j (by omega) (by omega)
        have g2 := hh.out i (j + 1) (by omega) (by omega)
        have g3 := hh.inn (i + 1) j (by omega) (by omega)
        rw [pl_cost _ _ _ _ _ hp.i hp.o hp.s]
        omega

/-- The costs from the beginning are heights. -/
theorem ht_pl (A B : List Nat) {pi po ps : Nat} (hp : Pr pi po ps) : HtB A B pi po ps (fun i j => (pl A B pi po ps i j).c) :=
  ⟨by rw [pl_00]; rfl, fun i j _ _ => (pl_le A B hp i j).1, fun i j _ _ => (pl_le A B hp i j).2.1, fun i j _ _ => (pl_le A B hp i j).2.2⟩

/-- What came stays in front. -/
theorem doE_prefix (pi po ps : Nat) : ∀ (s : List (Nat × Nat)) (left came : List Nat) (cost : Nat) (l' c' : List Nat) (k' : Nat), doE pi po ps s (left, came, cost) = some (l', c', k') → ∃ r, c' = came ++ r
  | [], left, came, cost, l', c', k', h => by simp [doE] at h; exact ⟨[], by simp [h.2.1]⟩
  | (k, b) :: s, left, came, cost, l', c', k', h => by
    simp only [doE] at h
    by_cases h3 : k = 3
    · rw [if_pos h3] at h
      obtain ⟨r, hr⟩ := doE_prefix pi po ps s _ _ _ _ _ _ h
      exact ⟨b :: r, by rw [hr, List.append_assoc]; rfl⟩
    · rw [if_neg h3] at h
      cases left with
      | nil => cases h
      | cons x left =>
        simp only at h
        by_cases h0 : k = 0
        · rw [if_pos h0] at h
          obtain ⟨r, hr⟩ := doE_prefix pi po ps s _ _ _ _ _ _ h
          exact ⟨x :: r, by rw [hr, List.append_assoc]; rfl⟩
        · rw [if_neg h0] at h
          by_cases h1 : k = 1
          · rw [if_pos h1] at h
            by_cases hx : x = b
            · rw [if_pos hx] at h; cases h
            · rw [if_neg hx] at h
              obtain ⟨r, hr⟩ := doE_prefix pi po ps s _ _ _ _ _ _ h
              exact ⟨b :: r, by rw [hr, List.append_assoc]; rfl⟩
          · rw [if_neg h1] at h
            exact doE_prefix pi po ps s _ _ _ _ _ _ h

theorem next_byte {B : List Nat} {j b : Nat} {r : List Nat} (hj : j ≤ B.length) (h : B = (B.take j ++ [b]) ++ r) : j < B.length ∧ b = atB B j ∧ B.take j ++ [b] = B.take (j + 1) := by
  have hl := congrArg List.length h
  simp only [List.length_append, List.length_take, List.length_cons, List.length_nil] at hl
  have hjl : j < B.length := by omega
  have hb : b = atB B j := by
    have h2 : B.getD j 0 = ((B.take j ++ [b]) ++ r).getD j 0 := congrArg (fun L => L.getD j 0) h
    unfold atB
    rw [h2, List.getD_eq_getElem?_getD, List.append_assoc, List.getElem?_append_right (by rw [List.length_take]; omega), List.length_take, Nat.min_eq_left (by omega), Nat.sub_self]
    rfl
  exact ⟨hjl, hb, by rw [take_one hjl, hb]⟩

/-- No script costs less. -/
theorem doE_ge (A B : List Nat) {pi po ps : Nat} (hp : Pr pi po ps) : ∀ (s : List (Nat × Nat)) (i j k k' : Nat), i ≤ A.length → j ≤ B.length → (pl A B pi po ps i j).c ≤ (k : Int) →
    doE pi po ps s (A.drop i, B.take j, k) = some ([], B, k') → (pl A B pi po ps A.length B.length).c ≤ (k' : Int)
  | [], i, j, k, k', hi, hj, hc, h => by
    simp only [doE, Option.some.injEq, Prod.mk.injEq] at h
    obtain ⟨h1, h2, rfl⟩ := h
    have e1 := congrArg List.length h1
    have e2 := congrArg List.length h2
    rw [List.length_drop] at e1
    rw [List.length_take] at e2
    simp only [List.length_nil] at e1
    obtain rfl : i = A.length := by omega
    obtain rfl : j = B.length := by omega
    exact hc
  | (q, b) :: s, i, j, k, k', hi, hj, hc, h => by
    simp only [doE] at h
    by_cases h3 : q = 3
    · rw [if_pos h3] at h
      obtain ⟨r, hr⟩ := doE_prefix pi po ps s _ _ _ _ _ _ h
      obtain ⟨g1, g2, g3⟩ := next_byte hj hr
      rw [g3] at h
      have l := (pl_le A B hp i j).2.1
      exact doE_ge A B hp s i (j + 1) (k + pi) k' hi (by omega) (by push_cast; omega) h
    · rw [if_neg h3] at h
      rcases Nat.lt_or_ge i A.length with hil | hil
      · rw [drop_at hil] at h
        simp only at h
        by_cases h0 : q = 0
        · rw [if_pos h0] at h
          obtain ⟨r, hr⟩ := doE_prefix pi po ps s _ _ _ _ _ _ h
          obtain ⟨g1, g2, g3⟩ := next_byte hj hr
          rw [g3] at h
          have l := (pl_le A B hp i j).2.2
          rw [if_pos g2] at l
          exact doE_ge A B hp s (i + 1) (j + 1) k k' (by omega) (by omega) (by omega) h
        · rw [if_neg h0] at h
          by_cases h1 : q = 1
          · rw [if_pos h1] at h
            by_cases hx : atB A i = b
            · rw [if_pos hx] at h; cases h
            · rw [if_neg hx] at h
              obtain ⟨r, hr⟩ := doE_prefix pi po ps s _ _ _ _ _ _ h
              obtain ⟨g1, g2, g3⟩ := next_byte hj hr
              rw [g3] at h
              have l := (pl_le A B hp i j).2.2
              rw [if_neg (by rw [← g2]; exact hx)] at l
              exact doE_ge A B hp s (i + 1) (j + 1) (k + ps) k' (by omega) (by omega) (by push_cast; omega) h
          · rw [if_neg h1] at h
            have l := (pl_le A B hp i j).1
            exact doE_ge A B hp s (i + 1) j (k + po) k' (by omega) hj (by push_cast; omega) h
      · rw [List.drop_of_length_le hil] at h
        cases h
end

end Go.Proofs.Ytkpmkeklopfhdaa
