/-
  The script that is told: from the last pair back. Plain mathematics; no program is spoken of.
-/
import Derived.Test.YtkpmkeklopfhdaaEdTri
namespace Go.Proofs.Ytkpmkeklopfhdaa
open Go.RowKit
set_option linter.unusedVariables false

/-- What an or tells: of one of both. -/
theorem orP_pick (x y : Pl) : ((orP x y).c = x.c ∧ (orP x y).k = x.k ∧ (orP x y).b = x.b ∧ (orP x y).i = x.i ∧ (orP x y).j = x.j) ∨ orP x y = y := by
  unfold orP; split
  · exact Or.inr rfl
  · split
    · exact Or.inl ⟨rfl, rfl, rfl, rfl, rfl⟩
    · exact Or.inl ⟨rfl, rfl, rfl, rfl, rfl⟩

/-- The last edit of a script to a pair, where it is done, and what it costs. -/
inductive Last (A B : List Nat) (pi po ps : Nat) (i j : Nat) (p : Pl) : Prop
  | keep (r c : Nat) (hi : i = r + 1) (hj : j = c + 1) (e : atB A r = atB B c) (hk : p.k = 0) (hb : p.b = 0) (h1 : p.i = r) (h2 : p.j = c) (hc : p.c = (pl A B pi po ps r c).c)
  | swap (r c : Nat) (hi : i = r + 1) (hj : j = c + 1) (e : atB A r ≠ atB B c) (hk : p.k = 1) (hb : p.b = (atB B c : Nat)) (h1 : p.i = r) (h2 : p.j = c) (hc : p.c = (pl A B pi po ps r c).c + (ps : Nat))
  | out (r : Nat) (hi : i = r + 1) (hk : p.k = 2) (hb : p.b = 0) (h1 : p.i = r) (h2 : p.j = j) (hc : p.c = (pl A B pi po ps r j).c + (po : Nat))
  | inn (c : Nat) (hj : j = c + 1) (hk : p.k = 3) (hb : p.b = (atB B c : Nat)) (h1 : p.i = i) (h2 : p.j = c) (hc : p.c = (pl A B pi po ps i c).c + (pi : Nat))

theorem Last.of {A B : List Nat} {pi po ps i j : Nat} {p q : Pl} (h : Last A B pi po ps i j q) (e : p.c = q.c ∧ p.k = q.k ∧ p.b = q.b ∧ p.i = q.i ∧ p.j = q.j) : Last A B pi po ps i j p := by
  obtain ⟨e1, e2, e3, e4, e5⟩ := e
  cases h with
  | keep r c hi hj e hk hb h1 h2 hc => exact .keep r c hi hj e (by rw [e2, hk]) (by rw [e3, hb]) (by rw [e4, h1]) (by rw [e5, h2]) (by rw [e1, hc])
  | swap r c hi hj e hk hb h1 h2 hc => exact .swap r c hi hj e (by rw [e2, hk]) (by rw [e3, hb]) (by rw [e4, h1]) (by rw [e5, h2]) (by rw [e1, hc])
  | out r hi hk hb h1 h2 hc => exact .out r hi (by rw [e2, hk]) (by rw [e3, hb]) (by rw [e4, h1]) (by rw [e5, h2]) (by rw [e1, hc])
  | inn c hj hk hb h1 h2 hc => exact .inn c hj (by rw [e2, hk]) (by rw [e3, hb]) (by rw [e4, h1]) (by rw [e5, h2]) (by rw [e1, hc])

theorem last_both (A B : List Nat) (pi po ps r c : Nat) : Last A B pi po ps (r + 1) (c + 1) (cBoth A B ps (pl A B pi po ps r c) r c) := by
  unfold cBoth
  by_cases e : atB A r = atB B c
  · rw [if_pos e]; exact .keep r c rfl rfl e rfl rfl rfl rfl rfl
  · rw [if_neg e]; exact .swap r c rfl rfl e rfl rfl rfl rfl rfl

theorem pl_last (A B : List Nat) (pi po ps : Nat) : ∀ i j : Nat, ¬ (i = 0 ∧ j = 0) → Last A B pi po ps i j (pl A B pi po ps i j)
  | 0, 0, h => absurd ⟨rfl, rfl⟩ h
  | 0, j + 1, _ => by rw [pl_0s]; exact .inn j rfl rfl rfl rfl rfl rfl
  | i + 1, 0, _ => by rw [pl_s0]; exact .out i rfl rfl rfl rfl rfl rfl
  | i + 1, j + 1, _ => by
    rw [pl_ss]
    rcases orP_pick (orP (cBoth A B ps (pl A B pi po ps i j) i j) (cOut po (pl A B pi po ps i (j + 1)) i (j + 1))) (cIn B pi (pl A B pi po ps (i + 1) j) (i + 1) j) with h | h
    · refine Last.of ?_ h
      rcases orP_pick (cBoth A B ps (pl A B pi po ps i j) i j) (cOut po (pl A B pi po ps i (j + 1)) i (j + 1)) with h2 | h2
      · exact Last.of (last_both A B pi po ps i j) h2
      · rw [h2]; exact .out i rfl rfl rfl rfl rfl rfl
    · rw [h]; exact .inn j rfl rfl rfl rfl rfl rfl

/-- The script from the front to a pair: kinds and bytes. -/
def scrF (A B : List Nat) (pi po ps : Nat) : Nat → Nat → Nat → List (Nat × Nat)
  | 0, _, _ => []
  | n + 1, i, j => if i = 0 ∧ j = 0 then [] else
      scrF A B pi po ps n (pl A B pi po ps i j).i.toNat (pl A B pi po ps i j).j.toNat ++ [((pl A B pi po ps i j).k.toNat, (pl A B pi po ps i j).b.toNat)]
def scr (A B : List Nat) (pi po ps i j : Nat) : List (Nat × Nat) := scrF A B pi po ps (i + j) i j

/-- Doing edits: what is left of a line, what came, what it cost. -/
def doE (pi po ps : Nat) : List (Nat × Nat) → List Nat × List Nat × Nat → Option (List Nat × List Nat × Nat)
  | [], s => some s
  | (k, b) :: t, (left, came, cost) =>
    if k = 3 then doE pi po ps t (left, came ++ [b], cost + pi)
    else match left with
      | [] => none
      | x :: left => if k = 0 then doE pi po ps t (left, came ++ [x], cost) else if k = 1 then (if x = b then none else doE pi po ps t (left, came ++ [b], cost + ps)) else doE pi po ps t (left, came, cost + po)
theorem doE_append (pi po ps : Nat) : ∀ (s t : List (Nat × Nat)) (x : List Nat × List Nat × Nat), doE pi po ps (s ++ t) x = (doE pi po ps s x).bind (doE pi po ps t)
  | [], t, x => by simp [doE]
  | (k, b) :: s, t, (left, came, cost) => by
    simp only [List.cons_append, doE]
    by_cases h3 : k = 3
    · rw [if_pos h3, if_pos h3, doE_append]
    · rw [if_neg h3, if_neg h3]
      cases left with
      | nil => rfl
      | cons y left =>
        by_cases h0 : k = 0
        · simp only [if_pos h0, doE_append]
        · by_cases h1 : k = 1
          · simp only [if_neg h0, if_pos h1]
            by_cases hy : y = b
            · simp [hy]
            · simp only [if_neg hy, doE_append]
          · simp only [if_neg h0, if_neg h1, doE_append]

theorem drop_at {L : List Nat} {i : Nat} (h : i < L.length) : L.drop i = atB L i :: L.drop (i + 1) := by
  rw [List.drop_eq_getElem_cons h]
  unfold atB
  rw [List.getD_eq_getElem?_getD, List.getElem?_eq_getElem h]; rfl

/-- The script does what it has to, at the least cost. -/
theorem scr_done (A B : List Nat) {pi po ps : Nat} (h : Pr pi po ps) : ∀ (n i j : Nat), i + j ≤ n → i ≤ A.length → j ≤ B.length → doE pi po ps (scrF A B pi po ps n i j) (A, [], 0) = some (A.drop i, B.take j, (pl A B pi po ps i j).c.toNat) := by
  intro n
  induction n with
  | zero =>
    intro i j hn hi hj
    obtain rfl : i = 0 := by omega
    obtain rfl : j = 0 := by omega
    rw [pl_00]; simp [scrF, doE, oneP]
  | succ n ih =>
    intro i j hn hi hj
    unfold scrF
    by_cases h0 : i = 0 ∧ j = 0
    · obtain ⟨rfl, rfl⟩ := h0
      rw [pl_00]; simp [doE, oneP]
    · rw [if_neg h0, doE_append]
      have hp := fun r c => (pl_pos A B h r c).1
      cases pl_last A B pi po ps i j h0 with
      | keep r c e1 e2 e hk hb h1 h2 hc =>
        subst e1 e2
        rw [h1, h2, hk, hb, hc, Int.toNat_natCast, Int.toNat_natCast, ih r c (by omega) (by omega) (by omega)]
        simp only [Option.bind_some]
        rw [drop_at (by omega : r < A.length)]
        simp [doE, take_one (by omega : c < B.length), e]
      | swap r c e1 e2 e hk hb h1 h2 hc =>
        subst e1 e2
        rw [h1, h2, hk, hb, hc, Int.toNat_natCast, Int.toNat_natCast, Int.toNat_natCast, ih r c (by omega) (by omega) (by omega)]
        simp only [Option.bind_some]
        rw [drop_at (by omega : r < A.length)]
        have := hp r c
        simp [doE, take_one (by omega : c < B.length), e]
        omega
      | out r e1 hk hb h1 h2 hc =>
        subst e1
        rw [h1, h2, hk, hb, hc, Int.toNat_natCast, Int.toNat_natCast, ih r j (by omega) (by omega) (by omega)]
        simp only [Option.bind_some]
        rw [drop_at (by omega : r < A.length)]
        have := hp r j
        simp [doE]
        omega
      | inn c e2 hk hb h1 h2 hc =>
        subst e2
        rw [h1, h2, hk, hb, hc, Int.toNat_natCast, Int.toNat_natCast, Int.toNat_natCast, ih i c (by omega) (by omega) (by omega)]
        simp only [Option.bind_some]
        have := hp i c
        simp [doE, take_one (by omega : c < B.length)]
        omega
end Go.Proofs.Ytkpmkeklopfhdaa
