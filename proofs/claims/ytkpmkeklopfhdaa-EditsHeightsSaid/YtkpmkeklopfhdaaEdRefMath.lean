/-
  The reference's costs: three last edits, one after the other. Plain mathematics; no program is spoken of.
-/
import Derived.Test.YtkpmkeklopfhdaaEdMath
namespace Go.Proofs.Ytkpmkeklopfhdaa
open Go.RowKit
set_option linter.unusedVariables false

/-- A last edit is held against what is best. -/
def stC (s : Int × Int) (c w : Int) : Int × Int :=
  if s.1 < 0 ∨ c < s.1 then (c, w) else if c = s.1 then (s.1, s.2 + w) else s

section
variable (A B : List Nat) (pi po ps : Nat)

/-- What is best after so many last edits: out, in, both. -/
def bst1 (i j : Nat) : Int × Int := if 0 < i then stC (-1, 0) ((pl A B pi po ps (i - 1) j).c + (po : Int)) (pl A B pi po ps (i - 1) j).w else (-1, 0)
def bst2 (i j : Nat) : Int × Int := if 0 < j then stC (bst1 A B pi po ps i j) ((pl A B pi po ps i (j - 1)).c + (pi : Int)) (pl A B pi po ps i (j - 1)).w else bst1 A B pi po ps i j
def bst3 (i j : Nat) : Int × Int := if 0 < i ∧ 0 < j then stC (bst2 A B pi po ps i j) ((pl A B pi po ps (i - 1) (j - 1)).c + (if atB A (i - 1) = atB B (j - 1) then 0 else (ps : Int))) (pl A B pi po ps (i - 1) (j - 1)).w else bst2 A B pi po ps i j
def bstC (i j : Nat) (k : Nat) : Int × Int := if k = 0 then (-1, 0) else if k = 1 then bst1 A B pi po ps i j else if k = 2 then bst2 A B pi po ps i j else bst3 A B pi po ps i j
theorem bstC_0 (i j : Nat) : bstC A B pi po ps i j 0 = (-1, 0) := rfl
theorem bstC_1 (i j : Nat) : bstC A B pi po ps i j 1 = bst1 A B pi po ps i j := rfl
theorem bstC_2 (i j : Nat) : bstC A B pi po ps i j 2 = bst2 A B pi po ps i j := rfl
theorem bstC_3 (i j : Nat) : bstC A B pi po ps i j 3 = bst3 A B pi po ps i j := rfl

theorem bstC_end (hi : pi ≤ 9) (ho : po ≤ 9) (hs : ps ≤ 9) (i j : Nat) (h0 : ¬ (i = 0 ∧ j = 0)) : bstC A B pi po ps i j 3 = ((pl A B pi po ps i j).c, (pl A B pi po ps i j).w) := by
  have hb := fun x y => pl_bounds A B pi po ps hi ho hs _ x y (Nat.le_refl _)
  rcases i with _ | i
  · rcases j with _ | j
    · exact absurd ⟨rfl, rfl⟩ h0
    · simp [bstC_3, bst3, bst2, bst1, stC, pl_0s, cIn]
  · rcases j with _ | j
    · simp [bstC_3, bst3, bst2, bst1, stC, pl_s0, cOut]
    · have hc := pl_cost A B pi po ps hi ho hs i j
      have hw := pl_ways A B pi po ps hi ho hs i j
      have b1 := (hb i (j + 1)).1
      have b2 := (hb (i + 1) j).1
      have b3 := (hb i j).1
      simp only [bstC_3, bst3, bst2, bst1, Nat.add_sub_cancel, Nat.zero_lt_succ, if_true, and_self]
      generalize (pl A B pi po ps (i + 1) (j + 1)).c = C at *
      generalize (pl A B pi po ps (i + 1) (j + 1)).w = V at *
      generalize (pl A B pi po ps i j) = P at *
      generalize (pl A B pi po ps i (j + 1)) = Q at *
      generalize (pl A B pi po ps (i + 1) j) = R at *
      have hz : (0 : Int) ≤ (if atB A i = atB B j then (0 : Int) else (ps : Int)) := by split <;> omega
      generalize (if atB A i = atB B j then (0 : Int) else (ps : Int)) = z at *
      clear hb h0
      have e1 : stC (-1, 0) (Q.c + (po : Int)) Q.w = (Q.c + (po : Int), Q.w) := by unfold stC; rw [if_pos (Or.inl (show (-1 : Int) < 0 by decide))]
      rw [e1]
      have hq : 0 ≤ Q.c + (po : Int) := by omega
      have hr : 0 ≤ R.c + (pi : Int) := by omega
      have hp : 0 ≤ P.c + z := by omega
      generalize Q.c + (po : Int) = q at *
      generalize R.c + (pi : Int) = r at *
      generalize P.c + z = p at *
      have e2 : stC (q, Q.w) r R.w = (min q r, (if q ≤ r then Q.w else 0) + (if r ≤ q then R.w else 0)) := by
        unfold stC
        rcases Int.lt_trichotomy r q with h | h | h
        · rw [if_pos (Or.inr h), if_neg (by omega), if_pos (by omega)]; simp; omega
        · rw [if_neg (by rintro (h1 | h1) <;> simp only [] at h1 <;> omega), if_pos h, if_pos (by omega), if_pos (by omega)]; simp; omega
        · rw [if_neg (by rintro (h1 | h1) <;> simp only [] at h1 <;> omega), if_neg (by simp only []; omega), if_pos (by omega), if_neg (by omega)]; simp; omega
      rw [e2]
      obtain ⟨M, hM⟩ : ∃ M, min q r = M := ⟨_, rfl⟩
      have m1 : M ≤ q ∧ M ≤ r ∧ (M = q ∨ M = r) := by omega
      rw [hM]
      generalize hN : ((if q ≤ r then Q.w else 0) + (if r ≤ q then R.w else 0)) = N
      have hN2 : N = (if q = M then Q.w else 0) + (if r = M then R.w else 0) := by
        rw [← hN]
        have h1 : (q ≤ r) ↔ q = M := by omega
        have h2 : (r ≤ q) ↔ r = M := by omega
        simp only [h1, h2]
      have hc2 : C = min M p := by omega
      clear hM hN e1 e2 hc
      rw [hw, hN2]
      unfold stC
      rcases Int.lt_trichotomy p M with h | h | h
      · rw [if_pos (Or.inr h)]
        have : C = p := by omega
        subst this
        rw [if_pos rfl, if_neg (by omega), if_neg (by omega)]; simp
      · rw [if_neg (by rintro (h1 | h1) <;> simp only [] at h1 <;> omega), if_pos h]
        have : C = M := by omega
        subst this
        rw [if_pos h]
        apply Prod.ext
        · rfl
        · simp only []; omega
      · rw [if_neg (by rintro (h1 | h1) <;> simp only [] at h1 <;> omega), if_neg (by simp only []; omega)]
        have : C = M := by omega
        subst this
        rw [if_neg (by omega : ¬ p = C)]; simp
theorem bstC_bd (hi : pi ≤ 9) (ho : po ≤ 9) (hs : ps ≤ 9) (i j : Nat) (hij : i + j ≤ 24) (k : Nat) : -1 ≤ (bstC A B pi po ps i j k).1 ∧ (bstC A B pi po ps i j k).1 ≤ 300 ∧ 0 ≤ (bstC A B pi po ps i j k).2 ∧ (bstC A B pi po ps i j k).2 ≤ 3000000000000 := by
  have hb := fun x y => pl_bounds A B pi po ps hi ho hs _ x y (Nat.le_refl _)
  have hp : ∀ x y, x + y ≤ 24 → (pl A B pi po ps x y).w ≤ 3 ^ 24 := fun x y h => Int.le_trans (hb x y).2.2.2 (by
    have : (3 : Nat) ^ (x + y) ≤ 3 ^ 24 := Nat.pow_le_pow_right (by decide) h
    exact_mod_cast this)
  have e24 : (3 : Int) ^ 24 = 282429536481 := by decide
  rw [e24] at hp
  have s1 : ∀ (s : Int × Int) (c w m : Int), -1 ≤ s.1 → s.1 ≤ 300 → 0 ≤ s.2 → s.2 ≤ m → 0 ≤ c → c ≤ 300 → 0 ≤ w → w ≤ 282429536481 → -1 ≤ (stC s c w).1 ∧ (stC s c w).1 ≤ 300 ∧ 0 ≤ (stC s c w).2 ∧ (stC s c w).2 ≤ m + 282429536481 := by
    intro s c w m h1 h2 h3 h4 h5 h6 h7 h8
    unfold stC
    (repeat' split) <;> (try simp only []) <;> omega
  have k1 : -1 ≤ (bst1 A B pi po ps i j).1 ∧ (bst1 A B pi po ps i j).1 ≤ 300 ∧ 0 ≤ (bst1 A B pi po ps i j).2 ∧ (bst1 A B pi po ps i j).2 ≤ 282429536481 := by
    unfold bst1
    split
    · have h := hb (i - 1) j
      have h2 := hp (i - 1) j (by omega)
      have := s1 (-1, 0) ((pl A B pi po ps (i - 1) j).c + (po : Int)) (pl A B pi po ps (i - 1) j).w 0 (by decide) (by decide) (by decide) (by decide) (by omega) (by omega) (by omega) h2
      omega
    · simp
  have k2 : -1 ≤ (bst2 A B pi po ps i j).1 ∧ (bst2 A B pi po ps i j).1 ≤ 300 ∧ 0 ≤ (bst2 A B pi po ps i j).2 ∧ (bst2 A B pi po ps i j).2 ≤ 2 * 282429536481 := by
    unfold bst2
    split
    · have h := hb i (j - 1)
      have h2 := hp i (j - 1) (by omega)
      have := s1 (bst1 A B pi po ps i j) ((pl A B pi po ps i (j - 1)).c + (pi : Int)) (pl A B pi po ps i (j - 1)).w 282429536481 k1.1 k1.2.1 k1.2.2.1 k1.2.2.2 (by omega) (by omega) (by omega) h2
      omega
    · omega
  have k3 : -1 ≤ (bst3 A B pi po ps i j).1 ∧ (bst3 A B pi po ps i j).1 ≤ 300 ∧ 0 ≤ (bst3 A B pi po ps i j).2 ∧ (bst3 A B pi po ps i j).2 ≤ 3 * 282429536481 := by
    unfold bst3
    split
    · have h := hb (i - 1) (j - 1)
      have h2 := hp (i - 1) (j - 1) (by omega)
      have h3 : (0 : Int) ≤ (if atB A (i - 1) = atB B (j - 1) then (0 : Int) else (ps : Int)) ∧ (if atB A (i - 1) = atB B (j - 1) then (0 : Int) else (ps : Int)) ≤ 9 := by split <;> omega
      have := s1 (bst2 A B pi po ps i j) ((pl A B pi po ps (i - 1) (j - 1)).c + (if atB A (i - 1) = atB B (j - 1) then (0 : Int) else (ps : Int))) (pl A B pi po ps (i - 1) (j - 1)).w (2 * 282429536481) k2.1 k2.2.1 k2.2.2.1 k2.2.2.2 (by omega) (by omega) (by omega) h2
      omega
    · omega
  unfold bstC
  (repeat' split) <;> first | (simp; done) | omega
end
end Go.Proofs.Ytkpmkeklopfhdaa
