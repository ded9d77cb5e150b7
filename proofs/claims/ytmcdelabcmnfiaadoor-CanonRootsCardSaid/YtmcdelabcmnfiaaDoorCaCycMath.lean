/-
  The cyclotomic polynomials up to 24, and exact division. Plain mathematics; the tables are checked by the kernel.
-/
import Derived.Test.YtmcdelabcmnfiaaDoorCaDivide
import Derived.Test.YtmcdelabcmnfiaaDoorDomain
namespace Go.Proofs.YtmcdelabcmnfiaaDoor

/-- The polynomial whose zeros are the primitive s-th roots of 1. -/
def cycT : Nat → List Int
  | 1 => [-1, 1]
  | 2 => [1, 1]
  | 3 => [1, 1, 1]
  | 4 => [1, 0, 1]
  | 5 => [1, 1, 1, 1, 1]
  | 6 => [1, -1, 1]
  | 7 => [1, 1, 1, 1, 1, 1, 1]
  | 8 => [1, 0, 0, 0, 1]
  | 9 => [1, 0, 0, 1, 0, 0, 1]
  | 10 => [1, -1, 1, -1, 1]
  | 11 => [1, 1, 1, 1, 1, 1, 1, 1, 1, 1, 1]
  | 12 => [1, 0, -1, 0, 1]
  | 13 => [1, 1, 1, 1, 1, 1, 1, 1, 1, 1, 1, 1, 1]
  | 14 => [1, -1, 1, -1, 1, -1, 1]
  | 15 => [1, -1, 0, 1, -1, 1, 0, -1, 1]
  | 16 => [1, 0, 0, 0, 0, 0, 0, 0, 1]
  | 17 => [1, 1, 1, 1, 1, 1, 1, 1, 1, 1, 1, 1, 1, 1, 1, 1, 1]
  | 18 => [1, 0, 0, -1, 0, 0, 1]
  | 19 => [1, 1, 1, 1, 1, 1, 1, 1, 1, 1, 1, 1, 1, 1, 1, 1, 1, 1, 1]
  | 20 => [1, 0, -1, 0, 1, 0, -1, 0, 1]
  | 21 => [1, -1, 0, 1, -1, 0, 1, 0, -1, 1, 0, -1, 1]
  | 22 => [1, -1, 1, -1, 1, -1, 1, -1, 1, -1, 1]
  | 23 => [1, 1, 1, 1, 1, 1, 1, 1, 1, 1, 1, 1, 1, 1, 1, 1, 1, 1, 1, 1, 1, 1, 1]
  | 24 => [1, 0, 0, 0, -1, 0, 0, 0, 1]
  | _ => [1]
def cycF (s : Nat) : Nat → Int := fun j => (cycT s).getD j 0
def addL : List Int → List Int → List Int
  | [], q => q
  | p, [] => p
  | a :: p, b :: q => (a + b) :: addL p q
def mulL : List Int → List Int → List Int
  | [], _ => []
  | a :: p, q => addL (q.map (a * ·)) (0 :: mulL p q)
/-- What is left of x^s - 1 when the lesser divisors than d have been divided out. -/
def intL (s d : Nat) : List Int := ((List.range' d (s + 1 - d)).filter fun e => s % e == 0).foldl (fun acc e => mulL acc (cycT e)) [1]
def intF (s d : Nat) : Nat → Int := fun j => (intL s d).getD j 0
/-- A product of polynomials. -/
def prodN (q G : Nat → Int) (M j : Nat) : Int := sumZ M fun i => if i ≤ j then q i * G (j - i) else 0

theorem int_chk : ((List.range 25).all fun s => (List.range 25).all fun d => decide (1 ≤ d → d ≤ s →
    2 ≤ (intL s d).length ∧ (intL s d).length ≤ 25 ∧ ((intL s d).all fun x => decide (-64 ≤ x ∧ x ≤ 64)) = true ∧
    (d < s → s % d = 0 → (intL s d).length - ((cycT d).length - 1) = (intL s (d + 1)).length ∧ (cycT d).length - 1 < (intL s d).length ∧ ((List.range (intL s d).length).all fun j => intF s d j == prodN (intF s (d + 1)) (cycF d) (intL s (d + 1)).length j) = true) ∧
    (d < s → s % d ≠ 0 → intL s (d + 1) = intL s d))) = true := by decide +kernel
theorem int_ends : ((List.range 25).all fun s => decide (1 ≤ s → intL s s = cycT s ∧ (intL s 1).length = s + 1 ∧ ((List.range (s + 1)).all fun j => intF s 1 j == (if j = 0 then -1 else if j = s then 1 else 0)) = true)) = true := by decide +kernel
theorem cyc_chk : ((List.range 25).all fun s => decide (1 ≤ s → 2 ≤ (cycT s).length ∧ (cycT s).length ≤ 25 ∧ cycF s ((cycT s).length - 1) = 1 ∧ ((cycT s).all fun x => decide (-1 ≤ x ∧ x ≤ 1)) = true)) = true := by decide +kernel

theorem getD_bd {l : List Int} {B : Int} (hB : 0 ≤ B) (h : (l.all fun x => decide (-B ≤ x ∧ x ≤ B)) = true) (j : Nat) : -B ≤ l.getD j 0 ∧ l.getD j 0 ≤ B := by
  rw [List.getD_eq_getElem?_getD]
  by_cases hj : j < l.length
  · rw [List.getElem?_eq_getElem hj]
    exact of_decide_eq_true (List.all_eq_true.1 h _ (List.getElem_mem hj))
  · rw [List.getElem?_eq_none (by omega)]
    simp; omega
theorem getD_beyond {l : List Int} {j : Nat} (h : l.length ≤ j) : l.getD j 0 = 0 := by
  rw [List.getD_eq_getElem?_getD, List.getElem?_eq_none h]; rfl

theorem prodN_succ (q G : Nat → Int) (M j : Nat) : prodN q G (M + 1) j = prodN q G M j + if M ≤ j then q M * G (j - M) else 0 := rfl
/-- Exact division. -/
theorem div_exact {F G q : Nat → Int} {m top : Nat} (htm : top < m) (hG1 : G top = 1) (hG0 : ∀ j, top < j → G j = 0) (h : ∀ j, j < m → F j = prodN q G (m - top) j) :
    ∀ t, t ≤ m - top → ∀ j, j < m → rsN F G m top t j = prodN q G (m - top - t) j
  | 0, _, j, hj => h j hj
  | t + 1, ht, j, hj => by
    have ih := fun j hj => div_exact htm hG1 hG0 h t (by omega) j hj
    obtain ⟨b, hb⟩ : ∃ b, m - top - (t + 1) = b := ⟨_, rfl⟩
    have e1 : m - top - t = b + 1 := by omega
    have e2 : m - 1 - t = b + top := by omega
    have hk : rsN F G m top t (b + top) = q b := by
      rw [ih _ (by omega), e1, prodN_succ, if_pos (by omega), Nat.add_sub_cancel_left, hG1, Int.mul_one]
      have : prodN q G b (b + top) = 0 := by
        unfold prodN
        rw [sumZ_congr (g := fun _ => 0) (fun i hi => by rw [if_pos (by omega), hG0 _ (by omega), Int.mul_zero]), sumZ_zero]
      rw [this, Int.zero_add]
    rw [rsN_succ, e2, hb, hk, ih j hj, e1, prodN_succ, Nat.add_sub_cancel]
    by_cases h1 : b ≤ j ∧ j ≤ b + top
    · rw [if_pos h1, if_pos h1.1]; omega
    · rw [if_neg h1]
      by_cases h2 : b ≤ j
      · rw [if_pos h2, hG0 _ (by omega), Int.mul_zero, Int.add_zero]
      · rw [if_neg h2, Int.add_zero]
theorem div_zero {F G q : Nat → Int} {m top : Nat} (htm : top < m) (hG1 : G top = 1) (hG0 : ∀ j, top < j → G j = 0) (h : ∀ j, j < m → F j = prodN q G (m - top) j) :
    (∀ j, j < m → rsN F G m top (m - top) j = 0) ∧ ∀ i, i < m - top → quN F G m top i = q i := by
  have hE := div_exact htm hG1 hG0 h
  refine ⟨fun j hj => ?_, fun i hi => ?_⟩
  · rw [hE (m - top) (Nat.le_refl _) j hj, Nat.sub_self]; rfl
  · unfold quN
    rw [hE _ (by omega) _ (by omega)]
    obtain ⟨b, hb⟩ : ∃ b, m - top - (m - 1 - (i + top)) = b + 1 := ⟨i, by omega⟩
    have hbi : b = i := by omega
    subst hbi
    rw [hb, prodN_succ, if_pos (by omega), Nat.add_sub_cancel_left, hG1, Int.mul_one]
    have : prodN q G b (b + top) = 0 := by
      unfold prodN
      rw [sumZ_congr (g := fun _ => 0) (fun i hi => by rw [if_pos (by omega), hG0 _ (by omega), Int.mul_zero]), sumZ_zero]
    rw [this, Int.zero_add]
end Go.Proofs.YtmcdelabcmnfiaaDoor
