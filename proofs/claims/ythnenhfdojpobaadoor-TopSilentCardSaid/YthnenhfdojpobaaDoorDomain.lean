/-
  Functions around a circle of a power of a prime: where the sum of the turns of one by another repeats after a p-th part of the circle, one of the two does. Plain mathematics: what a prime root of 1 divides.
-/
import Derived.Test.YthnenhfdojpobaaDoorTijdeman
namespace Go.Proofs.YthnenhfdojpobaaDoor

def sumZ : Nat → (Nat → Int) → Int
  | 0, _ => 0
  | n + 1, f => sumZ n f + f n
theorem sumZ_congr {n : Nat} {f g : Nat → Int} (h : ∀ i, i < n → f i = g i) : sumZ n f = sumZ n g := by
  induction n with
  | zero => rfl
  | succ n ih => simp only [sumZ]; rw [ih (fun i hi => h i (by omega)), h n (by omega)]
theorem sumZ_add (n : Nat) (f g : Nat → Int) : sumZ n (fun i => f i + g i) = sumZ n f + sumZ n g := by
  induction n with
  | zero => rfl
  | succ n ih => simp only [sumZ]; rw [ih]; omega
theorem sumZ_sub (n : Nat) (f g : Nat → Int) : sumZ n (fun i => f i - g i) = sumZ n f - sumZ n g := by
  induction n with
  | zero => rfl
  | succ n ih => simp only [sumZ]; rw [ih]; omega
theorem sumZ_mul (n : Nat) (c : Int) (f : Nat → Int) : sumZ n (fun i => c * f i) = c * sumZ n f := by
  induction n with
  | zero => simp [sumZ]
  | succ n ih => simp only [sumZ]; rw [ih, Int.mul_add]
theorem sumZ_mulr (n : Nat) (c : Int) (f : Nat → Int) : sumZ n (fun i => f i * c) = sumZ n f * c := by
  induction n with
  | zero => simp [sumZ]
  | succ n ih => simp only [sumZ]; rw [ih, Int.add_mul]
theorem sumZ_zero (n : Nat) : sumZ n (fun _ => 0) = 0 := by
  induction n with
  | zero => rfl
  | succ n ih => simp only [sumZ]; rw [ih]; rfl
theorem sumZ_const (n : Nat) (c : Int) : sumZ n (fun _ => c) = n * c := by
  induction n with
  | zero => simp [sumZ]
  | succ n ih => simp only [sumZ]; rw [ih, Int.natCast_succ, Int.add_mul, Int.one_mul]
theorem sumZ_swap (n m : Nat) (f : Nat → Nat → Int) : sumZ n (fun i => sumZ m (fun j => f i j)) = sumZ m (fun j => sumZ n (fun i => f i j)) := by
  induction n with
  | zero => simp only [sumZ]; rw [sumZ_zero]
  | succ n ih => simp only [sumZ]; rw [ih, ← sumZ_add]
theorem sumZ_split (a b : Nat) (f : Nat → Int) : sumZ (a + b) f = sumZ a f + sumZ b (fun i => f (a + i)) := by
  induction b with
  | zero => simp [sumZ]
  | succ b ih => rw [← Nat.add_assoc]; simp only [sumZ]; rw [ih]; omega

def PeriZ (n : Nat) (f : Nat → Int) : Prop := ∀ i, f (i + n) = f i
theorem PeriZ.mul {n : Nat} {f : Nat → Int} (h : PeriZ n f) (q : Nat) : PeriZ (q * n) f := fun i => by
  induction q with
  | zero => simp
  | succ q ih => rw [Nat.succ_mul, ← Nat.add_assoc, h, ih]
theorem PeriZ.mod {n : Nat} {f : Nat → Int} (h : PeriZ n f) (i : Nat) : f (i % n) = f i := by
  have := h.mul (i / n) (i % n)
  rw [Nat.mul_comm, Nat.mod_add_div] at this
  exact this.symm
theorem sumZ_shift {n : Nat} {f : Nat → Int} (h : PeriZ n f) (c : Nat) : sumZ n (fun j => f (j + c)) = sumZ n f := by
  induction c with
  | zero => rfl
  | succ c ih =>
    rw [← ih]
    have e1 := sumZ_split 1 n (fun j => f (j + c))
    have e2 : sumZ (1 + n) (fun j => f (j + c)) = sumZ n (fun j => f (j + c)) + f (n + c) := by rw [Nat.add_comm 1 n]; rfl
    have e3 : sumZ n (fun i => f (1 + i + c)) = sumZ n (fun j => f (j + (c + 1))) := sumZ_congr (fun i _ => by rw [show 1 + i + c = i + (c + 1) from by omega])
    have e4 : f (n + c) = f c := by rw [Nat.add_comm]; exact h c
    have e5 : sumZ 1 (fun j => f (j + c)) = f c := by simp [sumZ]
    rw [e3, e5] at e1
    omega
theorem sumZ_blocks {d : Nat} {f : Nat → Int} (h : PeriZ d f) (m : Nat) : sumZ (m * d) f = m * sumZ d f := by
  induction m with
  | zero => simp [sumZ]
  | succ m ih =>
    rw [Nat.succ_mul, sumZ_split, ih, sumZ_congr (f := fun i => f (m * d + i)) (g := f) (fun i _ => by rw [Nat.add_comm]; exact h.mul m i), Int.natCast_succ, Int.add_mul, Int.one_mul]

/-! ### differences -/

/-- The difference to the turn by d, several times. -/
def difN (d : Nat) : Nat → (Nat → Int) → Nat → Int
  | 0, f => f
  | m + 1, f => fun i => difN d m f i - difN d m f (i + d)

theorem dif_lin (d m : Nat) (f g : Nat → Int) (i : Nat) : difN d m (fun j => f j + g j) i = difN d m f i + difN d m g i := by
  induction m generalizing i with
  | zero => rfl
  | succ m ih => simp only [difN]; rw [ih, ih]; omega
theorem dif_mul (d m : Nat) (c : Int) (f : Nat → Int) (i : Nat) : difN d m (fun j => c * f j) i = c * difN d m f i := by
  induction m generalizing i with
  | zero => rfl
  | succ m ih => simp only [difN]; rw [ih, ih, Int.mul_sub]
theorem dif_shift (d m c : Nat) (f : Nat → Int) (i : Nat) : difN d m (fun j => f (j + c)) i = difN d m f (i + c) := by
  induction m generalizing i with
  | zero => rfl
  | succ m ih => simp only [difN]; rw [ih, ih, Nat.add_right_comm]
theorem dif_peri {n d : Nat} {f : Nat → Int} (h : PeriZ n f) (m : Nat) : PeriZ n (difN d m f) := fun i => by
  induction m generalizing i with
  | zero => exact h i
  | succ m ih => simp only [difN]; rw [ih, Nat.add_right_comm, ih]
theorem dif_add (d k m : Nat) (f : Nat → Int) (i : Nat) : difN d (k + m) f i = difN d k (difN d m f) i := by
  induction k generalizing i with
  | zero => rw [Nat.zero_add]; rfl
  | succ k ih => rw [Nat.succ_add]; simp only [difN]; rw [ih, ih]

/-- Signs. -/
def sgn : Nat → Int
  | 0 => 1
  | k + 1 => - sgn k

theorem sumZ_head (k : Nat) (f : Nat → Int) : sumZ (k + 1) f = f 0 + sumZ k (fun i => f (i + 1)) := by
  rw [Nat.add_comm, sumZ_split]
  congr 1
  · simp [sumZ]
  · exact sumZ_congr (fun i _ => by rw [Nat.add_comm])

theorem dif_binom (d : Nat) (f : Nat → Int) (m : Nat) : ∀ i, difN d m f i = sumZ (m + 1) (fun k => sgn k * (cho m k : Int) * f (i + k * d)) := by
  induction m with
  | zero => intro i; simp [difN, sumZ, sgn, cho]
  | succ m ih =>
    intro i
    simp only [difN]
    rw [ih, ih, sumZ_head (m + 1)]
    have e0 : sumZ (m + 1) (fun k => sgn k * (cho m k : Int) * f (i + k * d)) = sumZ (m + 2) (fun k => sgn k * (cho m k : Int) * f (i + k * d)) := by
      show _ = sumZ (m + 1) _ + sgn (m + 1) * (cho m (m + 1) : Int) * f (i + (m + 1) * d)
      rw [cho_more m (m + 1) (by omega)]; simp
    rw [e0, sumZ_head (m + 1)]
    have e1 : sumZ (m + 1) (fun k => sgn (k + 1) * (cho (m + 1) (k + 1) : Int) * f (i + (k + 1) * d)) =
        sumZ (m + 1) (fun k => sgn (k + 1) * (cho m (k + 1) : Int) * f (i + (k + 1) * d)) - sumZ (m + 1) (fun k => sgn k * (cho m k : Int) * f (i + d + k * d)) := by
      rw [← sumZ_sub]
      refine sumZ_congr (fun k _ => ?_)
      rw [cho_succ, show i + d + k * d = i + (k + 1) * d from by rw [Nat.succ_mul]; omega, show sgn (k + 1) = - sgn k from rfl]
      simp only [Int.natCast_add, Int.mul_add, Int.add_mul, Int.neg_mul]
      omega
    rw [e1, cho_zero, cho_zero]
    omega

theorem sumZ_dvd {p k : Nat} {f : Nat → Int} (h : ∀ i, i < k → (p : Int) ∣ f i) : (p : Int) ∣ sumZ k f := by
  induction k with
  | zero => exact Int.dvd_zero _
  | succ k ih => exact Int.dvd_add (ih (fun i hi => h i (by omega))) (h k (by omega))

theorem sgn_prm {p : Nat} (hp : Prm p) : (p : Int) ∣ sgn p + 1 := by
  have h2 : ∀ k, sgn (2 * k) = 1 := fun k => by
    induction k with
    | zero => rfl
    | succ k ih => rw [Nat.mul_succ]; show - - sgn (2 * k) = 1; rw [ih]; rfl
  rcases Nat.mod_two_eq_zero_or_one p with h | h
  · rcases hp.2 2 (Nat.dvd_of_mod_eq_zero h) with e | e
    · omega
    · subst e; exact ⟨1, rfl⟩
  · have e : sgn p = -1 := by
      rw [show p = 2 * (p / 2) + 1 from by omega]
      show - sgn (2 * (p / 2)) = -1
      rw [h2]
    rw [e]; exact Int.dvd_zero _

/-- To the power of a prime. -/
theorem dif_frob {p : Nat} (hp : Prm p) (d : Nat) (f : Nat → Int) (i : Nat) : (p : Int) ∣ difN d p f i - (f i - f (i + p * d)) := by
  obtain ⟨m, hm⟩ : ∃ m, p = m + 1 := ⟨p - 1, by have := hp.1; omega⟩
  rw [dif_binom]
  show (p : Int) ∣ sumZ p (fun k => sgn k * (cho p k : Int) * f (i + k * d)) + sgn p * (cho p p : Int) * f (i + p * d) - (f i - f (i + p * d))
  have e1 : sumZ p (fun k => sgn k * (cho p k : Int) * f (i + k * d)) = f i + sumZ m (fun k => sgn (k + 1) * (cho p (k + 1) : Int) * f (i + (k + 1) * d)) := by
    rw [show sumZ p = sumZ (m + 1) from by rw [hm], sumZ_head, cho_zero]
    simp [sgn]
  have e2 : (p : Int) ∣ sumZ m (fun k => sgn (k + 1) * (cho p (k + 1) : Int) * f (i + (k + 1) * d)) := sumZ_dvd (fun k hk =>
    Int.dvd_trans (Int.ofNat_dvd.2 (hp.cho (by omega) (by omega))) (Int.dvd_trans (Int.dvd_mul_left _ _) (Int.dvd_mul_right _ _)))
  rw [e1, cho_self]
  have e3 : (p : Int) ∣ (sgn p + 1) * f (i + p * d) := Int.dvd_trans (sgn_prm hp) (Int.dvd_mul_right _ _)
  have e4 := Int.dvd_add e2 e3
  have e5 : sumZ m (fun k => sgn (k + 1) * (cho p (k + 1) : Int) * f (i + (k + 1) * d)) + (sgn p + 1) * f (i + p * d) = f i + sumZ m (fun k => sgn (k + 1) * (cho p (k + 1) : Int) * f (i + (k + 1) * d)) + sgn p * ((1 : Nat) : Int) * f (i + p * d) - (f i - f (i + p * d)) := by
    rw [Int.add_mul]; simp; omega
  rw [← e5]; exact e4

end Go.Proofs.YthnenhfdojpobaaDoor
