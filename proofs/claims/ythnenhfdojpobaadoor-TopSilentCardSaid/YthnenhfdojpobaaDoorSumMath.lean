/-
  Sums over the tones of a circle; how often a distance occurs, as a sum around the circle. Plain mathematics.
-/
import Derived.Test.YthnenhfdojpobaaDoorVecMath
namespace Go.Proofs.YthnenhfdojpobaaDoor

def sumN : Nat → (Nat → Nat) → Nat
  | 0, _ => 0
  | n + 1, f => sumN n f + f n

theorem sum_congr {n : Nat} {f g : Nat → Nat} (h : ∀ i, i < n → f i = g i) : sumN n f = sumN n g := by
  induction n with
  | zero => rfl
  | succ n ih => simp only [sumN]; rw [ih (fun i hi => h i (by omega)), h n (by omega)]
theorem sum_add (n : Nat) (f g : Nat → Nat) : sumN n (fun i => f i + g i) = sumN n f + sumN n g := by
  induction n with
  | zero => rfl
  | succ n ih => simp only [sumN]; rw [ih]; omega
theorem sum_zero (n : Nat) : sumN n (fun _ => 0) = 0 := by
  induction n with
  | zero => rfl
  | succ n ih => simp only [sumN]; rw [ih]
theorem sum_const (n c : Nat) : sumN n (fun _ => c) = n * c := by
  induction n with
  | zero => simp [sumN]
  | succ n ih => simp only [sumN]; rw [ih, Nat.succ_mul]
theorem sum_mul (n c : Nat) (f : Nat → Nat) : sumN n (fun i => c * f i) = c * sumN n f := by
  induction n with
  | zero => simp [sumN]
  | succ n ih => simp only [sumN]; rw [ih, Nat.mul_add]
theorem sum_swap (n m : Nat) (f : Nat → Nat → Nat) : sumN n (fun i => sumN m (fun j => f i j)) = sumN m (fun j => sumN n (fun i => f i j)) := by
  induction n with
  | zero => simp only [sumN]; rw [sum_zero]
  | succ n ih => simp only [sumN]; rw [ih, ← sum_add]
theorem sum_single (n j : Nat) (f : Nat → Nat) : sumN n (fun i => if i = j then f i else 0) = if j < n then f j else 0 := by
  induction n with
  | zero => simp [sumN]
  | succ n ih =>
    simp only [sumN]; rw [ih]
    by_cases h : j < n
    · rw [if_pos h, if_neg (by omega), if_pos (by omega)]; omega
    · rw [if_neg h]
      by_cases h2 : n = j
      · subst h2; rw [if_pos rfl, if_pos (by omega)]; omega
      · rw [if_neg h2, if_neg (by omega)]

/-- A sum in another order. -/
theorem sum_perm (n : Nat) (s t : Nat → Nat) (hs : ∀ i, i < n → s i < n) (ht : ∀ j, j < n → t j < n) (h1 : ∀ i, i < n → t (s i) = i) (h2 : ∀ j, j < n → s (t j) = j) (f : Nat → Nat) :
    sumN n (fun i => f (s i)) = sumN n f := by
  have e1 : sumN n (fun i => f (s i)) = sumN n (fun i => sumN n (fun j => if j = s i then f j else 0)) :=
    sum_congr (fun i hi => by rw [sum_single, if_pos (hs i hi)])
  rw [e1, sum_swap]
  refine sum_congr (fun j hj => ?_)
  have e2 : sumN n (fun i => if j = s i then f j else 0) = sumN n (fun i => if i = t j then f j else 0) :=
    sum_congr (fun i hi => by
      by_cases h : j = s i
      · rw [if_pos h, if_pos (by rw [h, h1 i hi])]
      · rw [if_neg h, if_neg (fun e => h (by rw [e, h2 j hj]))])
  rw [e2, sum_single n (t j) (fun _ => f j), if_pos (ht j hj)]

/-- Moving around the circle. -/
theorem sum_move (n u : Nat) (hu : u < n) (f : Nat → Nat) : sumN n (fun i => f ((i + u) % n)) = sumN n f := by
  refine sum_perm n (fun i => (i + u) % n) (fun j => (j + (n - u)) % n) (fun i _ => Nat.mod_lt _ (by omega)) (fun j _ => Nat.mod_lt _ (by omega)) ?_ ?_ f
  · intro i hi
    show ((i + u) % n + (n - u)) % n = i
    rw [Nat.mod_add_mod, show i + u + (n - u) = i + n from by omega, Nat.add_mod_right, Nat.mod_eq_of_lt hi]
  · intro j hj
    show ((j + (n - u)) % n + u) % n = j
    rw [Nat.mod_add_mod, show j + (n - u) + u = j + n from by omega, Nat.add_mod_right, Nat.mod_eq_of_lt hj]

/-- Whether a tone is in a chord: 1 or 0. -/
def bI (c t : Nat) : Nat := if c.testBit t then 1 else 0

theorem sum_tones (n c : Nat) (f : Nat → Nat) : ((tonesB n c).map f).sum = sumN n (fun t => bI c t * f t) := by
  induction n with
  | zero => rfl
  | succ n ih =>
    have e : tonesB (n + 1) c = tonesB n c ++ if c.testBit n then [n] else [] := by
      unfold tonesB
      rw [List.range_succ, List.filter_append]
      congr 1
      cases h : c.testBit n <;> simp [h]
    rw [e, List.map_append, List.sum_append, ih]
    simp only [sumN, bI]
    cases h : c.testBit n <;> simp

/-- How often two tones are d apart, around the circle. -/
def autN (n c d : Nat) : Nat := sumN n (fun t => bI c t * bI c ((t + d) % n))

theorem innerV_at {n l i : Nat} (hs : List Nat) : ∀ {cs : List Nat}, i < cs.length → (innerV n l hs cs)[i]?.getD 0 = cs[i]?.getD 0 + (hs.map fun h => if l < h ∧ dI n l h = i then 1 else 0).sum := by
  induction hs with
  | nil => intro cs _; simp [innerV]
  | cons h hs ih =>
    intro cs hi
    have e : innerV n l (h :: hs) cs = innerV n l hs (stepV n cs l h) := rfl
    rw [e, ih (by rw [stepV_length]; exact hi), List.map_cons, List.sum_cons]
    have e2 : (stepV n cs l h)[i]?.getD 0 = cs[i]?.getD 0 + if l < h ∧ dI n l h = i then 1 else 0 := by
      unfold stepV
      by_cases h1 : l < h
      · rw [if_pos h1, List.getElem?_set]
        by_cases h2 : dI n l h = i
        · rw [if_pos h2, if_pos (by omega), if_pos ⟨h1, h2⟩, h2]; rfl
        · rw [if_neg h2, if_neg (fun e => h2 e.2)]; omega
      · rw [if_neg h1, if_neg (fun e => h1 e.1)]; omega
    rw [e2]; omega

theorem outerV_at {n i : Nat} (hs ls : List Nat) : ∀ {cs : List Nat}, i < cs.length → (outerV n hs ls cs)[i]?.getD 0 = cs[i]?.getD 0 + (ls.map fun l => (hs.map fun h => if l < h ∧ dI n l h = i then 1 else 0).sum).sum := by
  induction ls with
  | nil => intro cs _; simp [outerV]
  | cons l ls ih =>
    intro cs hi
    have e : outerV n hs (l :: ls) cs = outerV n hs ls (innerV n l hs cs) := rfl
    rw [e, ih (by rw [innerV_length]; exact hi), innerV_at hs hi, List.map_cons, List.sum_cons]
    omega

theorem dI_iff {n d l h : Nat} (hd : 1 ≤ d) (hd2 : 2 * d ≤ n) (hh : h < n) : (l < h ∧ dI n l h = d - 1) ↔ (h = l + d ∨ h = l + (n - d)) := by
  unfold dI
  constructor
  · rintro ⟨h1, h2⟩
    rw [Nat.min_def] at h2
    split at h2 <;> omega
  · rintro (h1 | h1) <;> subst h1
    · refine ⟨by omega, ?_⟩
      rw [Nat.min_def]; split <;> omega
    · refine ⟨by omega, ?_⟩
      rw [Nat.min_def]; split <;> omega

/-- An element of the vector, as a sum. -/
theorem vec_at {n c d : Nat} (hn : n ≤ 64) (hc : c < 2 ^ n) (hd : 1 ≤ d) (hd2 : 2 * d ≤ n) :
    (vecN n c)[d - 1]?.getD 0 = sumN n (fun l => bI c l * (if l + d < n then bI c (l + d) else 0)) + if 2 * d = n then 0 else sumN n (fun l => bI c l * (if l + (n - d) < n then bI c (l + (n - d)) else 0)) := by
  unfold vecN
  rw [outerV_at _ _ (by rw [List.length_replicate]; omega)]
  have e0 : (List.replicate (n / 2) 0)[d - 1]?.getD 0 = 0 := by have := replicate_le (n / 2) (d - 1); omega
  rw [e0, Nat.zero_add, tonesL_eq c hn hc, sum_tones]
  by_cases hdn : 2 * d = n
  · rw [if_pos hdn, Nat.add_zero]
    refine sum_congr (fun l hl => ?_)
    congr 1
    rw [sum_tones, ← sum_single n (l + d) (fun h => bI c h)]
    refine sum_congr (fun h hh => ?_)
    by_cases hx : h = l + d
    · rw [if_pos hx, if_pos ((dI_iff hd hd2 hh).2 (Or.inl hx)), Nat.mul_one]
    · rw [if_neg hx, if_neg (fun e => by rcases (dI_iff hd hd2 hh).1 e with e | e <;> omega), Nat.mul_zero]
  · rw [if_neg hdn, ← sum_add]
    refine sum_congr (fun l hl => ?_)
    rw [← Nat.mul_add]
    congr 1
    rw [sum_tones, ← sum_single n (l + d) (fun h => bI c h), ← sum_single n (l + (n - d)) (fun h => bI c h), ← sum_add]
    refine sum_congr (fun h hh => ?_)
    by_cases hx : h = l + d
    · rw [if_pos ((dI_iff hd hd2 hh).2 (Or.inl hx)), if_pos hx, if_neg (show ¬ h = l + (n - d) by omega)]; omega
    · by_cases hy : h = l + (n - d)
      · rw [if_pos ((dI_iff hd hd2 hh).2 (Or.inr hy)), if_neg hx, if_pos hy]; omega
      · rw [if_neg (show ¬ (l < h ∧ dI n l h = d - 1) from fun e => by rcases (dI_iff hd hd2 hh).1 e with e | e <;> omega), if_neg hx, if_neg hy]; omega

/-- The sum around the circle is the vector's element, at the half circle twice it. -/
theorem aut_vec {n c d : Nat} (hn : n ≤ 64) (hc : c < 2 ^ n) (hd : 1 ≤ d) (hd2 : 2 * d ≤ n) :
    autN n c d = if 2 * d = n then 2 * (vecN n c)[d - 1]?.getD 0 else (vecN n c)[d - 1]?.getD 0 := by
  have split : autN n c d = sumN n (fun l => bI c l * (if l + d < n then bI c (l + d) else 0)) + sumN n (fun l => bI c l * (if l + (n - d) < n then bI c (l + (n - d)) else 0)) := by
    rw [← sum_move n d (by omega) (fun l => bI c l * (if l + (n - d) < n then bI c (l + (n - d)) else 0)), ← sum_add]
    refine sum_congr (fun t ht => ?_)
    by_cases h : t + d < n
    · rw [Nat.mod_eq_of_lt h, if_pos h, if_neg (by omega)]; omega
    · have e : (t + d) % n = t + d - n := by
        rw [show t + d = (t + d - n) + n from by omega, Nat.add_mod_right, Nat.mod_eq_of_lt (by omega)]; omega
      rw [if_neg h, e, if_pos (by omega), show t + d - n + (n - d) = t from by omega, Nat.mul_comm]; omega
  rw [split, vec_at hn hc hd hd2]
  by_cases hdn : 2 * d = n
  · rw [if_pos hdn, if_pos hdn, show n - d = d from by omega]; omega
  · rw [if_neg hdn, if_neg hdn]

end Go.Proofs.YthnenhfdojpobaaDoor
