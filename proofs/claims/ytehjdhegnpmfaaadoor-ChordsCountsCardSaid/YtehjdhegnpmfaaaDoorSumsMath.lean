/-
  Sums of what chords have in common.
-/
import Derived.Test.YtehjdhegnpmfaaaDoorCommonFns
import Derived.Test.YtehjdhegnpmfaaaDoorTimesLaw
namespace Go.Proofs.YtehjdhegnpmfaaaDoor
open Go.RowKit Go.Shelf

theorem mod_two {x n : Nat} (h : x < 2 * n) : x % n = if x < n then x else x - n := by
  split
  · rename_i h'; exact Nat.mod_eq_of_lt h'
  · rw [Nat.mod_eq_sub_mod (by omega), Nat.mod_eq_of_lt (by omega)]

theorem bI_land (a b t : Nat) : bI (a &&& b) t = bI a t * bI b t := by
  unfold bI
  rw [Nat.testBit_and]
  cases a.testBit t <;> cases b.testBit t <;> rfl

theorem bI_mv {n b u t : Nat} (hu : u < n) (hb : b < 2 ^ n) (ht : t < n) : bI (mvN n b u) t = bI b ((t + (n - u)) % n) := by
  unfold bI
  rw [testBit_mv hu hb, decide_eq_true ht, Bool.true_and, show t + n - u = t + (n - u) from by omega]

theorem comAt_sum {n a b k : Nat} (hn : n ≤ 64) (ha : a < 2 ^ n) (hb : b < 2 ^ n) (hk : k < n) :
    comAt a n b k = sumN n (fun t => bI a t * bI b ((t + (n - k)) % n)) := by
  unfold comAt
  rw [tonesL_eq _ hn (and_lt ha), tonesB_count]
  exact sum_congr (fun t ht => by rw [bI_land, bI_mv hk hb ht])

theorem comAt_aut {n a k : Nat} (hn : n ≤ 64) (ha : a < 2 ^ n) (hk : k < n) : comAt a n a k = autN n a k := by
  rw [comAt_sum hn ha ha hk, ← aut_symm hk]; rfl

theorem aut_nought {n a : Nat} (hn : n ≤ 64) (ha : a < 2 ^ n) : autN n a 0 = (tonesL a).length := by
  rw [tonesL_eq _ hn ha, tonesB_count]
  unfold autN
  refine sum_congr (fun t ht => ?_)
  rw [Nat.add_zero, Nat.mod_eq_of_lt ht]
  unfold bI
  split <;> rfl

theorem back_back {n t k : Nat} (ht : t < n) (hk : k < n) : (t + (n - (t + (n - k)) % n)) % n = k := by
  have e := mod_two (x := t + (n - k)) (n := n) (by omega)
  by_cases h : t + (n - k) < n
  · rw [if_pos h] at e
    rw [e, show t + (n - (t + (n - k))) = k from by omega]
    exact Nat.mod_eq_of_lt hk
  · rw [if_neg h] at e
    rw [e, show t + (n - (t + (n - k) - n)) = n + k from by omega, Nat.add_mod_left]
    exact Nat.mod_eq_of_lt hk

theorem com_sum {n a b : Nat} (hn : n ≤ 64) (ha : a < 2 ^ n) (hb : b < 2 ^ n) : sumN n (comAt a n b) = (tonesL a).length * (tonesL b).length := by
  rw [sum_congr (g := fun k => sumN n (fun t => bI a t * bI b ((t + (n - k)) % n))) (fun k hk => comAt_sum hn ha hb hk), sum_swap]
  rw [tonesL_eq a hn ha, tonesL_eq b hn hb, tonesB_count, tonesB_count, Nat.mul_comm, ← sum_mul]
  refine sum_congr (fun t ht => ?_)
  rw [sum_mul, Nat.mul_comm]
  congr 1
  exact sum_perm n (fun k => (t + (n - k)) % n) (fun k => (t + (n - k)) % n) (fun i _ => Nat.mod_lt _ (by omega)) (fun i _ => Nat.mod_lt _ (by omega)) (fun i hi => back_back ht hi) (fun i hi => back_back ht hi) (bI b)

theorem sum_append (a b : Nat) (f : Nat → Nat) : sumN (a + b) f = sumN a f + sumN b (fun i => f (a + i)) := by
  induction b with
  | zero => rfl
  | succ b ih => show sumN (a + b) f + f (a + b) = _; rw [ih]; simp only [sumN]; omega
theorem sum_back (n : Nat) (f : Nat → Nat) : sumN n (fun i => f (n - 1 - i)) = sumN n f :=
  sum_perm n (fun i => n - 1 - i) (fun i => n - 1 - i) (fun i hi => by omega) (fun i hi => by omega) (fun i hi => by omega) (fun i hi => by omega) f

/-- Twice the half, around the circle. -/
theorem sum_round {n : Nat} (h1 : 2 ≤ n) (g v : Nat → Nat) (h : ∀ d, d < n → 1 ≤ d → g (n - d) = g d) (hv : ∀ i, i < n / 2 → g (i + 1) = if 2 * (i + 1) = n then 2 * v i else v i) :
    sumN n g = g 0 + 2 * sumN (n / 2) v := by
  obtain ⟨m, hm⟩ : ∃ m, n / 2 = m + 1 := ⟨n / 2 - 1, by omega⟩
  rw [hm] at hv ⊢
  have e1 : sumN m (fun i => g (1 + i)) = sumN m v := sum_congr (fun i hi => by rw [Nat.add_comm 1 i, hv i (by omega), if_neg (by omega)])
  rcases Nat.mod_two_eq_zero_or_one n with hp | hp
  · obtain rfl : n = 1 + (m + (1 + m)) := by omega
    have e3 : sumN m (fun i => g (1 + (m + (1 + i)))) = sumN m v := by
      rw [← sum_back]
      refine sum_congr (fun i hi => ?_)
      have := h (i + 1) (by omega) (by omega)
      rw [show 1 + (m + (1 + (m - 1 - i))) = 1 + (m + (1 + m)) - (i + 1) from by omega, this, hv i (by omega), if_neg (by omega)]
    have e2 : g (1 + (m + 0)) = 2 * v m := by
      rw [show 1 + (m + 0) = m + 1 from by omega, hv m (by omega), if_pos (by omega)]
    rw [sum_append, sum_append, sum_append, e1, e3]
    simp only [sumN]
    rw [e2, Nat.zero_add, Nat.zero_add]
    omega
  · obtain rfl : n = 1 + ((m + 1) + (m + 1)) := by omega
    have e1' : sumN (m + 1) (fun i => g (1 + i)) = sumN (m + 1) v := sum_congr (fun i hi => by rw [Nat.add_comm 1 i, hv i (by omega), if_neg (by omega)])
    have e3 : sumN (m + 1) (fun i => g (1 + (m + 1 + i))) = sumN (m + 1) v := by
      rw [← sum_back]
      refine sum_congr (fun i hi => ?_)
      have := h (i + 1) (by omega) (by omega)
      rw [show 1 + (m + 1 + (m + 1 - 1 - i)) = 1 + (m + 1 + (m + 1)) - (i + 1) from by omega, this, hv i (by omega), if_neg (by omega)]
    rw [sum_append, sum_append, e1', e3]
    simp only [sumN]
    omega

theorem vec_sum {n c : Nat} (h1 : 2 ≤ n) (hn : n ≤ 64) (hc : c < 2 ^ n) :
    (tonesL c).length + 2 * sumN (n / 2) (fun i => (vecN n c)[i]?.getD 0) = (tonesL c).length * (tonesL c).length := by
  rw [← com_sum hn hc hc]
  rw [sum_congr (g := autN n c) (fun k hk => comAt_aut hn hc hk)]
  rw [sum_round h1 (autN n c) (fun i => (vecN n c)[i]?.getD 0) (fun d hd _ => aut_symm hd) (fun i hi => by
    have := aut_vec (n := n) (c := c) (d := i + 1) hn hc (by omega) (by omega)
    rw [this, Nat.add_sub_cancel]), aut_nought hn hc]

theorem com_up {n c i : Nat} (hn : n ≤ 64) (hc : c < 2 ^ n) (hi : i < n / 2) :
    comAt c n c (i + 1) = (if 2 * (i + 1) = n then 2 * (vecN n c)[i]?.getD 0 else (vecN n c)[i]?.getD 0) := by
  rw [comAt_aut hn hc (by omega), aut_vec (d := i + 1) hn hc (by omega) (by omega), Nat.add_sub_cancel]
theorem com_down {n c i : Nat} (hn : n ≤ 64) (hc : c < 2 ^ n) (hi : i < n / 2) :
    comAt c n c (n - i - 1) = (if 2 * (i + 1) = n then 2 * (vecN n c)[i]?.getD 0 else (vecN n c)[i]?.getD 0) := by
  rw [comAt_aut hn hc (by omega), show n - i - 1 = n - (i + 1) from by omega, aut_symm (by omega), aut_vec (d := i + 1) hn hc (by omega) (by omega), Nat.add_sub_cancel]

theorem sum_le {n B : Nat} {f : Nat → Nat} (h : ∀ i, f i ≤ B) : sumN n f ≤ n * B := by
  induction n with
  | zero => simp [sumN]
  | succ n ih => simp only [sumN]; have := h n; rw [Nat.succ_mul]; omega

theorem comN_at {a n b i : Nat} (hi : i < n) : (comN a n b)[i]?.getD 0 = comAt a n b i := by
  unfold comN
  simp [hi]
theorem comAt_le (a n b k : Nat) : comAt a n b k ≤ 64 := tonesL_length _

end Go.Proofs.YtehjdhegnpmfaaaDoor
