/-
  A rhythm that fills the circle with another does so too when it is multiplied by a number without a common factor. Plain mathematics: the sum of the turns, to the power of a prime, is the sum of the turns by the prime, up to a multiple of it.
-/
import Derived.Test.YthnenhfdojpobaaDoorCaPart
namespace Go.Proofs.YthnenhfdojpobaaDoor

/-! ### binomials -/

def cho : Nat → Nat → Nat
  | _, 0 => 1
  | 0, _ + 1 => 0
  | m + 1, k + 1 => cho m k + cho m (k + 1)
theorem cho_zero (m : Nat) : cho m 0 = 1 := by cases m <;> rfl
theorem cho_succ (m k : Nat) : cho (m + 1) (k + 1) = cho m k + cho m (k + 1) := rfl
theorem cho_more (m : Nat) : ∀ k, m < k → cho m k = 0 := by
  induction m with
  | zero =>
    intro k h
    cases k with
    | zero => omega
    | succ k => rfl
  | succ m ih =>
    intro k h
    cases k with
    | zero => omega
    | succ k => rw [cho_succ, ih k (by omega), ih (k + 1) (by omega)]
theorem cho_self (m : Nat) : cho m m = 1 := by
  induction m with
  | zero => rfl
  | succ m ih => rw [cho_succ, ih, cho_more m (m + 1) (by omega)]
theorem cho_mul (m : Nat) : ∀ k, (k + 1) * cho (m + 1) (k + 1) = (m + 1) * cho m k := by
  induction m with
  | zero =>
    intro k
    cases k with
    | zero => rfl
    | succ k => rw [cho_more (0 + 1) (k + 1 + 1) (by omega), cho_more 0 (k + 1) (by omega), Nat.mul_zero]
  | succ m ih =>
    intro k
    rw [cho_succ (m + 1) k, Nat.mul_add, ih k]
    cases k with
    | zero =>
      rw [cho_zero, cho_zero]
      omega
    | succ j =>
      rw [Nat.succ_mul (j + 1), ih j, Nat.succ_mul (m + 1), cho_succ m j, Nat.mul_add]
      omega

/-! ### primes -/

def Prm (p : Nat) : Prop := 2 ≤ p ∧ ∀ d, d ∣ p → d = 1 ∨ d = p
theorem Prm.cop {p a : Nat} (h : Prm p) (ha : ¬ p ∣ a) : Nat.Coprime p a := by
  rcases h.2 (Nat.gcd p a) (Nat.gcd_dvd_left p a) with e | e
  · exact e
  · exact absurd (e ▸ Nat.gcd_dvd_right p a) ha
theorem Prm.mul {p a b : Nat} (h : Prm p) (hd : p ∣ a * b) : p ∣ a ∨ p ∣ b := by
  by_cases ha : p ∣ a
  · exact Or.inl ha
  · exact Or.inr ((h.cop ha).dvd_of_dvd_mul_left hd)
theorem Prm.pow {p a : Nat} (h : Prm p) : ∀ m, p ∣ a ^ m → p ∣ a := by
  intro m
  induction m with
  | zero =>
    intro hd
    rw [Nat.pow_zero, Nat.dvd_one] at hd
    have := h.1
    omega
  | succ m ih =>
    intro hd
    rw [Nat.pow_succ] at hd
    rcases h.mul hd with e | e
    · exact ih e
    · exact e
theorem Prm.cho {p k : Nat} (h : Prm p) (hk : 1 ≤ k) (hkp : k < p) : p ∣ cho p k := by
  obtain ⟨m, rfl⟩ : ∃ m, p = m + 1 := ⟨p - 1, by have := h.1; omega⟩
  obtain ⟨j, rfl⟩ : ∃ j, k = j + 1 := ⟨k - 1, by omega⟩
  have e := cho_mul m j
  rcases h.mul (show m + 1 ∣ (j + 1) * Go.Proofs.YthnenhfdojpobaaDoor.cho (m + 1) (j + 1) by rw [e]; exact Nat.dvd_mul_right _ _) with d | d
  · exact absurd (Nat.le_of_dvd (by omega) d) (by omega)
  · exact d
theorem prm_factor (m : Nat) : 2 ≤ m → ∃ p q, Prm p ∧ m = p * q := by
  induction m using Nat.strongRecOn with
  | ind m ih =>
    intro hm
    by_cases h : Prm m
    · exact ⟨m, 1, h, by omega⟩
    · have hx : ∃ d, d ∣ m ∧ d ≠ 1 ∧ d ≠ m := Classical.byContradiction fun hn => h ⟨hm, fun d hd => Classical.byContradiction fun hc => hn ⟨d, hd, fun e => hc (Or.inl e), fun e => hc (Or.inr e)⟩⟩
      obtain ⟨d, ⟨c, hc⟩, h1, h2⟩ := hx
      have hd0 : d ≠ 0 := fun e => by subst e; omega
      have hdm : d < m := by
        have := Nat.le_of_dvd (by omega) (show d ∣ m from ⟨c, hc⟩)
        omega
      obtain ⟨p, q, hp, e⟩ := ih d hdm (by omega)
      exact ⟨p, q * c, hp, by rw [hc, e, Nat.mul_assoc]⟩

/-! ### turns -/

/-- The sum of the turns. -/
def act : List Nat → (Nat → Nat) → Nat → Nat
  | [], _, _ => 0
  | x :: l, h, i => h (i + x) + act l h i
/-- The same, several times. -/
def itN (l : List Nat) : Nat → (Nat → Nat) → Nat → Nat
  | 0, h => h
  | m + 1, h => act l (itN l m h)
theorem act_add (l : List Nat) (f g : Nat → Nat) (i : Nat) : act l (fun j => f j + g j) i = act l f i + act l g i := by
  induction l with
  | nil => rfl
  | cons x l ih => simp only [act]; rw [ih]; omega
theorem act_mul (l : List Nat) (c : Nat) (f : Nat → Nat) (i : Nat) : act l (fun j => c * f j) i = c * act l f i := by
  induction l with
  | nil => rfl
  | cons x l ih => simp only [act]; rw [ih, Nat.mul_add]
theorem act_shift (l : List Nat) (c : Nat) (f : Nat → Nat) (i : Nat) : act l (fun j => f (j + c)) i = act l f (i + c) := by
  induction l with
  | nil => rfl
  | cons x l ih => simp only [act]; rw [ih, Nat.add_right_comm]
theorem act_const (l : List Nat) (c i : Nat) : act l (fun _ => c) i = l.length * c := by
  induction l with
  | nil => simp [act]
  | cons x l ih => simp only [act]; rw [ih, List.length_cons, Nat.succ_mul]; omega
theorem act_congr {l : List Nat} {f g : Nat → Nat} (h : ∀ j, f j = g j) (i : Nat) : act l f i = act l g i := by rw [show f = g from funext h]
theorem act_sum (l : List Nat) (k : Nat) (F : Nat → Nat → Nat) (i : Nat) : act l (fun j => sumN k (fun t => F t j)) i = sumN k (fun t => act l (F t) i) := by
  induction k with
  | zero => simp only [sumN]; rw [act_const]; simp
  | succ k ih => simp only [sumN]; rw [act_add, ih]
theorem itN_tail (l : List Nat) (m : Nat) (h : Nat → Nat) : itN l (m + 1) h = itN l m (act l h) := by
  induction m with
  | zero => rfl
  | succ m ih => show act l (itN l (m + 1) h) = act l (itN l m (act l h)); rw [ih]
theorem itN_const (l : List Nat) (m c i : Nat) : itN l m (fun _ => c) i = l.length ^ m * c := by
  induction m generalizing i with
  | zero => simp [itN]
  | succ m ih =>
    show act l (itN l m fun _ => c) i = _
    rw [act_congr ih, act_const, Nat.pow_succ, Nat.mul_assoc, Nat.mul_left_comm]

theorem sum_head (k : Nat) (f : Nat → Nat) : sumN (k + 1) f = f 0 + sumN k (fun i => f (i + 1)) := by
  induction k with
  | zero => simp [sumN]
  | succ k ih => rw [show sumN (k + 1 + 1) f = sumN (k + 1) f + f (k + 1) from rfl, ih]; simp only [sumN]; omega
theorem pascal (m : Nat) (G : Nat → Nat) : sumN (m + 2) (fun k => cho (m + 1) k * G k) = sumN (m + 1) (fun k => cho m k * G (k + 1)) + sumN (m + 1) (fun k => cho m k * G k) := by
  have e1 : sumN (m + 1) (fun k => cho m k * G k) = sumN (m + 2) (fun k => cho m k * G k) := by
    show _ = sumN (m + 1) _ + cho m (m + 1) * G (m + 1)
    rw [cho_more m (m + 1) (by omega)]; omega
  rw [e1, sum_head, sum_head (m + 1) (fun k => cho m k * G k)]
  have e2 : sumN (m + 1) (fun i => cho (m + 1) (i + 1) * G (i + 1)) = sumN (m + 1) (fun i => cho m i * G (i + 1) + cho m (i + 1) * G (i + 1)) :=
    sum_congr (fun i _ => by rw [cho_succ, Nat.add_mul])
  rw [e2, sum_add, cho_zero, cho_zero]
  omega

theorem binom (x : Nat) (l : List Nat) (h : Nat → Nat) (m : Nat) : ∀ i, itN (x :: l) m h i = sumN (m + 1) (fun k => cho m k * itN l (m - k) h (i + k * x)) := by
  induction m with
  | zero => intro i; simp [itN, sumN, cho]
  | succ m ih =>
    intro i
    have p := pascal m (fun k => itN l (m + 1 - k) h (i + k * x))
    rw [p]
    show itN (x :: l) m h (i + x) + act l (itN (x :: l) m h) i = _
    rw [ih, act_congr ih, act_sum]
    congr 1
    · refine sum_congr (fun k hk => ?_)
      rw [show m + 1 - (k + 1) = m - k from by omega, show i + x + k * x = i + (k + 1) * x from by rw [Nat.succ_mul]; omega]
    · refine sum_congr (fun k hk => ?_)
      rw [act_mul, act_shift l (k * x) (itN l (m - k) h), show m + 1 - k = m - k + 1 from by omega]
      rfl

theorem sum_dvd {p k : Nat} {f : Nat → Nat} (h : ∀ i, i < k → p ∣ f i) : p ∣ sumN k f := by
  induction k with
  | zero => exact Nat.dvd_zero p
  | succ k ih => exact Nat.dvd_add (ih (fun i hi => h i (by omega))) (h k (by omega))

/-- To the power of a prime. -/
theorem frob {p : Nat} (hp : Prm p) (h : Nat → Nat) (l : List Nat) (i : Nat) : itN l p h i % p = act (l.map (p * ·)) h i % p := by
  induction l with
  | nil =>
    obtain ⟨m, rfl⟩ : ∃ m, p = m + 1 := ⟨p - 1, by have := hp.1; omega⟩
    rfl
  | cons x l ih =>
    obtain ⟨m, hm⟩ : ∃ m, p = m + 1 := ⟨p - 1, by have := hp.1; omega⟩
    rw [binom]
    show _ = (h (i + p * x) + act (l.map (p * ·)) h i) % p
    show (sumN p (fun k => cho p k * itN l (p - k) h (i + k * x)) + cho p p * itN l (p - p) h (i + p * x)) % p = _
    have e1 : sumN p (fun k => cho p k * itN l (p - k) h (i + k * x)) = itN l p h i + sumN m (fun k => cho p (k + 1) * itN l (p - (k + 1)) h (i + (k + 1) * x)) := by
      rw [show sumN p = sumN (m + 1) from by rw [hm], sum_head, cho_zero]
      simp
    have e2 : p ∣ sumN m (fun k => cho p (k + 1) * itN l (p - (k + 1)) h (i + (k + 1) * x)) := sum_dvd (fun k hk => Nat.dvd_trans (hp.cho (by omega) (by omega)) (Nat.dvd_mul_right _ _))
    obtain ⟨q, hq⟩ := e2
    rw [e1, hq, cho_self, Nat.sub_self, Nat.one_mul]
    show (itN l p h i + p * q + h (i + p * x)) % p = _
    rw [show itN l p h i + p * q + h (i + p * x) = (itN l p h i + h (i + p * x)) + p * q from by omega, Nat.add_mul_mod_self_left, Nat.add_mod, ih, ← Nat.add_mod, Nat.add_comm]

/-! ### around the circle -/

def Peri (n : Nat) (h : Nat → Nat) : Prop := ∀ i, h (i + n) = h i
theorem Peri.mul {n : Nat} {h : Nat → Nat} (hh : Peri n h) (i q : Nat) : h (i + n * q) = h i := by
  induction q with
  | zero => rfl
  | succ q ih => rw [Nat.mul_succ, ← Nat.add_assoc, hh, ih]
theorem Peri.mod {n : Nat} {h : Nat → Nat} (hh : Peri n h) (i : Nat) : h (i % n) = h i := by
  have := hh.mul (i % n) (i / n)
  rw [Nat.mod_add_div] at this
  exact this.symm
theorem Peri.act {n : Nat} {h : Nat → Nat} (hh : Peri n h) (l : List Nat) : Peri n (act l h) := fun i => by
  induction l with
  | nil => rfl
  | cons x l ih => simp only [Go.Proofs.YthnenhfdojpobaaDoor.act]; rw [ih, Nat.add_right_comm, hh]
theorem act_total {n : Nat} {h : Nat → Nat} (hn : 1 ≤ n) (hh : Peri n h) (l : List Nat) : sumN n (act l h) = l.length * sumN n h := by
  induction l with
  | nil => show sumN n (fun _ => 0) = _; rw [sum_zero]; simp
  | cons x l ih =>
    show sumN n (fun i => h (i + x) + act l h i) = _
    rw [sum_add, ih, List.length_cons, Nat.succ_mul]
    have := sum_move n (x % n) (Nat.mod_lt _ (by omega)) h
    rw [← this, Nat.add_comm]
    congr 1
    refine sum_congr (fun i hi => ?_)
    rw [hh.mod, ← hh.mod (i + x % n), ← hh.mod (i + x), Nat.add_mod_mod]

/-- By a prime. -/
theorem tile_prime {n p : Nat} {h : Nat → Nat} {l : List Nat} (hn : 1 ≤ n) (hp : Prm p) (hpn : ¬ p ∣ n) (hh : Peri n h) (ht : ∀ i, act l h i = 1) : ∀ i, act (l.map (p * ·)) h i = 1 := by
  have htot := act_total hn hh l
  rw [sum_congr (g := fun _ => 1) (fun i _ => ht i), sum_const, Nat.mul_one] at htot
  have hpl : ¬ p ∣ l.length := fun hd => hpn (by rw [htot]; exact Nat.dvd_trans hd (Nat.dvd_mul_right _ _))
  obtain ⟨m, hm⟩ : ∃ m, p = m + 1 := ⟨p - 1, by have := hp.1; omega⟩
  have hpow : ∀ i, itN l p h i = l.length ^ m := fun i => by
    rw [hm, itN_tail, show act l h = fun _ => 1 from funext ht, itN_const, Nat.mul_one]
  have hpos : ∀ i, 1 ≤ act (l.map (p * ·)) h i := fun i => by
    rcases Nat.eq_zero_or_pos (act (l.map (p * ·)) h i) with e | e
    · exfalso
      have f := frob hp h l i
      rw [e, hpow, Nat.zero_mod] at f
      exact hpl (hp.pow m (Nat.dvd_of_mod_eq_zero f))
    · exact e
  have htot2 := act_total hn hh (l.map (p * ·))
  rw [List.length_map, ← htot] at htot2
  have h1 := sum_all_one (n := n) (f := act (l.map (p * ·)) h) (fun i _ => hpos i) htot2
  intro i
  rw [← (hh.act _).mod i]
  exact h1 _ (Nat.mod_lt _ (by omega))

/-- By a number without a common factor. -/
theorem tile_times {n : Nat} {h : Nat → Nat} {l : List Nat} (hn : 1 ≤ n) (hh : Peri n h) (ht : ∀ i, act l h i = 1) (m : Nat) : 1 ≤ m → Nat.gcd m n = 1 → ∀ i, act (l.map (m * ·)) h i = 1 := by
  induction m using Nat.strongRecOn with
  | ind m ih =>
    intro hm hg
    by_cases h1 : m = 1
    · subst h1
      intro i
      rw [show l.map (1 * ·) = l from by simp]
      exact ht i
    · obtain ⟨p, q, hp, e⟩ := prm_factor m (by omega)
      have hp2 := hp.1
      have hq1 : 1 ≤ q := by
        rcases Nat.eq_zero_or_pos q with e2 | e2
        · rw [e2, Nat.mul_zero] at e; omega
        · exact e2
      have hqm : q < m := by
        have := Nat.mul_le_mul_right q hp2
        omega
      have hgq : Nat.gcd q n = 1 := Nat.Coprime.coprime_dvd_left ⟨p, by rw [e, Nat.mul_comm]⟩ hg
      have hpn : ¬ p ∣ n := fun hd => by
        have h3 : p ∣ Nat.gcd m n := Nat.dvd_gcd ⟨q, e⟩ hd
        rw [hg, Nat.dvd_one] at h3
        omega
      have h2 := tile_prime hn hp hpn hh (ih q hqm hq1 hgq)
      intro i
      rw [show l.map (m * ·) = (l.map (q * ·)).map (p * ·) from by rw [List.map_map]; exact List.map_congr_left (fun x _ => by show m * x = p * (q * x); rw [e, Nat.mul_assoc])]
      exact h2 i

end Go.Proofs.YthnenhfdojpobaaDoor
