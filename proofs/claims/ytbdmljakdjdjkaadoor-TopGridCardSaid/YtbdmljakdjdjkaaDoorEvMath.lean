/-
  Scales on a circle: their tones as a rising row that goes on around the circle, the sizes of their spans, and what an even scale is. Plain mathematics; no program is spoken of.
-/
import Derived.Test.YtbdmljakdjdjkaaDoorSumMath
namespace Go.Proofs.YtbdmljakdjdjkaaDoor

/-! ### rows that go around -/

/-- A row that rises, goes on by n after each k, and tells just the tones of the set s from its first one on. -/
structure Enum (n k s : Nat) (U : Nat → Nat) : Prop where
  step : ∀ i, U i < U (i + 1)
  per : ∀ i, U (i + k) = U i + n
  bit : ∀ i, s.testBit (U i % n) = true
  all : ∀ y, U 0 ≤ y → s.testBit (y % n) = true → ∃ i, U i = y

theorem Enum.lt {n k s : Nat} {U : Nat → Nat} (h : Enum n k s U) {i j : Nat} (hij : i < j) : U i < U j := by
  obtain ⟨d, rfl⟩ := Nat.exists_eq_add_of_lt hij
  induction d with
  | zero => exact h.step i
  | succ d ih => exact Nat.lt_trans (ih (by omega)) (h.step _)
theorem Enum.le {n k s : Nat} {U : Nat → Nat} (h : Enum n k s U) {i j : Nat} (hij : i ≤ j) : U i ≤ U j := by
  rcases Nat.eq_or_lt_of_le hij with e | e
  · rw [e]; exact Nat.le_refl _
  · exact Nat.le_of_lt (h.lt e)
theorem Enum.of_lt {n k s : Nat} {U : Nat → Nat} (h : Enum n k s U) {i j : Nat} (hij : U i < U j) : i < j := by
  apply Nat.lt_of_not_le
  intro hle
  have := h.le hle
  omega
theorem Enum.of_le {n k s : Nat} {U : Nat → Nat} (h : Enum n k s U) {i j : Nat} (hij : U i ≤ U j) : i ≤ j := by
  apply Nat.le_of_not_lt
  intro hle
  have := h.lt hle
  omega
theorem Enum.pers {n k s : Nat} {U : Nat → Nat} (h : Enum n k s U) (i q : Nat) : U (i + k * q) = U i + n * q := by
  induction q with
  | zero => rfl
  | succ q ih => rw [show i + k * (q + 1) = (i + k * q) + k from by rw [Nat.mul_succ]; omega, h.per, ih, Nat.mul_succ]; omega

/-- How many tones are among the d places from a on. -/
def cR (n s a d : Nat) : Nat := sumN d (fun t => bI s ((a + t) % n))

theorem cR_add (n s a d e : Nat) : cR n s a (d + e) = cR n s a d + cR n s (a + d) e := by
  induction e with
  | zero => rfl
  | succ e ih =>
    show cR n s a (d + e) + bI s ((a + (d + e)) % n) = _
    rw [ih]
    show _ = cR n s a d + (cR n s (a + d) e + bI s ((a + d + e) % n))
    rw [Nat.add_assoc a d e]; omega

theorem cR_shift (n s a d q : Nat) : cR n s (a + n * q) d = cR n s a d := by
  unfold cR
  refine sum_congr (fun t _ => ?_)
  rw [show a + n * q + t = (a + t) + n * q from by omega, Nat.add_mul_mod_self_left]

theorem cR_zero {n s a d : Nat} (h : ∀ t, t < d → s.testBit ((a + t) % n) = false) : cR n s a d = 0 := by
  unfold cR
  rw [← sum_zero d]
  exact sum_congr (fun t ht => by unfold bI; rw [h t ht]; rfl)

theorem Enum.one {n k s : Nat} {U : Nat → Nat} (h : Enum n k s U) (i : Nat) : cR n s (U i + 1) (U (i + 1) - U i) = 1 := by
  have hs := h.step i
  obtain ⟨d, hd⟩ : ∃ d, U (i + 1) - U i = d + 1 := ⟨U (i + 1) - U i - 1, by omega⟩
  rw [hd]
  show cR n s (U i + 1) d + bI s ((U i + 1 + d) % n) = 1
  have e : U i + 1 + d = U (i + 1) := by omega
  rw [e]
  have hb := h.bit (i + 1)
  unfold bI
  rw [hb, if_pos rfl]
  have hz : cR n s (U i + 1) d = 0 := by
    apply cR_zero
    intro t ht
    cases hc : s.testBit ((U i + 1 + t) % n) with
    | false => rfl
    | true =>
      obtain ⟨j, hj⟩ := h.all (U i + 1 + t) (by have := h.le (Nat.zero_le i); omega) hc
      have a1 := h.of_lt (i := i) (j := j) (by omega)
      have a2 := h.of_lt (i := j) (j := i + 1) (by omega)
      omega
  rw [hz]

theorem Enum.cnt {n k s : Nat} {U : Nat → Nat} (h : Enum n k s U) (i j : Nat) : cR n s (U i + 1) (U (i + j) - U i) = j := by
  induction j with
  | zero => simp [cR, sumN]
  | succ j ih =>
    have h1 := h.le (show i ≤ i + j by omega)
    have h2 := h.step (i + j)
    rw [show U (i + (j + 1)) - U i = (U (i + j) - U i) + (U (i + j + 1) - U (i + j)) from by rw [← Nat.add_assoc]; omega, cR_add, ih]
    rw [show U i + 1 + (U (i + j) - U i) = U (i + j) + 1 from by omega, h.one]

/-- There is a span of j steps of this size. -/
def IsSpan (n s j d : Nat) : Prop := ∃ x, s.testBit (x % n) = true ∧ s.testBit ((x + d) % n) = true ∧ cR n s (x + 1) d = j

theorem Enum.span {n k s : Nat} {U : Nat → Nat} (h : Enum n k s U) (hn : 1 ≤ n) (j d : Nat) : IsSpan n s j d ↔ ∃ i, U (i + j) = U i + d := by
  constructor
  · rintro ⟨x, h1, h2, h3⟩
    have hx : U 0 ≤ x + n * U 0 := by
      have : 1 * U 0 ≤ n * U 0 := Nat.mul_le_mul_right _ hn
      omega
    obtain ⟨i, hi⟩ := h.all (x + n * U 0) hx (by rw [Nat.add_mul_mod_self_left]; exact h1)
    obtain ⟨i', hi'⟩ := h.all (x + n * U 0 + d) (by omega) (by rw [show x + n * U 0 + d = x + d + n * U 0 from by omega, Nat.add_mul_mod_self_left]; exact h2)
    have hle := h.of_le (i := i) (j := i') (by omega)
    have hc := h.cnt i (i' - i)
    rw [show i + (i' - i) = i' from by omega, hi, hi', show x + n * U 0 + d - (x + n * U 0) = d from by omega,
      show x + n * U 0 + 1 = x + 1 + n * U 0 from by omega, cR_shift, h3] at hc
    refine ⟨i, ?_⟩
    rw [show i + j = i' from by omega, hi, hi']
  · rintro ⟨i, hi⟩
    refine ⟨U i, h.bit i, by rw [← hi]; exact h.bit _, ?_⟩
    have := h.cnt i j
    rwa [hi, Nat.add_sub_cancel_left] at this

theorem Enum.same {n k s s' : Nat} {U : Nat → Nat} (h : Enum n k s U) (h' : Enum n k s' U) (hn : 1 ≤ n) (hs : s < 2 ^ n) (hs' : s' < 2 ^ n) : s = s' := by
  apply Nat.eq_of_testBit_eq
  intro x
  by_cases hx : x < n
  · have hge : U 0 ≤ x + n * U 0 := by
      have : 1 * U 0 ≤ n * U 0 := Nat.mul_le_mul_right _ hn
      omega
    have hm : (x + n * U 0) % n = x := by rw [Nat.add_mul_mod_self_left, Nat.mod_eq_of_lt hx]
    rw [Bool.eq_iff_iff]
    constructor
    · intro hb
      obtain ⟨i, hi⟩ := h.all _ hge (by rw [hm]; exact hb)
      have := h'.bit i
      rwa [hi, hm] at this
    · intro hb
      obtain ⟨i, hi⟩ := h'.all _ hge (by rw [hm]; exact hb)
      have := h.bit i
      rwa [hi, hm] at this
  · rw [Nat.testBit_lt_two_pow (Nat.lt_of_lt_of_le hs (Nat.pow_le_pow_right (by omega) (by omega))), Nat.testBit_lt_two_pow (Nat.lt_of_lt_of_le hs' (Nat.pow_le_pow_right (by omega) (by omega)))]

/-- The row may begin later. -/
theorem Enum.later {n k s : Nat} {U : Nat → Nat} (h : Enum n k s U) : Enum n k s (fun i => U (i + 1)) where
  step i := h.step (i + 1)
  per i := by show U (i + k + 1) = _; rw [show i + k + 1 = i + 1 + k from by omega, h.per]
  bit i := h.bit (i + 1)
  all y hy hb := by
    have hy' : U 1 ≤ y := hy
    obtain ⟨i, hi⟩ := h.all y (by have := h.step 0; simp only [Nat.zero_add] at this; omega) hb
    cases i with
    | zero => have := h.step 0; simp only [Nat.zero_add] at this; omega
    | succ i => exact ⟨i, hi⟩

/-! ### the tones of a scale, as such a row -/

/-- The tone number i, going on around the circle. -/
def tN (n : Nat) (ts : List Nat) (i : Nat) : Nat := ts[i % ts.length]?.getD 0 + i / ts.length * n

theorem tonesB_lt {n s t : Nat} (h : t ∈ tonesB n s) : t < n ∧ s.testBit t = true := by
  unfold tonesB at h
  rw [List.mem_filter, List.mem_range] at h
  exact h
theorem tonesB_at {n s i : Nat} (h : i < (tonesB n s).length) : (tonesB n s)[i]?.getD 0 < n ∧ s.testBit ((tonesB n s)[i]?.getD 0) = true := by
  rw [List.getElem?_eq_getElem h]
  exact tonesB_lt (List.getElem_mem h)
theorem tonesB_pair (n s : Nat) : (tonesB n s).Pairwise (· < ·) := by
  unfold tonesB
  exact List.Pairwise.filter _ List.pairwise_lt_range
theorem tonesB_rise {n s i j : Nat} (h : j < (tonesB n s).length) (hij : i < j) : (tonesB n s)[i]?.getD 0 < (tonesB n s)[j]?.getD 0 := by
  rw [List.getElem?_eq_getElem h, List.getElem?_eq_getElem (Nat.lt_trans hij h)]
  exact List.pairwise_iff_getElem.1 (tonesB_pair n s) i j _ h hij

theorem tN_enum {n s : Nat} (hk : 1 ≤ (tonesB n s).length) : Enum n (tonesB n s).length s (tN n (tonesB n s)) where
  step i := by
    have hm := Nat.mod_lt i hk
    unfold tN
    by_cases h : i % (tonesB n s).length + 1 < (tonesB n s).length
    · have e1 : (i + 1) % (tonesB n s).length = i % (tonesB n s).length + 1 := by
        rw [Nat.add_mod, Nat.mod_eq_of_lt (show 1 < (tonesB n s).length by omega), Nat.mod_eq_of_lt h]
      have e2 : (i + 1) / (tonesB n s).length = i / (tonesB n s).length := by
        have h1 := Nat.div_add_mod i (tonesB n s).length
        have h2 : i + 1 = (i % (tonesB n s).length + 1) + (tonesB n s).length * (i / (tonesB n s).length) := by omega
        rw [h2, Nat.add_mul_div_left _ _ hk, Nat.div_eq_of_lt h, Nat.zero_add]
      rw [e1, e2]
      have := tonesB_rise h (Nat.lt_succ_self (i % (tonesB n s).length))
      omega
    · have h2 : i + 1 = (tonesB n s).length * (i / (tonesB n s).length + 1) := by
        have h1 := Nat.div_add_mod i (tonesB n s).length
        rw [Nat.mul_add, Nat.mul_one]; omega
      have e1 : (i + 1) % (tonesB n s).length = 0 := by rw [h2, Nat.mul_mod_right]
      have e2 : (i + 1) / (tonesB n s).length = i / (tonesB n s).length + 1 := by rw [h2, Nat.mul_div_cancel_left _ hk]
      rw [e1, e2, Nat.succ_mul]
      have := (tonesB_at hm).1
      omega
  per i := by
    unfold tN
    rw [Nat.add_mod_right, Nat.add_div_right _ hk, Nat.succ_mul]; omega
  bit i := by
    have hm := Nat.mod_lt i hk
    have h := tonesB_at hm
    unfold tN
    rw [Nat.add_mul_mod_self_right, Nat.mod_eq_of_lt h.1]
    exact h.2
  all y _ hb := by
    have hn : 0 < n := by have := (tonesB_at hk).1; omega
    have hm : y % n ∈ tonesB n s := by
      unfold tonesB
      rw [List.mem_filter, List.mem_range]
      exact ⟨Nat.mod_lt _ hn, hb⟩
    obtain ⟨a, ha, he⟩ := List.getElem_of_mem hm
    refine ⟨a + (tonesB n s).length * (y / n), ?_⟩
    unfold tN
    rw [Nat.add_mul_mod_self_left, Nat.mod_eq_of_lt ha, Nat.add_mul_div_left _ _ hk, Nat.div_eq_of_lt ha, Nat.zero_add, List.getElem?_eq_getElem ha, Option.getD_some, he, Nat.mul_comm]
    exact Nat.mod_add_div y n

/-! ### even scales -/

/-- All spans of so many steps differ by one at most. -/
def EvP (n k s : Nat) : Prop := ∀ j, 1 ≤ j → j < k → ∀ d d', IsSpan n s j d → IsSpan n s j d' → d ≤ d' + 1

theorem div_is {k a q : Nat} (hk : 0 < k) (h1 : k * q ≤ a) (h2 : a < k * q + k) : a / k = q := by
  obtain ⟨r, hr⟩ := Nat.exists_eq_add_of_le h1
  subst hr
  rw [Nat.mul_add_div hk, Nat.div_eq_of_lt (by omega), Nat.add_zero]

theorem div_bd {k : Nat} (hk : 0 < k) (a : Nat) : k * (a / k) ≤ a ∧ a < k * (a / k) + k := by
  have h1 := Nat.div_add_mod a k
  have h2 := Nat.mod_lt a hk
  omega

/-- What a row around goes up altogether. -/
theorem Enum.total {n k s : Nat} {U : Nat → Nat} (h : Enum n k s U) (j : Nat) : sumN k (fun i => U (i + j)) = sumN k U + n * j := by
  have key : ∀ (V : Nat → Nat) (K : Nat), sumN K (fun i => V (i + 1)) + V 0 = sumN K V + V K := by
    intro V K
    induction K with
    | zero => simp [sumN]
    | succ K ih => simp only [sumN]; omega
  induction j with
  | zero => simp
  | succ j ih =>
    have h1 := key (fun i => U (i + j)) k
    have h2 := h.per j
    rw [show (0 + j) = j from by omega, show k + j = j + k from by omega, h2, ih] at h1
    have e : sumN k (fun i => U (i + (j + 1))) = sumN k (fun i => U (i + 1 + j)) := sum_congr (fun i _ => by rw [show i + (j + 1) = i + 1 + j from by omega])
    rw [e, Nat.mul_succ]; omega

theorem sum_le_of {n : Nat} {f g : Nat → Nat} (h : ∀ i, i < n → f i ≤ g i) : sumN n f ≤ sumN n g := by
  induction n with
  | zero => exact Nat.le_refl _
  | succ n ih => exact Nat.add_le_add (ih (fun i hi => h i (by omega))) (h n (by omega))
theorem sum_lt_of {n : Nat} {f g : Nat → Nat} (h : ∀ i, i < n → f i ≤ g i) {a : Nat} (ha : a < n) (hl : f a < g a) : sumN n f < sumN n g := by
  induction n with
  | zero => omega
  | succ n ih =>
    simp only [sumN]
    by_cases e : a = n
    · subst e
      have := sum_le_of (fun i hi => h i (Nat.lt_succ_of_lt hi))
      omega
    · have := ih (fun i hi => h i (by omega)) (by omega)
      have := h n (by omega)
      omega

/-- The spans of j steps, altogether. -/
theorem Enum.spans_sum {n k s : Nat} {U : Nat → Nat} (h : Enum n k s U) (j : Nat) : sumN k (fun i => U (i + j) - U i) = n * j := by
  have h1 := h.total j
  have h2 := sum_add k (fun i => U (i + j) - U i) U
  have e : sumN k (fun i => U (i + j) - U i + U i) = sumN k (fun i => U (i + j)) := sum_congr (fun i _ => by have := h.le (show i ≤ i + j by omega); omega)
  rw [e] at h2
  omega

/-- Around the circle only the beginning counts. -/
theorem Enum.mod {n k s : Nat} {U : Nat → Nat} (h : Enum n k s U) (i j : Nat) : U (i + j) - U i = U (i % k + j) - U (i % k) := by
  have e : i = i % k + k * (i / k) := (Nat.mod_add_div i k).symm
  have h1 : U i = U (i % k) + n * (i / k) := by
    have := h.pers (i % k) (i / k)
    rwa [← e] at this
  have h2 : U (i + j) = U (i % k + j) + n * (i / k) := by
    have := h.pers (i % k + j) (i / k)
    rwa [show i % k + j + k * (i / k) = i + j from by omega] at this
  rw [h1, h2]; omega

theorem Enum.near {n k s : Nat} {U : Nat → Nat} (h : Enum n k s U) (hn : 1 ≤ n) (hk : 1 ≤ k) (he : EvP n k s) {j : Nat} (hj : j < k) (i : Nat) :
    k * U (i + j) < k * U i + n * j + k ∧ k * U i + n * j < k * U (i + j) + k := by
  by_cases hj0 : j = 0
  · subst hj0; simp; omega
  · have hle := h.le (show i ≤ i + j by omega)
    have hs := h.spans_sum j
    have hw : ∀ a b, U (a + j) - U a ≤ U (b + j) - U b + 1 := fun a b =>
      he j (by omega) hj _ _ ((h.span hn j _).2 ⟨a, by have := h.le (show a ≤ a + j by omega); omega⟩) ((h.span hn j _).2 ⟨b, by have := h.le (show b ≤ b + j by omega); omega⟩)
    have hi : i % k < k := Nat.mod_lt _ hk
    have hm := h.mod i j
    have s1 : sumN k (fun _ => U (i + j) - U i) < sumN k (fun a => U (a + j) - U a + 1) :=
      sum_lt_of (fun a _ => hw i a) hi (by show U (i + j) - U i < U (i % k + j) - U (i % k) + 1; omega)
    have s2 : sumN k (fun a => U (a + j) - U a) < sumN k (fun _ => U (i + j) - U i + 1) :=
      sum_lt_of (fun a _ => hw a i) hi (by show U (i % k + j) - U (i % k) < U (i + j) - U i + 1; omega)
    rw [sum_const, sum_add, sum_const, hs] at s1
    rw [sum_const, hs, Nat.mul_add] at s2
    rw [Nat.mul_sub] at s1 s2
    have hm2 : k * U i ≤ k * U (i + j) := Nat.mul_le_mul_left _ hle
    omega

theorem Enum.nearAll {n k s : Nat} {U : Nat → Nat} (h : Enum n k s U) (hn : 1 ≤ n) (hk : 1 ≤ k) (he : EvP n k s) (i j : Nat) :
    k * U (i + j) < k * U i + n * j + k ∧ k * U i + n * j < k * U (i + j) + k := by
  have h1 := h.near hn hk he (Nat.mod_lt j hk) i
  have h2 := h.pers (i + j % k) (j / k)
  have e := Nat.mod_add_div j k
  rw [show i + j % k + k * (j / k) = i + j from by omega] at h2
  rw [h2, Nat.mul_add]
  have e2 : n * j = n * (j % k) + k * (n * (j / k)) := by
    rw [← Nat.mul_assoc, Nat.mul_comm k n, Nat.mul_assoc, ← Nat.mul_add, e]
  rw [e2]; omega

/-- Of finitely many numbers one is the greatest. -/
theorem arg_max (f : Nat → Int) : ∀ k, 1 ≤ k → ∃ a, a < k ∧ ∀ i, i < k → f i ≤ f a := by
  intro k hk
  induction k with
  | zero => omega
  | succ k ih =>
    by_cases h0 : k = 0
    · subst h0
      refine ⟨0, by omega, fun i hi => ?_⟩
      obtain rfl : i = 0 := by omega
      exact Int.le_refl _
    · obtain ⟨a, ha, hm⟩ := ih (by omega)
      by_cases h : f a ≤ f k
      · refine ⟨k, by omega, fun i hi => ?_⟩
        by_cases e : i = k
        · subst e; exact Int.le_refl _
        · exact Int.le_trans (hm i (by omega)) h
      · refine ⟨a, by omega, fun i hi => ?_⟩
        by_cases e : i = k
        · subst e; omega
        · exact hm i (by omega)

theorem Enum.even_char {n k s : Nat} {U : Nat → Nat} (h : Enum n k s U) (hn : 1 ≤ n) (hk : 1 ≤ k) (he : EvP n k s) : ∃ m, ∀ i, U i = (n * i + m) / k := by
  obtain ⟨a, ha, hm⟩ := arg_max (fun i => ((k * U i : Nat) : Int) - ((n * i : Nat) : Int)) k hk
  have hm' : ∀ i, k * U i + n * a ≤ k * U a + n * i := by
    intro i
    have h1 := hm (i % k) (Nat.mod_lt _ hk)
    have h2 := h.pers (i % k) (i / k)
    have e := Nat.mod_add_div i k
    rw [e] at h2
    have e2 : n * i = n * (i % k) + k * (n * (i / k)) := by
      rw [← Nat.mul_assoc, Nat.mul_comm k n, Nat.mul_assoc, ← Nat.mul_add, e]
    rw [h2, e2, Nat.mul_add]
    omega
  have h0 := hm' 0
  rw [Nat.mul_zero, Nat.add_zero] at h0
  refine ⟨k * U a - n * a, fun i => ?_⟩
  symm
  have h1 := hm' i
  apply div_is hk
  · omega
  · have h3 : k * U a + n * i < k * U i + n * a + k := by
      by_cases hai : a ≤ i
      · obtain ⟨j, rfl⟩ := Nat.exists_eq_add_of_le hai
        have := (h.nearAll hn hk he a j).2
        rw [Nat.mul_add]; omega
      · obtain ⟨j, rfl⟩ := Nat.exists_eq_add_of_le (show i ≤ a by omega)
        have := (h.nearAll hn hk he i j).1
        rw [Nat.mul_add]; omega
    omega

theorem Enum.even_of {n k s : Nat} {U : Nat → Nat} (h : Enum n k s U) (hn : 1 ≤ n) (hk : 1 ≤ k) {m : Nat} (hU : ∀ i, U i = (n * i + m) / k) : EvP n k s := by
  intro j _ _ d d' hd hd'
  obtain ⟨a, ha⟩ := (h.span hn j d).1 hd
  obtain ⟨b, hb⟩ := (h.span hn j d').1 hd'
  have a1 := div_bd hk (n * a + m)
  have a2 := div_bd hk (n * (a + j) + m)
  have b1 := div_bd hk (n * b + m)
  have b2 := div_bd hk (n * (b + j) + m)
  rw [← hU] at a1 a2 b1 b2
  rw [ha, Nat.mul_add, Nat.mul_add] at a2
  rw [hb, Nat.mul_add, Nat.mul_add] at b2
  apply Nat.le_of_not_lt
  intro hlt
  have : k * (d' + 2) ≤ k * d := Nat.mul_le_mul_left _ (by omega)
  rw [Nat.mul_add] at this
  omega

/-- The scale that division makes. -/
def sprN (n k m : Nat) : Nat := orL (fun i => (i * n + m) / k % n) (List.range k)

theorem sprN_lt {n k m : Nat} (hn : 1 ≤ n) : sprN n k m < 2 ^ n := orL_lt _ _ _ (fun _ _ => Nat.mod_lt _ hn)

theorem sprN_bit {n k m x : Nat} : (sprN n k m).testBit x = true ↔ ∃ i, i < k ∧ (n * i + m) / k % n = x := by
  unfold sprN
  rw [testBit_orL, List.any_eq_true]
  constructor
  · rintro ⟨i, hi, he⟩
    exact ⟨i, List.mem_range.1 hi, by rw [Nat.mul_comm]; exact of_decide_eq_true he⟩
  · rintro ⟨i, hi, he⟩
    exact ⟨i, List.mem_range.2 hi, by rw [Nat.mul_comm i n]; exact decide_eq_true he⟩

theorem spr_enum {n k m : Nat} (hk : 1 ≤ k) (hkn : k ≤ n) : Enum n k (sprN n k m) (fun i => (n * i + m) / k) := by
  have hper : ∀ i q, (n * (i + k * q) + m) / k = (n * i + m) / k + n * q := fun i q => by
    rw [show n * (i + k * q) + m = (n * i + m) + k * (n * q) from by rw [Nat.mul_add, ← Nat.mul_assoc, ← Nat.mul_assoc, Nat.mul_comm n k]; omega, Nat.add_mul_div_left _ _ hk]
  have hle : ∀ i j, i ≤ j → (n * i + m) / k ≤ (n * j + m) / k := fun i j h => Nat.div_le_div_right (by have := Nat.mul_le_mul_left n h; omega)
  refine ⟨fun i => ?_, fun i => ?_, fun i => ?_, fun y hy hb => ?_⟩
  · show (n * i + m) / k < (n * (i + 1) + m) / k
    have : (n * i + m + k) / k ≤ (n * (i + 1) + m) / k := Nat.div_le_div_right (by rw [Nat.mul_succ]; omega)
    rw [Nat.add_div_right _ hk] at this
    omega
  · have := hper i 1
    rwa [Nat.mul_one, Nat.mul_one] at this
  · rw [sprN_bit]
    refine ⟨i % k, Nat.mod_lt _ hk, ?_⟩
    have := hper (i % k) (i / k)
    rw [Nat.mod_add_div] at this
    show _ = (n * i + m) / k % n
    rw [this, Nat.add_mul_mod_self_left]
  · obtain ⟨i, hi, he⟩ := sprN_bit.1 hb
    have hy' : (n * 0 + m) / k ≤ y := hy
    by_cases hc : (n * i + m) / k ≤ y
    · have e1 := Nat.div_add_mod y n
      have e2 := Nat.div_add_mod ((n * i + m) / k) n
      have hq : (n * i + m) / k / n ≤ y / n := Nat.div_le_div_right hc
      refine ⟨i + k * (y / n - (n * i + m) / k / n), ?_⟩
      show (n * (i + k * (y / n - (n * i + m) / k / n)) + m) / k = y
      rw [hper, Nat.mul_sub]
      have := Nat.mul_le_mul_left n hq
      omega
    · exfalso
      have e1 := Nat.div_add_mod y n
      have e2 := Nat.div_add_mod ((n * i + m) / k) n
      have hq : y / n < (n * i + m) / k / n := by
        apply Nat.lt_of_not_le
        intro hle2
        have := Nat.mul_le_mul_left n hle2
        omega
      have h3 := Nat.mul_le_mul_left n (Nat.succ_le_of_lt hq)
      rw [Nat.mul_succ] at h3
      have h4 := hper 0 1
      rw [Nat.mul_one, Nat.mul_one, Nat.zero_add] at h4
      have h5 := hle i (k - 1) (by omega)
      have h6 : (n * (k - 1) + m) / k < (n * k + m) / k := by
        have e : n * k = n * (k - 1) + n := by rw [← Nat.mul_succ]; congr 1; omega
        have h7 : (n * (k - 1) + m + k) / k ≤ (n * k + m) / k := Nat.div_le_div_right (by omega)
        rw [Nat.add_div_right _ hk] at h7
        omega
      omega

/-- Even scales are just those that division makes. -/
theorem even_iff {n s : Nat} (hn : 1 ≤ n) (hs : s < 2 ^ n) (hk : 1 ≤ (tonesB n s).length) : EvP n (tonesB n s).length s ↔ ∃ m, s = sprN n (tonesB n s).length m := by
  have hkn : (tonesB n s).length ≤ n := by
    unfold tonesB
    exact Nat.le_trans (List.length_filter_le _ _) (by simp)
  constructor
  · intro he
    obtain ⟨m, hm⟩ := (tN_enum hk).even_char hn hk he
    refine ⟨m, ?_⟩
    have h1 := tN_enum hk
    rw [show tN n (tonesB n s) = fun i => (n * i + m) / (tonesB n s).length from funext hm] at h1
    exact h1.same (spr_enum hk hkn) hn hs (sprN_lt hn)
  · rintro ⟨m, hm⟩
    have := (spr_enum (m := m) hk hkn).even_of hn hk (fun i => rfl)
    rwa [← hm] at this

theorem spr_later {n k m : Nat} (hk : 1 ≤ k) (hkn : k ≤ n) : sprN n k (m + n) = sprN n k m := by
  have h1 := (spr_enum (m := m) hk hkn).later
  have h2 := spr_enum (m := m + n) hk hkn
  rw [show (fun i => (n * i + (m + n)) / k) = fun i => (n * (i + 1) + m) / k from funext fun i => by rw [Nat.mul_succ]; congr 1; omega] at h2
  exact h2.same h1 (by omega) (sprN_lt (by omega)) (sprN_lt (by omega))

theorem spr_mod {n k : Nat} (hk : 1 ≤ k) (hkn : k ≤ n) (m : Nat) : sprN n k m = sprN n k (m % n) := by
  have key : ∀ q r, sprN n k (r + n * q) = sprN n k r := by
    intro q r
    induction q with
    | zero => rfl
    | succ q ih => rw [Nat.mul_succ, ← Nat.add_assoc, spr_later hk hkn, ih]
  have := key (m / n) (m % n)
  rwa [Nat.mod_add_div] at this

theorem spr_even {n k m : Nat} (hk : 1 ≤ k) (hkn : k ≤ n) : EvP n k (sprN n k m) :=
  (spr_enum (m := m) hk hkn).even_of (by omega) hk (fun _ => rfl)

end Go.Proofs.YtbdmljakdjdjkaaDoor
