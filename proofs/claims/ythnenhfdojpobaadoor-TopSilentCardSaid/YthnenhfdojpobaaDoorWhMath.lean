/-
  Wheels: spectra modulo the prime of a circle. Plain mathematics; no program is spoken of.
-/
import Derived.Test.YthnenhfdojpobaaDoorSumMath
namespace Go.Proofs.YthnenhfdojpobaaDoor

/-- The prime of a circle. -/
def qN (n : Nat) : Nat := [0, 0, 5, 7, 13, 11, 13, 29, 17, 19, 31, 23, 37, 53, 29, 31, 97][n]?.getD 1
/-- The root of a circle. -/
def wN (n : Nat) : Nat := [0, 0, 4, 2, 5, 3, 4, 7, 2, 4, 15, 2, 8, 10, 4, 7, 8][n]?.getD 1
/-- A number of tones of a circle. -/
def Circ (n : Nat) : Prop := 2 ≤ n ∧ n < 17

/-! ### the same modulo q -/
def Md (q a b : Nat) : Prop := a % q = b % q
theorem Md.refl (q a : Nat) : Md q a a := rfl
theorem Md.symm {q a b : Nat} (h : Md q a b) : Md q b a := Eq.symm h
theorem Md.trans {q a b c : Nat} (h : Md q a b) (k : Md q b c) : Md q a c := Eq.trans h k
theorem Md.of_eq {q a b : Nat} (h : a = b) : Md q a b := by rw [h]; exact rfl
theorem Md.mod (q a : Nat) : Md q (a % q) a := Nat.mod_mod a q
theorem Md.add {q a b c d : Nat} (h : Md q a b) (k : Md q c d) : Md q (a + c) (b + d) := by
  unfold Md at *; rw [Nat.add_mod, h, k, ← Nat.add_mod]
theorem Md.mul {q a b c d : Nat} (h : Md q a b) (k : Md q c d) : Md q (a * c) (b * d) := by
  unfold Md at *; rw [Nat.mul_mod, h, k, ← Nat.mul_mod]
theorem Md.pow {q a b : Nat} (h : Md q a b) : ∀ k : Nat, Md q (a ^ k) (b ^ k)
  | 0 => rfl
  | k + 1 => by rw [Nat.pow_succ, Nat.pow_succ]; exact (Md.pow h k).mul h
theorem Md.sum {q n : Nat} {f g : Nat → Nat} (h : ∀ i, i < n → Md q (f i) (g i)) : Md q (sumN n f) (sumN n g) := by
  induction n with
  | zero => exact rfl
  | succ n ih => simp only [sumN]; exact (ih fun i hi => h i (by omega)).add (h n (by omega))
theorem Md.eq {q a b : Nat} (h : Md q a b) (ha : a < q) (hb : b < q) : a = b := by
  unfold Md at h; rwa [Nat.mod_eq_of_lt ha, Nat.mod_eq_of_lt hb] at h
theorem Md.add_left_cancel {q a b c : Nat} (h : Md q (a + b) (a + c)) : Md q b c := by
  unfold Md at *
  rcases Nat.eq_zero_or_pos q with rfl | hq
  · simp only [Nat.mod_zero] at *; omega
  · have e : ∀ x, x % q = ((q - a % q) + (a + x)) % q := fun x => by
      have h1 := Nat.mod_lt a hq
      have h2 := Nat.div_add_mod a q
      have h3 : (q - a % q) + (a + x) = x + q * (a / q + 1) := by rw [Nat.mul_add, Nat.mul_one]; omega
      rw [h3, Nat.add_mul_mod_self_left]
    rw [e b, e c, Nat.add_mod, h, ← Nat.add_mod]
theorem Md.add_right_cancel {q a b c : Nat} (h : Md q (b + a) (c + a)) : Md q b c := by
  rw [Nat.add_comm b, Nat.add_comm c] at h; exact h.add_left_cancel

/-! ### what the tables say, by the kernel -/
theorem tab_all : ∀ n : Nat, n < 17 → 2 ≤ n → 2 * n < qN n ∧ qN n ≤ 97 ∧ 2 ≤ wN n ∧ wN n < qN n ∧ wN n ^ n % qN n = 1 := by decide +kernel
theorem orth_all : ∀ n : Nat, n < 17 → 2 ≤ n → ∀ d : Nat, d < n → d ≠ 0 → sumN n (fun k => wN n ^ (k * d)) % qN n = 0 := by decide +kernel
theorem inv_all : ∀ n : Nat, n < 17 → 2 ≤ n → ∀ x : Nat, x < qN n → x ≠ 0 → x * (x ^ (qN n - 2) % qN n) % qN n = 1 := by decide +kernel

theorem Circ.q_pos {n : Nat} (h : Circ n) : 0 < qN n := by have := (tab_all n h.2 h.1).1; omega
theorem Circ.n_lt {n : Nat} (h : Circ n) : 2 * n < qN n := (tab_all n h.2 h.1).1
theorem Circ.q_le {n : Nat} (h : Circ n) : qN n ≤ 97 := (tab_all n h.2 h.1).2.1
theorem Circ.w_ge {n : Nat} (h : Circ n) : 2 ≤ wN n := (tab_all n h.2 h.1).2.2.1
theorem Circ.w_lt {n : Nat} (h : Circ n) : wN n < qN n := (tab_all n h.2 h.1).2.2.2.1
theorem Circ.pos {n : Nat} (h : Circ n) : 0 < n := by have := h.1; omega

/-- A power of the root tells by what is left of the exponent. -/
theorem pow_md {n : Nat} (h : Circ n) (a : Nat) : Md (qN n) (wN n ^ a) (wN n ^ (a % n)) := by
  have h1 : Md (qN n) (wN n ^ n) 1 := by
    have := (tab_all n h.2 h.1).2.2.2.2
    unfold Md; rw [this, Nat.mod_eq_of_lt (by have := h.n_lt; have := h.1; omega)]
  have e : wN n ^ a = (wN n ^ n) ^ (a / n) * wN n ^ (a % n) := by
    rw [← Nat.pow_mul, ← Nat.pow_add, Nat.div_add_mod]
  rw [e]
  refine ((h1.pow (a / n)).mul (Md.refl _ _)).trans ?_
  rw [Nat.one_pow, Nat.one_mul]; exact rfl
theorem pow_same {n : Nat} (h : Circ n) {a b : Nat} (e : a % n = b % n) : Md (qN n) (wN n ^ a) (wN n ^ b) :=
  (pow_md h a).trans (by rw [e]; exact (pow_md h b).symm)
/-- The powers of a power of the root sum to n, or to nothing. -/
theorem orth {n : Nat} (h : Circ n) (e : Nat) : Md (qN n) (sumN n fun k => wN n ^ (k * e)) (if e % n = 0 then n else 0) := by
  have h1 : Md (qN n) (sumN n fun k => wN n ^ (k * e)) (sumN n fun k => wN n ^ (k * (e % n))) :=
    Md.sum fun k _ => pow_same h (by rw [Nat.mul_mod, Nat.mul_mod k (e % n), Nat.mod_mod])
  refine h1.trans ?_
  by_cases h0 : e % n = 0
  · rw [h0, if_pos rfl]
    refine Md.of_eq ?_
    rw [show (fun k => wN n ^ (k * 0)) = fun _ => 1 from by funext k; simp, sum_const, Nat.mul_one]
  · rw [if_neg h0]
    unfold Md
    rw [orth_all n h.2 h.1 _ (Nat.mod_lt _ h.pos) h0, Nat.zero_mod]

/-! ### wheels -/
/-- A wheel: numbers below the prime; nothing beyond the circle. -/
structure IsWh (n : Nat) (f : Nat → Nat) : Prop where
  lt : ∀ x, f x < qN n
  out : ∀ x, n ≤ x → f x = 0
/-- The spectrum. -/
def spF (n : Nat) (f : Nat → Nat) (k : Nat) : Nat := if k < n then sumN n (fun x => f x * wN n ^ (k * x)) % qN n else 0
/-- Turned. -/
def tuF (n : Nat) (f : Nat → Nat) (k : Nat) : Nat := if k < n then f ((n - k) % n) else 0
/-- Moved. -/
def mvF (n t : Nat) (f : Nat → Nat) (k : Nat) : Nat := if k < n then f ((k + (n - t)) % n) else 0
/-- The product. -/
def tiF (n : Nat) (f g : Nat → Nat) (k : Nat) : Nat := if k < n then sumN n (fun y => f y * g ((k + n - y) % n)) % qN n else 0
/-- The product at each place. -/
def piF (n : Nat) (f g : Nat → Nat) (k : Nat) : Nat := f k * g k % qN n
/-- What undoes a number. -/
def ivN (n x : Nat) : Nat := x ^ (qN n - 2) % qN n
/-- Each number undone. -/
def ivF (n : Nat) (f : Nat → Nat) (k : Nat) : Nat := if k < n then ivN n (f k) else 0
/-- The wheel with a spectrum. -/
def baF (n : Nat) (f : Nat → Nat) (x : Nat) : Nat := tuF n (spF n f) x * ivN n n % qN n
/-- The power. -/
def poF (n : Nat) (f : Nat → Nat) : Nat → Nat := piF n (spF n f) (tuF n (spF n f))
/-- The wheel of a chord. -/
def chF (n c : Nat) (x : Nat) : Nat := if x < n then bI c x else 0

theorem sp_wh {n : Nat} (h : Circ n) (f : Nat → Nat) : IsWh n (spF n f) :=
  ⟨fun x => by unfold spF; split; exact Nat.mod_lt _ h.q_pos; exact h.q_pos, fun x hx => by unfold spF; rw [if_neg (by omega)]⟩
theorem ti_wh {n : Nat} (h : Circ n) (f g : Nat → Nat) : IsWh n (tiF n f g) :=
  ⟨fun x => by unfold tiF; split; exact Nat.mod_lt _ h.q_pos; exact h.q_pos, fun x hx => by unfold tiF; rw [if_neg (by omega)]⟩
theorem tu_wh {n : Nat} (h : Circ n) {f : Nat → Nat} (hf : IsWh n f) : IsWh n (tuF n f) :=
  ⟨fun x => by unfold tuF; split; exact hf.lt _; exact h.q_pos, fun x hx => by unfold tuF; rw [if_neg (by omega)]⟩
theorem mv_wh {n : Nat} (h : Circ n) (t : Nat) {f : Nat → Nat} (hf : IsWh n f) : IsWh n (mvF n t f) :=
  ⟨fun x => by unfold mvF; split; exact hf.lt _; exact h.q_pos, fun x hx => by unfold mvF; rw [if_neg (by omega)]⟩
theorem pi_wh {n : Nat} (h : Circ n) (f : Nat → Nat) {g : Nat → Nat} (hg : IsWh n g) : IsWh n (piF n f g) :=
  ⟨fun _ => Nat.mod_lt _ h.q_pos, fun x hx => by unfold piF; rw [hg.out x hx, Nat.mul_zero, Nat.zero_mod]⟩
theorem iv_wh {n : Nat} (h : Circ n) (f : Nat → Nat) : IsWh n (ivF n f) :=
  ⟨fun x => by unfold ivF ivN; split; exact Nat.mod_lt _ h.q_pos; exact h.q_pos, fun x hx => by unfold ivF; rw [if_neg (by omega)]⟩
theorem ba_wh {n : Nat} (h : Circ n) (f : Nat → Nat) : IsWh n (baF n f) :=
  ⟨fun _ => Nat.mod_lt _ h.q_pos, fun x hx => by unfold baF; rw [(tu_wh h (sp_wh h f)).out x hx, Nat.zero_mul, Nat.zero_mod]⟩
theorem po_wh {n : Nat} (h : Circ n) (f : Nat → Nat) : IsWh n (poF n f) := pi_wh h _ (tu_wh h (sp_wh h f))
theorem bI_le (c x : Nat) : bI c x ≤ 1 := by unfold bI; split <;> omega
theorem ch_wh {n : Nat} (h : Circ n) (c : Nat) : IsWh n (chF n c) :=
  ⟨fun x => by have := bI_le c x; have := h.n_lt; have := h.1; unfold chF; split <;> omega, fun x hx => by unfold chF; rw [if_neg (by omega)]⟩
theorem IsWh.eq {n : Nat} {f g : Nat → Nat} (hf : IsWh n f) (hg : IsWh n g) (e : ∀ k, k < n → Md (qN n) (f k) (g k)) : f = g := by
  funext k
  by_cases hk : k < n
  · exact (e k hk).eq (hf.lt k) (hg.lt k)
  · rw [hf.out k (by omega), hg.out k (by omega)]

theorem sp_md {n k : Nat} (hk : k < n) (f : Nat → Nat) : Md (qN n) (spF n f k) (sumN n fun x => f x * wN n ^ (k * x)) := by
  unfold spF; rw [if_pos hk]; exact Md.mod _ _
theorem ti_md {n k : Nat} (hk : k < n) (f g : Nat → Nat) : Md (qN n) (tiF n f g k) (sumN n fun y => f y * g ((k + n - y) % n)) := by
  unfold tiF; rw [if_pos hk]; exact Md.mod _ _
theorem sp_congr {n : Nat} {f g : Nat → Nat} (h : ∀ x, x < n → Md (qN n) (f x) (g x)) : spF n f = spF n g := by
  funext k
  unfold spF
  by_cases hk : k < n
  · rw [if_pos hk, if_pos hk]
    exact Md.sum (fun x hx => (h x hx).mul (Md.refl _ _))
  · rw [if_neg hk, if_neg hk]
theorem tu_at {n k : Nat} (hk : k < n) (f : Nat → Nat) : tuF n f k = f ((n - k) % n) := by unfold tuF; rw [if_pos hk]

/-- The sum of all that is left where only one place counts. -/
theorem sum_pick {n j : Nat} (hj : j < n) (f : Nat → Nat) (c : Nat → Nat → Nat) (hc : ∀ i, i < n → c i j = if i = j then 1 else 0) : sumN n (fun i => f i * c i j) = f j := by
  rw [sum_congr (g := fun i => if i = j then f i else 0) (fun i hi => by rw [hc i hi]; split <;> simp), sum_single, if_pos hj]

theorem mod_zero_iff {n x y : Nat} (hx : x < n) (hy : y < n) : (y + (n - x)) % n = 0 ↔ y = x := by
  constructor
  · intro e
    by_cases h : x ≤ y
    · rw [show y + (n - x) = (y - x) + n from by omega, Nat.add_mod_right, Nat.mod_eq_of_lt (by omega)] at e; omega
    · rw [Nat.mod_eq_of_lt (by omega)] at e; omega
  · rintro rfl
    rw [show y + (n - y) = n from by omega, Nat.mod_self]

/-- Twice the spectrum: n times the wheel, turned. -/
theorem twice {n x : Nat} (h : Circ n) (hx : x < n) (f : Nat → Nat) : Md (qN n) (sumN n fun k => spF n f k * wN n ^ (k * (n - x))) (f x * n) := by
  have h1 : Md (qN n) (sumN n fun k => spF n f k * wN n ^ (k * (n - x))) (sumN n fun k => sumN n fun y => f y * wN n ^ (k * (y + (n - x)))) := by
    refine Md.sum fun k hk => ((sp_md hk f).mul (Md.refl _ _)).trans (Md.of_eq ?_)
    rw [Nat.mul_comm, ← sum_mul]
    refine sum_congr fun y _ => ?_
    rw [Nat.mul_comm, Nat.mul_assoc, ← Nat.pow_add, Nat.mul_add]
  refine h1.trans ?_
  rw [sum_swap]
  have h2 : Md (qN n) (sumN n fun y => sumN n fun k => f y * wN n ^ (k * (y + (n - x)))) (sumN n fun y => if y = x then f y * n else 0) := by
    refine Md.sum fun y hy => ?_
    rw [sum_mul]
    refine ((Md.refl _ (f y)).mul (orth h (y + (n - x)))).trans (Md.of_eq ?_)
    by_cases e : y = x
    · rw [if_pos ((mod_zero_iff hx hy).2 e), if_pos e]
    · rw [if_neg (fun k => e ((mod_zero_iff hx hy).1 k)), if_neg e, Nat.mul_zero]
  refine h2.trans (Md.of_eq ?_)
  rw [sum_single, if_pos hx]

theorem sub_mod_mul {n x : Nat} (k : Nat) : ((n - x) % n * k) % n = (k * (n - x)) % n := by
  rw [Nat.mul_comm, Nat.mul_mod, Nat.mod_mod, ← Nat.mul_mod]

/-- Back of Spectrum. -/
theorem back_spec {n : Nat} (h : Circ n) {f : Nat → Nat} (hf : IsWh n f) : baF n (spF n f) = f := by
  refine (ba_wh h _).eq hf fun x hx => ?_
  unfold baF
  refine (Md.mod _ _).trans ?_
  rw [tu_at hx]
  have h1 : Md (qN n) (spF n (spF n f) ((n - x) % n)) (f x * n) := by
    refine (sp_md (Nat.mod_lt _ h.pos) _).trans ?_
    refine (Md.sum fun k _ => (Md.refl _ (spF n f k)).mul (pow_same h (sub_mod_mul k))).trans (twice h hx f)
  refine (h1.mul (Md.refl _ _)).trans ?_
  rw [Nat.mul_assoc]
  have h2 : Md (qN n) (n * ivN n n) 1 := by
    have := h.n_lt
    have hn := h.1
    unfold Md ivN
    rw [inv_all n h.2 h.1 n (by omega) (by omega), Nat.mod_eq_of_lt (by omega)]
  exact ((Md.refl _ (f x)).mul h2).trans (Md.of_eq (Nat.mul_one _))

/-- Spectra tell the wheels. -/
theorem spec_inj {n : Nat} (h : Circ n) {f g : Nat → Nat} (hf : IsWh n f) (hg : IsWh n g) (e : ∀ k, k < n → spF n f k = spF n g k) : f = g := by
  have : spF n f = spF n g := (sp_wh h f).eq (sp_wh h g) fun k hk => Md.of_eq (e k hk)
  rw [← back_spec h hf, this, back_spec h hg]

/-- Spectrum of Back. -/
theorem spec_back {n : Nat} (h : Circ n) {f : Nat → Nat} (hf : IsWh n f) : spF n (baF n f) = f := by
  refine (sp_wh h _).eq hf fun x hx => ?_
  refine (sp_md hx _).trans ?_
  have h1 : Md (qN n) (sumN n fun y => baF n f y * wN n ^ (x * y)) (sumN n fun y => ivN n n * (sumN n fun k => f k * wN n ^ (y * (x + (n - k))))) := by
    refine Md.sum fun y hy => ?_
    have h2 : Md (qN n) (baF n f y) ((sumN n fun k => f k * wN n ^ (y * (n - k))) * ivN n n) := by
      unfold baF
      refine (Md.mod _ _).trans (Md.mul ?_ (Md.refl _ _))
      rw [tu_at hy]
      refine (sp_md (Nat.mod_lt _ h.pos) _).trans (Md.sum fun k hk => (Md.refl _ _).mul (pow_same h ?_))
      rw [sub_mod_mul, Nat.mul_sub, Nat.mul_sub]
      have e1 : (k * n - k * y) % n = ((y * n - y * k)) % n := by
        have a1 : k * y ≤ k * n := Nat.mul_le_mul_left _ (by omega)
        have a2 : y * k ≤ y * n := Nat.mul_le_mul_left _ (by omega)
        have a3 : k * y = y * k := Nat.mul_comm _ _
        have e : (k * n - k * y) + y * n = (y * n - y * k) + k * n := by omega
        have e2 := congrArg (· % n) e
        simpa [Nat.add_mul_mod_self_right] using e2
      exact e1
    refine (h2.mul (Md.refl _ _)).trans (Md.of_eq ?_)
    rw [Nat.mul_comm _ (ivN n n), Nat.mul_assoc]
    congr 1
    rw [Nat.mul_comm, ← sum_mul]
    refine sum_congr fun k _ => ?_
    rw [Nat.mul_comm, Nat.mul_assoc, ← Nat.pow_add, Nat.mul_add, Nat.mul_comm x y, Nat.add_comm]
  refine h1.trans ?_
  rw [sum_mul, sum_swap]
  have h3 : Md (qN n) (sumN n fun k => sumN n fun y => f k * wN n ^ (y * (x + (n - k)))) (f x * n) := by
    refine (Md.sum (g := fun k => if k = x then f k * n else 0) fun k hk => ?_).trans (Md.of_eq ?_)
    · rw [sum_mul]
      refine ((Md.refl _ (f k)).mul (orth h _)).trans (Md.of_eq ?_)
      by_cases e : k = x
      · rw [if_pos ((mod_zero_iff hk hx).2 e.symm), if_pos e]
      · rw [if_neg (fun e2 => e ((mod_zero_iff hk hx).1 e2).symm), if_neg e, Nat.mul_zero]
    · rw [sum_single, if_pos hx]
  refine ((Md.refl _ _).mul h3).trans ?_
  have h2 : Md (qN n) (n * ivN n n) 1 := by
    have := h.n_lt
    have hn := h.1
    unfold Md ivN
    rw [inv_all n h.2 h.1 n (by omega) (by omega), Nat.mod_eq_of_lt (by omega)]
  have e4 : ivN n n * (f x * n) = f x * (n * ivN n n) := by rw [Nat.mul_comm, Nat.mul_assoc]
  rw [e4]
  exact ((Md.refl _ (f x)).mul h2).trans (Md.of_eq (Nat.mul_one _))

/-- The spectrum of a product. -/
theorem conv {n k : Nat} (h : Circ n) (hk : k < n) (f g : Nat → Nat) : spF n (tiF n f g) k = spF n f k * spF n g k % qN n := by
  refine Md.eq ?_ ((sp_wh h _).lt _) (Nat.mod_lt _ h.q_pos)
  refine (sp_md hk _).trans ?_
  have h1 : Md (qN n) (sumN n fun z => tiF n f g z * wN n ^ (k * z)) (sumN n fun z => sumN n fun y => f y * (g ((z + n - y) % n) * wN n ^ (k * z))) := by
    refine Md.sum fun z hz => ((ti_md hz f g).mul (Md.refl _ _)).trans (Md.of_eq ?_)
    rw [Nat.mul_comm, ← sum_mul]
    refine sum_congr fun y _ => ?_
    rw [Nat.mul_comm, Nat.mul_assoc]
  refine h1.trans ?_
  rw [sum_swap]
  have h2 : Md (qN n) (sumN n fun y => sumN n fun z => f y * (g ((z + n - y) % n) * wN n ^ (k * z))) (sumN n fun y => f y * wN n ^ (k * y) * sumN n fun z => g z * wN n ^ (k * z)) := by
    refine Md.sum fun y hy => ?_
    rw [sum_mul, Nat.mul_assoc]
    refine (Md.refl _ (f y)).mul ?_
    have e1 : Md (qN n) (sumN n fun z => g ((z + n - y) % n) * wN n ^ (k * z)) (sumN n fun z => (fun u => g u * wN n ^ (k * (u + y))) ((z + (n - y) % n) % n)) := by
      refine Md.sum fun z hz => ?_
      have e2 : (z + (n - y) % n) % n = (z + n - y) % n := by
        rw [Nat.add_mod_mod, show z + (n - y) = z + n - y from by omega]
      show Md _ _ (g ((z + (n - y) % n) % n) * wN n ^ (k * ((z + (n - y) % n) % n + y)))
      rw [e2]
      refine (Md.refl _ _).mul (pow_same h ?_)
      rw [Nat.mul_mod, Nat.mul_mod k ((z + n - y) % n + y)]
      congr 2
      rw [Nat.mod_add_mod, show z + n - y + y = z + n from by omega, Nat.add_mod_right]
    refine e1.trans (Md.of_eq ?_)
    rw [sum_move n ((n - y) % n) (Nat.mod_lt _ h.pos) (fun u => g u * wN n ^ (k * (u + y)))]
    rw [← sum_mul]
    refine sum_congr fun z _ => ?_
    rw [Nat.mul_add, Nat.pow_add, ← Nat.mul_assoc, Nat.mul_comm]
  refine h2.trans ?_
  have e3 : (sumN n fun y => f y * wN n ^ (k * y) * sumN n fun z => g z * wN n ^ (k * z)) = (sumN n fun y => f y * wN n ^ (k * y)) * sumN n fun z => g z * wN n ^ (k * z) := by
    rw [Nat.mul_comm, ← sum_mul]
    exact sum_congr fun y _ => Nat.mul_comm _ _
  rw [e3]
  exact ((sp_md hk f).mul (sp_md hk g)).symm.trans (Md.mod _ _).symm

/-- The product in the other order. -/
theorem ti_comm {n : Nat} (h : Circ n) (f g : Nat → Nat) : tiF n f g = tiF n g f :=
  spec_inj h (ti_wh h f g) (ti_wh h g f) fun k hk => by rw [conv h hk, conv h hk, Nat.mul_comm]
/-- The spectrum of a sum. -/
theorem sp_add {n k : Nat} (h : Circ n) (hk : k < n) (f g : Nat → Nat) : spF n (fun x => (f x + g x) % qN n) k = (spF n f k + spF n g k) % qN n := by
  refine Md.eq ?_ ((sp_wh h _).lt _) (Nat.mod_lt _ h.q_pos)
  refine (sp_md hk _).trans ?_
  refine ((Md.sum fun x _ => (Md.mod _ (f x + g x)).mul (Md.refl _ _)).trans (Md.of_eq ?_)).trans (((sp_md hk f).add (sp_md hk g)).symm.trans (Md.mod _ _).symm)
  rw [← sum_add]
  exact sum_congr fun x _ => Nat.add_mul _ _ _
/-- The spectrum of what is moved. -/
theorem sp_move {n k t : Nat} (h : Circ n) (hk : k < n) (ht : t < n) (f : Nat → Nat) : Md (qN n) (spF n (mvF n t f) k) (spF n f k * wN n ^ (k * t)) := by
  refine (sp_md hk _).trans ?_
  have e1 : Md (qN n) (sumN n fun z => mvF n t f z * wN n ^ (k * z)) (sumN n fun z => (fun u => f u * wN n ^ (k * (u + t))) ((z + (n - t) % n) % n)) := by
    refine Md.sum fun z hz => ?_
    have e2 : (z + (n - t) % n) % n = (z + (n - t)) % n := by rw [Nat.add_mod_mod]
    show Md _ _ (f ((z + (n - t) % n) % n) * wN n ^ (k * ((z + (n - t) % n) % n + t)))
    rw [e2]
    unfold mvF
    rw [if_pos hz]
    refine (Md.refl _ _).mul (pow_same h ?_)
    rw [Nat.mul_mod, Nat.mul_mod k ((z + (n - t)) % n + t)]
    congr 2
    rw [Nat.mod_add_mod, show z + (n - t) + t = z + n from by omega, Nat.add_mod_right]
  refine e1.trans ?_
  rw [sum_move n ((n - t) % n) (Nat.mod_lt _ h.pos) (fun u => f u * wN n ^ (k * (u + t)))]
  refine (Md.of_eq ?_).trans ((sp_md hk f).symm.mul (Md.refl _ _))
  rw [Nat.mul_comm, ← sum_mul]
  refine sum_congr fun z _ => ?_
  rw [Nat.mul_add, Nat.pow_add, ← Nat.mul_assoc, Nat.mul_comm]
/-- The spectrum of what is turned. -/
theorem sp_turn {n k : Nat} (h : Circ n) (hk : k < n) (f : Nat → Nat) : spF n (tuF n f) k = spF n f ((n - k) % n) := by
  refine Md.eq ?_ ((sp_wh h _).lt _) ((sp_wh h _).lt _)
  refine (sp_md hk _).trans ?_
  refine Md.trans ?_ (sp_md (Nat.mod_lt _ h.pos) f).symm
  have e0 : sumN n (fun x => f x * wN n ^ ((n - k) % n * x)) = sumN n (fun x => (fun u => f u * wN n ^ ((n - k) % n * u)) ((n - x) % n)) := by
    refine (sum_perm n (fun i => (n - i) % n) (fun i => (n - i) % n) (fun i _ => Nat.mod_lt _ h.pos) (fun i _ => Nat.mod_lt _ h.pos) ?_ ?_ _).symm
    all_goals
      intro i hi
      show (n - (n - i) % n) % n = i
      rcases Nat.eq_zero_or_pos i with rfl | h0
      · simp
      · rw [Nat.mod_eq_of_lt (show n - i < n by omega), show n - (n - i) = i from by omega, Nat.mod_eq_of_lt hi]
  rw [e0]
  refine Md.sum fun x hx => ?_
  rw [tu_at hx]
  refine (Md.refl _ _).mul (pow_same h ?_)
  have a : ((n - k) % n * ((n - x) % n)) % n = ((n - k) * (n - x)) % n := by rw [← Nat.mul_mod]
  rw [a]
  have b : (n - k) * (n - x) + n * k + n * x = k * x + n * n := by
    obtain ⟨k', rfl⟩ : ∃ k', n = k + k' := ⟨n - k, by omega⟩
    obtain ⟨x', hx'⟩ : ∃ x', k + k' = x + x' := ⟨k + k' - x, by omega⟩
    rw [show k + k' - k = k' from by omega, show k + k' - x = x' from by omega]
    have e1 : (k + k') * (k + k') = (k + k') * x + (k + k') * x' := by rw [hx', ← Nat.mul_add]
    rw [e1]
    have e2 : (k + k') * x' = k * x' + k' * x' := Nat.add_mul _ _ _
    have e3 : (k + k') * k = k * (x + x') := by rw [hx', Nat.mul_comm]
    rw [e2, e3, Nat.mul_add]
    omega
  have c := congrArg (· % n) b
  simp only [Nat.add_mul_mod_self_left] at c
  exact c.symm

theorem po_at {n k : Nat} (hk : k < n) (f : Nat → Nat) : poF n f k = spF n f k * spF n f ((n - k) % n) % qN n := by
  unfold poF piF; rw [tu_at hk]
/-- Moving does not change the power. -/
theorem po_move {n t : Nat} (h : Circ n) (ht : t < n) (f : Nat → Nat) : poF n (mvF n t f) = poF n f := by
  refine (po_wh h _).eq (po_wh h _) fun k hk => ?_
  rw [po_at hk, po_at hk]
  refine (Md.mod _ _).trans (Md.trans ?_ (Md.mod _ _).symm)
  refine ((sp_move h hk ht f).mul (sp_move h (Nat.mod_lt _ h.pos) ht f)).trans ?_
  have e : spF n f k * wN n ^ (k * t) * (spF n f ((n - k) % n) * wN n ^ ((n - k) % n * t)) = spF n f k * spF n f ((n - k) % n) * wN n ^ (k * t + (n - k) % n * t) := by
    rw [Nat.pow_add, Nat.mul_assoc, Nat.mul_left_comm (wN n ^ (k * t)), ← Nat.mul_assoc]
  rw [e]
  have e2 : Md (qN n) (wN n ^ (k * t + (n - k) % n * t)) 1 := by
    refine (pow_same h (b := 0) ?_).trans (Md.of_eq (Nat.pow_zero _))
    rw [← Nat.add_mul, Nat.mul_mod, Nat.add_mod_mod, show k + (n - k) = n from by omega, Nat.mod_self]; simp
  exact ((Md.refl _ _).mul e2).trans (Md.of_eq (Nat.mul_one _))
theorem neg_neg {n k : Nat} (hk : k < n) : (n - (n - k) % n) % n = k := by
  rcases Nat.eq_zero_or_pos k with rfl | h0
  · simp
  · rw [Nat.mod_eq_of_lt (show n - k < n by omega), show n - (n - k) = k from by omega, Nat.mod_eq_of_lt hk]
/-- Nor does turning. -/
theorem po_turn {n : Nat} (h : Circ n) (f : Nat → Nat) : poF n (tuF n f) = poF n f := by
  refine (po_wh h _).eq (po_wh h _) fun k hk => Md.of_eq ?_
  rw [po_at hk, po_at hk, sp_turn h hk, sp_turn h (Nat.mod_lt _ h.pos), neg_neg hk, Nat.mul_comm]

/-- How a wheel goes with itself, moved. -/
def auF (n : Nat) (f : Nat → Nat) (d : Nat) : Nat := if d < n then sumN n (fun x => f x * f ((x + d) % n)) else 0
/-- The power is the spectrum of that. -/
theorem po_aut {n : Nat} (h : Circ n) (f : Nat → Nat) : poF n f = spF n (auF n f) := by
  refine (po_wh h _).eq (sp_wh h _) fun k hk => ?_
  rw [po_at hk]
  refine (Md.mod _ _).trans (Md.trans ?_ (sp_md hk _).symm)
  rw [Nat.mul_comm]
  refine ((sp_md (Nat.mod_lt _ h.pos) f).mul (sp_md hk f)).trans ?_
  have h1 : (sumN n fun x => f x * wN n ^ ((n - k) % n * x)) * (sumN n fun y => f y * wN n ^ (k * y)) = sumN n fun x => f x * wN n ^ ((n - k) % n * x) * sumN n fun y => f y * wN n ^ (k * y) := by
    rw [Nat.mul_comm, ← sum_mul]
    exact sum_congr fun x _ => Nat.mul_comm _ _
  rw [h1]
  have h2 : (sumN n fun d => auF n f d * wN n ^ (k * d)) = sumN n fun x => sumN n fun d => f x * f ((x + d) % n) * wN n ^ (k * d) := by
    rw [sum_swap]
    refine sum_congr fun d hd => ?_
    unfold auF
    rw [if_pos hd, Nat.mul_comm, ← sum_mul]
    exact sum_congr fun x _ => Nat.mul_comm _ _
  rw [h2]
  refine Md.sum fun x hx => ?_
  have h3 : sumN n (fun y => f y * wN n ^ (k * y)) = sumN n (fun d => (fun y => f y * wN n ^ (k * y)) ((d + x) % n)) := (sum_move n x hx _).symm
  rw [h3, ← sum_mul]
  refine Md.sum fun d hd => ?_
  show Md (qN n) (f x * wN n ^ ((n - k) % n * x) * (f ((d + x) % n) * wN n ^ (k * ((d + x) % n)))) _
  have e : f x * wN n ^ ((n - k) % n * x) * (f ((d + x) % n) * wN n ^ (k * ((d + x) % n))) = f x * f ((x + d) % n) * wN n ^ ((n - k) % n * x + k * ((d + x) % n)) := by
    rw [Nat.pow_add, Nat.mul_assoc, Nat.mul_left_comm (wN n ^ ((n - k) % n * x)), ← Nat.mul_assoc, Nat.add_comm d x]
  rw [e]
  refine (Md.refl _ _).mul (pow_same h ?_)
  have a : ((n - k) % n * x + k * ((d + x) % n)) % n = ((n - k) * x + k * (d + x)) % n := by
    rw [Nat.add_mod, Nat.mul_mod, Nat.mod_mod, ← Nat.mul_mod, Nat.mul_mod k, Nat.mod_mod, ← Nat.mul_mod, ← Nat.add_mod]
  have b : (n - k) * x + k * (d + x) = k * d + n * x := by
    rw [Nat.mul_add, Nat.sub_mul]
    have : k * x ≤ n * x := Nat.mul_le_mul_right _ (by omega)
    omega
  rw [a, b, Nat.add_mul_mod_self_left]
/-- The energy. -/
theorem energy {n : Nat} (h : Circ n) (f : Nat → Nat) : Md (qN n) (sumN n (poF n f)) (n * sumN n fun x => f x * f x) := by
  have h1 := twice h (x := 0) h.pos (auF n f)
  have h2 : Md (qN n) (sumN n fun k => spF n (auF n f) k * wN n ^ (k * (n - 0))) (sumN n (poF n f)) := by
    rw [po_aut h]
    refine Md.sum fun k _ => ?_
    refine ((Md.refl _ _).mul (pow_same h (b := 0) (by simp))).trans (Md.of_eq ?_)
    rw [Nat.pow_zero, Nat.mul_one]
  refine (h2.symm.trans h1).trans (Md.of_eq ?_)
  unfold auF
  rw [if_pos h.pos, Nat.mul_comm]
  congr 1
  exact sum_congr fun x hx => by rw [Nat.add_zero, Nat.mod_eq_of_lt hx]
end Go.Proofs.YthnenhfdojpobaaDoor
