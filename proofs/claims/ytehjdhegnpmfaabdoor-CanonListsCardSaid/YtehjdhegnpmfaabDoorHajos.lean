/-
  Two rhythms that fill a circle of p^a times m beats, the first of a power of p beats: one of them repeats. Plain mathematics.
-/
import Derived.Test.YtehjdhegnpmfaabDoorGrid
namespace Go.Proofs.YtehjdhegnpmfaabDoor

structure Spl (n p a N P0 m E F : Nat) : Prop where
  prm : Prm p
  pow : N = p ^ a
  mul : N = p * P0
  pos : 1 ≤ P0
  one : 1 ≤ m
  all : n = N * m
  e1 : E % N = 1 % N
  e0 : E % m = 0
  f0 : F % N = 0
  f1 : F % m = 1 % m
  ef : (E + F) % n = 1 % n
  inv : ∀ w, w < m → w ≠ 0 → ∃ w', w' < m ∧ w * w' % m = 1

/-- A function around the circle, as one of two places. -/
def bet (E F : Nat) (h : Nat → Nat) (u i : Nat) : Int := (h (E * i + F * u) : Int)

section
variable {n p a N P0 m E F : Nat}

theorem Spl.two (s : Spl n p a N P0 m E F) : 2 ≤ p ∧ P0 < N ∧ 2 ≤ N := by
  have h1 := s.prm.1
  have h2 := Nat.mul_le_mul_right P0 h1
  have h3 := s.mul
  have h4 := s.pos
  omega

theorem bet_N (s : Spl n p a N P0 m E F) {h : Nat → Nat} (hh : Peri n h) (u : Nat) : PeriZ N (bet E F h u) := fun i => by
  obtain ⟨e, he⟩ := Nat.dvd_of_mod_eq_zero s.e0
  unfold bet
  rw [show E * (i + N) + F * u = E * i + F * u + n * e from by
    rw [Nat.mul_add, s.all, show E * N = N * m * e from by rw [he, Nat.mul_comm, Nat.mul_assoc]]; omega, hh.mul]
theorem bet_m (s : Spl n p a N P0 m E F) {h : Nat → Nat} (hh : Peri n h) (i : Nat) : PeriZ m (fun u => bet E F h u i) := fun u => by
  obtain ⟨e, he⟩ := Nat.dvd_of_mod_eq_zero s.f0
  show bet E F h (u + m) i = bet E F h u i
  unfold bet
  rw [show E * i + F * (u + m) = E * i + F * u + n * e from by
    rw [Nat.mul_add, s.all, show F * m = N * m * e from by rw [he, Nat.mul_assoc, Nat.mul_assoc, Nat.mul_comm e]]; omega, hh.mul]
theorem bet_both (s : Spl n p a N P0 m E F) {h : Nat → Nat} (hh : Peri n h) (i : Nat) : bet E F h i i = (h i : Int) := by
  unfold bet
  congr 1
  rw [← Nat.add_mul, ← hh.mod, Nat.mul_mod, s.ef, ← Nat.mul_mod, Nat.one_mul, hh.mod]

theorem spl_cop (s : Spl n p a N P0 m E F) (r : Nat) {k : Nat} (hk : k ∣ N) : Nat.gcd (E + r * F) k = 1 := by
  have h2 := s.two
  have h1 : (E + r * F) % N = 1 := by
    rw [Nat.add_mod, Nat.mul_mod, s.f0, Nat.mul_zero, Nat.zero_mod, Nat.add_zero, s.e1, Nat.mod_mod, Nat.mod_eq_of_lt (by omega)]
  have h3 : Nat.gcd N (E + r * F) = 1 := by rw [Nat.gcd_rec, h1, Nat.gcd_one_left]
  have h4 : Nat.Coprime (E + r * F) N := by rw [Nat.coprime_iff_gcd_eq_one, Nat.gcd_comm]; exact h3
  exact Nat.Coprime.coprime_dvd_right hk h4

/-- The sum over the classes, for each turn of the second place. -/
theorem star (s : Spl n p a N P0 m E F) {h : Nat → Nat} (hh : Peri n h) {l : List Nat} (ht : ∀ i, act l h i = 1) (hl : l.length ∣ N) (r u i : Nat) :
    sumZ m (fun v => corZ N (alph N m l v) (bet E F h (u + r * v)) i) = 1 := by
  have h2 := s.two
  have hm := s.one
  have hn : 1 ≤ n := by rw [s.all]; exact Nat.mul_pos (by omega) (by omega)
  have hE : 1 ≤ E := by
    rcases Nat.eq_zero_or_pos E with e | e
    · have := s.e1
      rw [e, Nat.zero_mod, Nat.mod_eq_of_lt (by omega)] at this
      omega
    · exact e
  have h1 := tile_timesL hn hh ht (E + r * F) (by omega) (spl_cop s r hl) (E * i + F * u)
  have h3 := act_lsum l (E + r * F) h (E * i + F * u)
  rw [h1] at h3
  have h4 : ∀ x, (h (E * i + F * u + (E + r * F) * x) : Int) = bet E F h (u + r * (x % m)) (i + x % N) := fun x => by
    have e1 : E * i + F * u + (E + r * F) * x = E * (i + x) + F * (u + r * x) := by
      rw [Nat.mul_add, Nat.mul_add, Nat.add_mul, Nat.mul_left_comm F r x, Nat.mul_assoc r F x]; omega
    rw [e1]
    show bet E F h (u + r * x) (i + x) = _
    have e2 := (bet_N s hh (u + r * x)).mul (x / N) (i + x % N)
    have e3 := (bet_m s hh (i + x % N)).mul (r * (x / m)) (u + r * (x % m))
    have e4 : i + x % N + x / N * N = i + x := by have := Nat.mod_add_div x N; rw [Nat.mul_comm] at this; omega
    have e5 : u + r * (x % m) + r * (x / m) * m = u + r * x := by
      have := Nat.mod_add_div x m
      rw [Nat.mul_assoc, Nat.add_assoc, ← Nat.mul_add, Nat.mul_comm (x / m), this]
    rw [e4] at e2
    change bet E F h (u + r * (x % m) + r * (x / m) * m) (i + x % N) = bet E F h (u + r * (x % m)) (i + x % N) at e3
    rw [e5] at e3
    rw [e2, e3]
  rw [lsum_congr h4, grid (by omega) hm (fun j v => bet E F h (u + r * v) (i + j))] at h3
  exact h3.symm

theorem sum_steps (s : Spl n p a N P0 m E F) {f : Nat → Int} (hf : PeriZ m f) (u w : Nat) (hw : w % m ≠ 0) : sumZ m (fun r => f (u + r * w)) = sumZ m f := by
  have hm := s.one
  have hwm : w % m < m := Nat.mod_lt _ (by omega)
  obtain ⟨w', hw', e⟩ := s.inv (w % m) hwm hw
  have key : ∀ x y i, i < m → x * y % m = 1 → (i * x % m) * y % m = i := fun x y i hi e => by
    rw [Nat.mul_mod, Nat.mod_mod, ← Nat.mul_mod, Nat.mul_assoc, Nat.mul_mod, e, Nat.mul_one, Nat.mod_mod, Nat.mod_eq_of_lt hi]
  have h1 := sumZ_perm m (fun r => r * (w % m) % m) (fun r => r * w' % m) (fun _ _ => Nat.mod_lt _ (by omega)) (fun _ _ => Nat.mod_lt _ (by omega)) (fun i hi => key _ _ i hi e) (fun i hi => key _ _ i hi (by rw [Nat.mul_comm]; exact e)) (fun x => f (x + u))
  rw [sumZ_shift hf u] at h1
  rw [← h1]
  refine sumZ_congr (fun r _ => ?_)
  rw [← hf.mod (u + r * w), ← hf.mod (r * (w % m) % m + u)]
  congr 1
  rw [Nat.mod_add_mod, Nat.add_comm, Nat.add_mod, Nat.mul_mod r w, ← Nat.add_mod]
  rw [Nat.add_mod (r * (w % m)), Nat.mul_mod r (w % m), Nat.mod_mod]
  rw [← Nat.add_mod]

/-- One class by what is left of the mean: nothing. -/
theorem mean (s : Spl n p a N P0 m E F) {h : Nat → Nat} (hh : Peri n h) {l : List Nat} (ht : ∀ i, act l h i = 1) (hl : l.length ∣ N) {v0 : Nat} (hv : v0 < m) (u i : Nat) :
    corZ N (alph N m l v0) (fun j => (m : Int) * bet E F h u j - sumZ m (fun t => bet E F h t j)) i = 0 := by
  have hm := s.one
  obtain ⟨S, hS⟩ : ∃ S : Nat → Int, S = fun j => sumZ m (fun t => bet E F h t j) := ⟨_, rfl⟩
  have T2 : sumZ m (fun v => corZ N (alph N m l v) S i) = m := by
    rw [hS, sumZ_congr (fun v _ => cor_sumZ (alph N m l v) (fun t => bet E F h t) i), sumZ_swap, sumZ_congr (g := fun _ => 1) (fun t _ => ?_), sumZ_const, Int.mul_one]
    have := star s hh ht hl 0 t i
    simpa using this
  have T1 : sumZ m (fun v => corZ N (alph N m l v) (fun j => if v = v0 then (m : Int) * bet E F h u j else S j) i) = m := by
    have e1 : sumZ m (fun r => sumZ m (fun v => corZ N (alph N m l v) (bet E F h (u + r * (m - v0) + r * v)) i)) = m := by
      rw [sumZ_congr (g := fun _ => 1) (fun r _ => star s hh ht hl r (u + r * (m - v0)) i), sumZ_const, Int.mul_one]
    rw [sumZ_swap] at e1
    refine Eq.trans ?_ e1
    refine sumZ_congr (fun v hvm => ?_)
    rw [← cor_sumZ (alph N m l v) (fun r => bet E F h (u + r * (m - v0) + r * v)) i]
    refine cor_congr (fun j => ?_) i
    by_cases e : v = v0
    · have q : sumZ m (fun r => bet E F h (u + r * (m - v0) + r * v0) j) = m * bet E F h u j := by
        rw [sumZ_congr (g := fun _ => bet E F h u j) (fun r _ => by
          have := (bet_m s hh j).mul r u
          rw [Nat.add_assoc, ← Nat.mul_add, show m - v0 + v0 = m from by omega]
          exact this), sumZ_const]
      rw [if_pos e, e, q]
    · rw [if_neg e, hS]
      have := sum_steps s (bet_m s hh j) u (m - v0 + v) (fun e2 => by
        by_cases hlt : m - v0 + v < m
        · rw [Nat.mod_eq_of_lt hlt] at e2; omega
        · rw [Nat.mod_eq_sub_mod (by omega), Nat.mod_eq_of_lt (by omega)] at e2; omega)
      show sumZ m (fun t => bet E F h t j) = _
      rw [← this]
      refine sumZ_congr (fun r _ => ?_)
      rw [Nat.add_assoc, ← Nat.mul_add]
  have T3 : sumZ m (fun v => if v = v0 then corZ N (alph N m l v0) (fun j => (m : Int) * bet E F h u j - S j) i else 0) = 0 := by
    have e2 : sumZ m (fun v => corZ N (alph N m l v) (fun j => if v = v0 then (m : Int) * bet E F h u j else S j) i - corZ N (alph N m l v) S i) = 0 := by
      rw [sumZ_sub, T1, T2]; omega
    rw [← e2]
    refine sumZ_congr (fun v _ => ?_)
    by_cases e : v = v0
    · subst e
      rw [if_pos rfl, cor_sub, cor_congr (g := fun j => if v = v then (m : Int) * bet E F h u j else S j) (fun j => if_pos rfl)]
    · rw [if_neg e, cor_congr (g := fun j => if v = v0 then (m : Int) * bet E F h u j else S j) (fun j => if_neg e)]; omega
  rw [sumZ_single hv (fun _ => corZ N (alph N m l v0) (fun j => (m : Int) * bet E F h u j - S j) i)] at T3
  rw [hS] at T3
  exact T3

theorem sumZ_le {k : Nat} {f : Nat → Int} (h : ∀ i, i < k → 0 ≤ f i) : 0 ≤ sumZ k f := by
  induction k with
  | zero => exact Int.le_refl 0
  | succ k ih => simp only [sumZ]; have := ih (fun i hi => h i (by omega)); have := h k (by omega); omega
theorem sumZ_one {k : Nat} {f : Nat → Int} (h : ∀ i, i < k → 0 ≤ f i) {i : Nat} (hi : i < k) : f i ≤ sumZ k f := by
  induction k with
  | zero => omega
  | succ k ih =>
    simp only [sumZ]
    have h0 := h k (by omega)
    by_cases e : i = k
    · subst e; have := sumZ_le (fun j hj => h j (by omega) : ∀ j, j < i → 0 ≤ f j); omega
    · have := ih (fun j hj => h j (by omega)) (by omega); omega
theorem sumZ_two {k : Nat} {f : Nat → Int} (h : ∀ i, i < k → 0 ≤ f i) {i j : Nat} (hi : i < k) (hj : j < k) (hne : i ≠ j) : f i + f j ≤ sumZ k f := by
  induction k with
  | zero => omega
  | succ k ih =>
    simp only [sumZ]
    have h0 := h k (by omega)
    have hp : ∀ x, x < k → 0 ≤ f x := fun x hx => h x (by omega)
    by_cases e : i = k
    · have := sumZ_one hp (i := j) (by omega); rw [e]; omega
    · by_cases e2 : j = k
      · have := sumZ_one hp (i := i) (by omega); rw [e2]; omega
      · have := ih hp (by omega) (by omega); omega
theorem sumZ_some {k : Nat} {f : Nat → Int} (h : 0 < sumZ k f) : ∃ i, i < k ∧ 0 < f i := by
  induction k with
  | zero => exact absurd h (by simp [sumZ])
  | succ k ih =>
    simp only [sumZ] at h
    by_cases e : 0 < f k
    · exact ⟨k, by omega, e⟩
    · obtain ⟨i, hi, hf⟩ := ih (by omega)
      exact ⟨i, by omega, hf⟩

theorem alph_N (N m : Nat) (l : List Nat) (v : Nat) : PeriZ N (alph N m l v) := fun j => alph_mod l rfl (Nat.add_mod_right j N)

theorem hajos_core (s : Spl n p a N P0 m E F) {h : Nat → Nat} (hh : Peri n h) (h01 : ∀ i, h i ≤ 1) {l : List Nat} (ht : ∀ i, act l h i = 1) (hl : l.length ∣ N) :
    (∀ v, PeriZ P0 (alph N m l v)) ∨ ∃ d, 1 ≤ d ∧ d < n ∧ n % d = 0 ∧ ∀ i, h (i + d) = h i := by
  have h2 := s.two
  have hm := s.one
  have hP := s.pos
  have hmI : (m : Int) ≠ 0 := by omega
  by_cases hall : ∀ v, v < m → PeriZ P0 (alph N m l v)
  · refine Or.inl (fun v j => ?_)
    have h3 := hall (v % m) (Nat.mod_lt _ (by omega)) j
    rwa [alph_mod l (v := v % m) (v' := v) (Nat.mod_mod v m) rfl, alph_mod l (v := v % m) (v' := v) (Nat.mod_mod v m) rfl] at h3
  · refine Or.inr ?_
    have hex : ∃ v0, v0 < m ∧ ¬ PeriZ P0 (alph N m l v0) := Classical.byContradiction fun hn => hall fun v hv => Classical.byContradiction fun hc => hn ⟨v, hv, hc⟩
    obtain ⟨v0, hv0, hnp⟩ := hex
    have hU : ∀ u, PeriZ P0 (fun j => (m : Int) * bet E F h u j - sumZ m (fun t => bet E F h t j)) := fun u => by
      refine (domain s.prm hP s.pow s.mul (alph_N N m l v0) (g := fun j => (m : Int) * bet E F h u j - sumZ m (fun t => bet E F h t j)) (fun j => ?_) (fun i => ?_)).resolve_left hnp
      · show (m : Int) * bet E F h u (j + N) - sumZ m (fun t => bet E F h t (j + N)) = _
        rw [bet_N s hh u j, sumZ_congr (fun t _ => bet_N s hh t j)]
      · rw [mean s hh ht hl hv0, mean s hh ht hl hv0]
    have hdiff : ∀ u w i, bet E F h u (i + P0) - bet E F h w (i + P0) = bet E F h u i - bet E F h w i := fun u w i => by
      have a1 := hU u i
      have a2 := hU w i
      simp only [] at a1 a2
      apply Int.eq_of_mul_eq_mul_left hmI
      rw [Int.mul_sub, Int.mul_sub]
      omega
    have hsum : ∀ u i, corZ N (fun j => sumZ m (fun v => alph N m l v j)) (bet E F h u) i = 1 := fun u i => by
      have := star s hh ht hl 0 u i
      simp only [Nat.zero_mul, Nat.add_zero] at this
      rw [← this]
      unfold corZ
      rw [sumZ_swap]
      exact sumZ_congr (fun j _ => (sumZ_mulr m (bet E F h u (i + j)) (fun v => alph N m l v j)).symm)
    have hper : PeriZ N (fun j => sumZ m (fun v => alph N m l v j)) := fun j => sumZ_congr (fun v _ => alph_N N m l v j)
    rcases domain s.prm hP s.pow s.mul hper (bet_N s hh 0) (fun i => by rw [hsum, hsum]) with hA | hB
    · by_cases hm1 : m = 1
      · exfalso
        apply hnp
        obtain rfl : v0 = 0 := by omega
        intro j
        have := hA j
        simp only [hm1, sumZ, Int.zero_add] at this
        rw [hm1]
        exact this
      · have h01b : ∀ u i, bet E F h u i = 0 ∨ bet E F h u i = 1 := fun u i => by
          unfold bet
          have := h01 (E * i + F * u)
          omega
        have hApos : ∀ j, 0 ≤ sumZ m (fun v => alph N m l v j) := fun j => sumZ_le (fun v _ => alph_pos l v j)
        have amo : ∀ u i, bet E F h u i = 1 → bet E F h u (i + P0) = 1 → False := fun u i b1 b2 => by
          have hnn : ∀ c j, j < N → 0 ≤ (sumZ m (fun v => alph N m l v j)) * bet E F h u (c + j) := fun c j _ => Int.mul_nonneg (hApos j) (by rcases h01b u (c + j) with e | e <;> omega)
          have e0 := hsum u 0
          obtain ⟨j0, hj0, hp0⟩ := sumZ_some (k := N) (f := fun j => (sumZ m (fun v => alph N m l v j)) * bet E F h u (0 + j)) (by
            have : sumZ N (fun j => (sumZ m (fun v => alph N m l v j)) * bet E F h u (0 + j)) = 1 := e0
            omega)
          have hA0 : 1 ≤ sumZ m (fun v => alph N m l v j0) := by
            have := hApos j0
            rcases Int.lt_or_eq_of_le this with e | e
            · omega
            · simp only [← e, Int.zero_mul] at hp0; omega
          obtain ⟨j1, hj1⟩ : ∃ j1, j1 = (j0 + P0) % N := ⟨_, rfl⟩
          have hj1N : j1 < N := by rw [hj1]; exact Nat.mod_lt _ (by omega)
          have hne : j0 ≠ j1 := by
            rw [hj1]
            by_cases hlt : j0 + P0 < N
            · rw [Nat.mod_eq_of_lt hlt]; omega
            · rw [Nat.mod_eq_sub_mod (by omega), Nat.mod_eq_of_lt (by omega)]; omega
          have hA1 : sumZ m (fun v => alph N m l v j1) = sumZ m (fun v => alph N m l v j0) := by
            have q1 := hper.mod (j0 + P0)
            have q2 := hA j0
            simp only [] at q1 q2
            rw [hj1, q1, q2]
          have hb0 : bet E F h u (i + N - j0 + j0) = 1 := by rw [show i + N - j0 + j0 = i + N from by omega, bet_N s hh u i, b1]
          have hb1 : bet E F h u (i + N - j0 + j1) = 1 := by
            rw [← (bet_N s hh u).mod, hj1, Nat.add_mod_mod, show i + N - j0 + (j0 + P0) = i + P0 + N from by omega, (bet_N s hh u).mod, bet_N s hh u, b2]
          have e1 := hsum u (i + N - j0)
          have e2 := sumZ_two (hnn (i + N - j0)) hj0 hj1N hne
          have e3 : sumZ N (fun j => (sumZ m (fun v => alph N m l v j)) * bet E F h u (i + N - j0 + j)) = 1 := e1
          rw [e3] at e2
          simp only [hb0, hb1, hA1, Int.mul_one] at e2
          omega
        have hsame : ∀ u w i, bet E F h u i = bet E F h w i := fun u w i => by
          have d1 := hdiff u w i
          have d2 : ¬ (bet E F h u i = 1 ∧ bet E F h u (i + P0) = 1) := fun ⟨x, y⟩ => amo u i x y
          have d3 : ¬ (bet E F h w i = 1 ∧ bet E F h w (i + P0) = 1) := fun ⟨x, y⟩ => amo w i x y
          have x1 := h01b u i
          have x2 := h01b w i
          have x3 := h01b u (i + P0)
          have x4 := h01b w (i + P0)
          omega
        refine ⟨N, by omega, ?_, ?_, fun i => ?_⟩
        · rw [s.all]
          have := Nat.mul_le_mul_left N (show 2 ≤ m by omega)
          omega
        · rw [s.all, Nat.mul_mod_right]
        · have c1 := bet_both s hh (i + N)
          have c2 := bet_both s hh i
          rw [hsame (i + N) i (i + N), bet_N s hh i i, c2] at c1
          omega
    · have hBu : ∀ u, PeriZ P0 (bet E F h u) := fun u i => by
        have := hdiff u 0 i
        have := hB i
        omega
      refine ⟨P0 * m, Nat.mul_pos (by omega) (by omega), ?_, ?_, fun i => ?_⟩
      · rw [s.all]
        exact Nat.mul_lt_mul_of_pos_right h2.2.1 (by omega)
      · rw [s.all, s.mul, Nat.mul_assoc, Nat.mul_mod_left]
      · have c1 := bet_both s hh (i + P0 * m)
        have c2 := bet_both s hh i
        have c3 := (bet_m s hh (i + P0 * m)).mul P0 i
        have c4 := (hBu i).mul m i
        rw [Nat.mul_comm m] at c4
        change bet E F h (i + P0 * m) (i + P0 * m) = bet E F h i (i + P0 * m) at c3
        rw [c3, c4, c2] at c1
        omega
end

end Go.Proofs.YtehjdhegnpmfaabDoor
