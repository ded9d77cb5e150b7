/-
  Of two rhythms that fill a circle of at most 24 beats one has a period below it. Plain mathematics.
-/
import Derived.Test.YtehjdhegnpmfaabDoorHajos
import Derived.Test.YtehjdhegnpmfaabDoorCaPeriodsLaw
namespace Go.Proofs.YtehjdhegnpmfaabDoor

def prB (p : Nat) : Bool := decide (2 ≤ p) && (List.range (p + 1)).all fun d => d == 0 || p % d != 0 || d == 1 || d == p
theorem prB_ok {p : Nat} (h : prB p = true) : Prm p := by
  unfold prB at h
  rw [Bool.and_eq_true, decide_eq_true_eq, List.all_eq_true] at h
  refine ⟨h.1, fun d hd => ?_⟩
  have h1 := Nat.le_of_dvd (by omega) hd
  have h2 := h.2 d (List.mem_range.2 (by omega))
  have h3 : d ≠ 0 := fun e => by subst e; rw [Nat.zero_dvd] at hd; omega
  have h4 : p % d = 0 := Nat.mod_eq_zero_of_dvd hd
  simp only [h4, Bool.or_eq_true, beq_iff_eq, bne_iff_ne] at h2
  omega

/-- How a circle is parted: the prime, its power, the power less one, what is left, the two units. -/
def splB (n : Nat) (t : Nat × Nat × Nat × Nat × Nat × Nat) : Bool :=
  prB t.1 && decide (t.1 ^ t.2.1 = t.1 * t.2.2.1) && decide (1 ≤ t.2.2.1) && decide (1 ≤ t.2.2.2.1) && decide (n = t.1 ^ t.2.1 * t.2.2.2.1) &&
  decide (t.2.2.2.2.1 % t.1 ^ t.2.1 = 1 % t.1 ^ t.2.1) && decide (t.2.2.2.2.1 % t.2.2.2.1 = 0) && decide (t.2.2.2.2.2 % t.1 ^ t.2.1 = 0) && decide (t.2.2.2.2.2 % t.2.2.2.1 = 1 % t.2.2.2.1) &&
  decide ((t.2.2.2.2.1 + t.2.2.2.2.2) % n = 1 % n) &&
  ((List.range t.2.2.2.1).all fun w => w == 0 || (List.range t.2.2.2.1).any fun w' => w * w' % t.2.2.2.1 == 1) &&
  ((List.range (n + 1)).all fun x => (List.range (n + 1)).all fun y => x * y != n || t.1 ^ t.2.1 % x == 0 || t.1 ^ t.2.1 % y == 0)

theorem splB_ok {n p a P0 m E F : Nat} (hn : 1 ≤ n) (h : splB n (p, a, P0, m, E, F) = true) : Spl n p a (p ^ a) P0 m E F ∧ ∀ x y, x * y = n → x ∣ p ^ a ∨ y ∣ p ^ a := by
  unfold splB at h
  simp only [Bool.and_eq_true, decide_eq_true_eq] at h
  obtain ⟨⟨⟨⟨⟨⟨⟨⟨⟨⟨⟨h1, h2⟩, h3⟩, h4⟩, h5⟩, h6⟩, h7⟩, h8⟩, h9⟩, h10⟩, h11⟩, h12⟩ := h
  refine ⟨⟨prB_ok h1, rfl, h2, h3, h4, h5, h6, h7, h8, h9, h10, fun w hw h0 => ?_⟩, fun x y hxy => ?_⟩
  · rw [List.all_eq_true] at h11
    have h := h11 w (List.mem_range.2 hw)
    rw [Bool.or_eq_true, beq_iff_eq, List.any_eq_true] at h
    obtain ⟨w', hw', e⟩ := h.resolve_left h0
    exact ⟨w', List.mem_range.1 hw', by simpa using e⟩
  · rw [List.all_eq_true] at h12
    have hx : x ≤ n := Nat.le_of_dvd (by omega) ⟨y, hxy.symm⟩
    have hy : y ≤ n := Nat.le_of_dvd (by omega) ⟨x, by rw [Nat.mul_comm]; exact hxy.symm⟩
    have h := h12 x (List.mem_range.2 (by omega))
    rw [List.all_eq_true] at h
    have h' := h y (List.mem_range.2 (by omega))
    simp only [Bool.or_eq_true, beq_iff_eq, bne_iff_ne] at h'
    rcases h' with (h' | h') | h'
    · exact absurd hxy h'
    · exact Or.inl (Nat.dvd_of_mod_eq_zero h')
    · exact Or.inr (Nat.dvd_of_mod_eq_zero h')

def splTab : List (Nat × Nat × Nat × Nat × Nat × Nat) := [(0, 0, 0, 0, 0, 0), (0, 0, 0, 0, 0, 0), (2, 1, 1, 1, 1, 0), (3, 1, 1, 1, 1, 0), (2, 2, 2, 1, 1, 0), (5, 1, 1, 1, 1, 0), (2, 1, 1, 3, 3, 4), (7, 1, 1, 1, 1, 0), (2, 3, 4, 1, 1, 0), (3, 2, 3, 1, 1, 0), (2, 1, 1, 5, 5, 6), (11, 1, 1, 1, 1, 0), (2, 2, 2, 3, 9, 4), (13, 1, 1, 1, 1, 0), (2, 1, 1, 7, 7, 8), (3, 1, 1, 5, 10, 6), (2, 4, 8, 1, 1, 0), (17, 1, 1, 1, 1, 0), (3, 2, 3, 2, 10, 9), (19, 1, 1, 1, 1, 0), (2, 2, 2, 5, 5, 16), (3, 1, 1, 7, 7, 15), (2, 1, 1, 11, 11, 12), (23, 1, 1, 1, 1, 0), (2, 3, 4, 3, 9, 16)]
theorem splTab_ok : ((List.range 25).all fun n => decide (n < 2) || splB n (splTab.getD n (0, 0, 0, 0, 0, 0))) = true := by kernel_rfl

theorem spl_of {n : Nat} (hn : 2 ≤ n) (hn2 : n ≤ 24) : ∃ p a P0 m E F, Spl n p a (p ^ a) P0 m E F ∧ ∀ x y, x * y = n → x ∣ p ^ a ∨ y ∣ p ^ a := by
  have h := List.all_eq_true.1 splTab_ok n (List.mem_range.2 (by omega))
  rw [Bool.or_eq_true, decide_eq_true_eq] at h
  obtain ⟨t, ht⟩ : ∃ t, splTab.getD n (0, 0, 0, 0, 0, 0) = t := ⟨_, rfl⟩
  rw [ht] at h
  obtain ⟨p, a, P0, m, E, F⟩ := t
  exact ⟨p, a, P0, m, E, F, splB_ok (by omega) (h.resolve_left (by omega))⟩

theorem behind01 (n b i : Nat) : behind n b i ≤ 1 := bI01 _ _

theorem per_of_mv {n a d : Nat} (hn : n % d = 0) (ha : a < 2 ^ n) (hd : d ≤ n) (h : ∀ i, i < n → a.testBit ((i + n - d) % n) = a.testBit i) : perB n a d = true := by
  unfold perB
  rw [Bool.and_eq_true, beq_iff_eq, beq_iff_eq]
  refine ⟨hn, Nat.eq_of_testBit_eq fun i => ?_⟩
  by_cases hi : i < n
  · by_cases hdn : d < n
    · rw [testBit_mv hdn ha, decide_eq_true hi, Bool.true_and, h i hi]
    · obtain rfl : d = n := by omega
      rw [mv_full ha]
  · have hp : 2 ^ n ≤ 2 ^ i := Nat.pow_le_pow_right (by omega) (by omega)
    rw [Nat.testBit_lt_two_pow (Nat.lt_of_lt_of_le mv_lt hp), Nat.testBit_lt_two_pow (Nat.lt_of_lt_of_le ha hp)]

theorem bI_bit {a b i j : Nat} (h : bI a i = bI b j) : a.testBit i = b.testBit j := by
  unfold bI at h
  cases h1 : a.testBit i <;> cases h2 : b.testBit j <;> simp [h1, h2] at h ⊢

theorem right_per {n b d : Nat} (hb : b < 2 ^ n) (hdn : d < n) (hd : n % d = 0) (h : ∀ i, behind n b (i + d) = behind n b i) : perB n b d = true :=
  per_of_mv hd hb (by omega) (fun i hi => by
    have h1 := behind_at (b := b) hi hdn
    have h2 := behind_at (b := b) hi (show 0 < n by omega)
    rw [h] at h1
    rw [Nat.add_zero, Nat.sub_zero, Nat.add_mod_right, Nat.mod_eq_of_lt hi] at h2
    exact bI_bit (h1.symm.trans h2))

theorem left_per {n p a N P0 m E F c : Nat} (s : Spl n p a N P0 m E F) (hc : c < 2 ^ n) (h : ∀ v, PeriZ P0 (alph N m (tonesB n c) v)) : perB n c (P0 * m) = true ∧ 1 ≤ P0 * m ∧ P0 * m < n := by
  have h2 := s.two
  have hm := s.one
  have hP := s.pos
  have hlt : P0 * m < n := by rw [s.all]; exact Nat.mul_lt_mul_of_pos_right h2.2.1 (by omega)
  have h1 : 1 ≤ P0 * m := Nat.mul_pos (by omega) (by omega)
  have crt : ∀ x y, x < n → y < n → x % N = y % N → x % m = y % m → x = y := fun x y hx hy e1 e2 => by
    obtain ⟨e, he⟩ := Nat.dvd_of_mod_eq_zero s.e0
    obtain ⟨f, hf⟩ := Nat.dvd_of_mod_eq_zero s.f0
    have q : ∀ z, z < n → z = (E * (z % N) + F * (z % m)) % n := fun z hz => by
      have a1 : E * z = E * (z % N) + n * (e * (z / N)) := by
        conv => lhs; rw [← Nat.mod_add_div z N]
        rw [Nat.mul_add, s.all, he]
        congr 1
        rw [Nat.mul_assoc, Nat.mul_assoc, ← Nat.mul_assoc e, Nat.mul_comm e N, Nat.mul_left_comm m, Nat.mul_assoc N e, Nat.mul_left_comm N m]
        simp only [Nat.mul_left_comm, Nat.mul_comm, Nat.mul_assoc]
      have a2 : F * z = F * (z % m) + n * (f * (z / m)) := by
        conv => lhs; rw [← Nat.mod_add_div z m]
        rw [Nat.mul_add, s.all, hf]
        congr 1
        simp only [Nat.mul_left_comm, Nat.mul_comm, Nat.mul_assoc]
      have a3 : ((E + F) * z) % n = z := by rw [Nat.mul_mod, s.ef, ← Nat.mul_mod, Nat.one_mul, Nat.mod_eq_of_lt hz]
      rw [Nat.add_mul, a1, a2, show E * (z % N) + n * (e * (z / N)) + (F * (z % m) + n * (f * (z / m))) = E * (z % N) + F * (z % m) + n * (e * (z / N) + f * (z / m)) from by rw [Nat.mul_add]; omega, Nat.add_mul_mod_self_left] at a3
      exact a3.symm
    rw [q x hx, q y hy, e1, e2]
  have mem : ∀ x, x < n → (c.testBit x = true ↔ 1 ≤ alph N m (tonesB n c) x x) := fun x hx => by
    rw [alph_mem]
    constructor
    · intro hb; exact ⟨x, tone_mem.2 ⟨hx, hb⟩, rfl, rfl⟩
    · rintro ⟨y, hy, e1, e2⟩
      obtain ⟨y1, y2⟩ := tone_mem.1 hy
      rw [← crt y x y1 hx e1 e2]
      exact y2
  refine ⟨per_of_mv ?_ hc (by omega) (fun i hi => ?_), h1, hlt⟩
  · rw [s.all, s.mul, Nat.mul_assoc, Nat.mul_mod_left]
  · obtain ⟨y, hy⟩ : ∃ y, y = (i + n - P0 * m) % n := ⟨_, rfl⟩
    have hyn : y < n := by rw [hy]; exact Nat.mod_lt _ (by omega)
    have hmod : (y + P0 * m) % n = i := by rw [hy, Nat.mod_add_mod, show i + n - P0 * m + P0 * m = i + n from by omega, Nat.add_mod_right, Nat.mod_eq_of_lt hi]
    have e1 : i % N = (y + P0 * m) % N := by rw [← hmod, Nat.mod_mod_of_dvd _ ⟨m, s.all⟩]
    have e2 : i % m = y % m := by
      rw [← hmod, Nat.mod_mod_of_dvd _ ⟨N, by rw [s.all, Nat.mul_comm]⟩, Nat.mul_comm, Nat.add_mul_mod_self_left]
    have e3 : alph N m (tonesB n c) i i = alph N m (tonesB n c) y y := by
      rw [alph_mod (tonesB n c) e2 e1, Nat.mul_comm P0 m]
      exact (h y).mul m y
    rw [← hy, Bool.eq_iff_iff, mem y hyn, mem i hi, e3]

theorem hajos_half {n p a N P0 m E F c b : Nat} (s : Spl n p a N P0 m E F) (hn : 1 ≤ n) (hc : c < 2 ^ n) (hb : b < 2 ^ n) (ht : Tile n c b) (hd : cardN n c ∣ N) : (∃ d, 1 ≤ d ∧ d < n ∧ perB n c d = true) ∨ ∃ d, 1 ≤ d ∧ d < n ∧ perB n b d = true := by
  rcases hajos_core s (behind_peri n b) (behind01 n b) (tile_act hn ht) (by rw [cardN_tonesB]; exact hd) with h | ⟨d, d1, d2, d3, d4⟩
  · obtain ⟨h1, h2, h3⟩ := left_per s hc h
    exact Or.inl ⟨_, h2, h3, h1⟩
  · exact Or.inr ⟨d, d1, d2, right_per hb d2 d3 d4⟩

theorem per_less {n a : Nat} (hn : 1 ≤ n) (ha : a < 2 ^ n) (h : ∃ d, 1 ≤ d ∧ d < n ∧ perB n a d = true) : perN n a < n := by
  obtain ⟨d, d1, d2, d3⟩ := h
  obtain ⟨h1, h2, h3, h4⟩ := perN_spec hn ha
  apply Nat.lt_of_not_le
  intro hle
  rw [h4 d d1 (by omega)] at d3
  cases d3

theorem tile_swap {n a b : Nat} (h : Tile n a b) : Tile n b a := fun i hi => by rw [cnt_swap hi]; exact h i hi

/-- Hajos: one of two rhythms that fill the circle repeats. -/
theorem hajos {n a b : Nat} (hn : 2 ≤ n) (hn2 : n ≤ 24) (ha : a < 2 ^ n) (hb : b < 2 ^ n) (h : Tile n a b) : perN n a < n ∨ perN n b < n := by
  obtain ⟨p, k, P0, m, E, F, s, hx⟩ := spl_of hn hn2
  rcases hx _ _ ((tile_prog ha).2 h).2 with hd | hd
  · rcases hajos_half s (by omega) ha hb h hd with e | e
    · exact Or.inl (per_less (by omega) ha e)
    · exact Or.inr (per_less (by omega) hb e)
  · rcases hajos_half s (by omega) hb ha (tile_swap h) hd with e | e
    · exact Or.inr (per_less (by omega) hb e)
    · exact Or.inl (per_less (by omega) ha e)

end Go.Proofs.YtehjdhegnpmfaabDoor
