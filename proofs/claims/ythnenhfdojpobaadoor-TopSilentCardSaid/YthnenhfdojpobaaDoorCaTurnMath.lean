/-
  Rhythms multiplied around the circle. Plain mathematics.
-/
import Derived.Test.YthnenhfdojpobaaDoorTijdeman
namespace Go.Proofs.YthnenhfdojpobaaDoor

/-- A rhythm multiplied. -/
def turnN (n m a : Nat) : Nat := orL (fun x => m * x % n) (tonesB n a)
theorem turn_lt {n m a : Nat} (hn : 1 ≤ n) : turnN n m a < 2 ^ n := orL_lt _ _ _ (fun t _ => Nat.mod_lt _ (by omega))
theorem turn_bit {n m a z : Nat} : (turnN n m a).testBit z = true ↔ ∃ x, x < n ∧ a.testBit x = true ∧ m * x % n = z := by
  unfold turnN
  rw [testBit_orL, List.any_eq_true]
  constructor
  · rintro ⟨x, hx, e⟩
    obtain ⟨x1, x2⟩ := tone_mem.1 hx
    exact ⟨x, x1, x2, by simpa using e⟩
  · rintro ⟨x, x1, x2, e⟩
    exact ⟨x, tone_mem.2 ⟨x1, x2⟩, by simpa using e⟩
theorem odd_iff (a : Nat) : a % 2 = 1 ↔ a.testBit 0 = true := by rw [Nat.testBit_zero]; simp
theorem turn_odd {n m a : Nat} (hn : 1 ≤ n) (ha1 : a % 2 = 1) : turnN n m a % 2 = 1 :=
  (odd_iff _).2 (turn_bit.2 ⟨0, by omega, (odd_iff a).1 ha1, by simp⟩)

theorem turn_inj_le {n m x y : Nat} (hg : Nat.gcd m n = 1) (hy : y < n) (hxy : x ≤ y) (e : m * x % n = m * y % n) : x = y := by
  have h1 : (m * y - m * x) % n = 0 := Nat.sub_mod_eq_zero_of_mod_eq e.symm
  rw [← Nat.mul_sub] at h1
  have h2 : n ∣ y - x := (show Nat.Coprime m n from hg).symm.dvd_of_dvd_mul_left (Nat.dvd_of_mod_eq_zero h1)
  rcases Nat.eq_zero_or_pos (y - x) with h3 | h3
  · omega
  · have := Nat.le_of_dvd h3 h2; omega
theorem turn_inj {n m x y : Nat} (hg : Nat.gcd m n = 1) (hx : x < n) (hy : y < n) (e : m * x % n = m * y % n) : x = y := by
  rcases Nat.le_total x y with h | h
  · exact turn_inj_le hg hy h e
  · exact (turn_inj_le hg hx h e.symm).symm

theorem tones_nodup (n a : Nat) : (tonesB n a).Nodup := by unfold tonesB; exact List.Pairwise.filter _ List.nodup_range
theorem turn_tones {n m a : Nat} (hn : 1 ≤ n) (hg : Nat.gcd m n = 1) : (tonesB n (turnN n m a)).Perm ((tonesB n a).map fun x => m * x % n) := by
  refine (List.perm_ext_iff_of_nodup (tones_nodup _ _) ?_).2 (fun z => ?_)
  · refine List.pairwise_map.2 (List.Pairwise.imp_of_mem (fun {x y} hx hy hne h => hne (turn_inj hg (tone_mem.1 hx).1 (tone_mem.1 hy).1 h)) (show (tonesB n a).Pairwise (· ≠ ·) from tones_nodup n a))
  · rw [tone_mem, turn_bit, List.mem_map]
    constructor
    · rintro ⟨_, x, x1, x2, e⟩; exact ⟨x, tone_mem.2 ⟨x1, x2⟩, e⟩
    · rintro ⟨x, hx, e⟩
      obtain ⟨x1, x2⟩ := tone_mem.1 hx
      exact ⟨by rw [← e]; exact Nat.mod_lt _ (by omega), x, x1, x2, e⟩

/-! ### sums of turns -/

theorem act_map (l : List Nat) (h : Nat → Nat) (j : Nat) : act l h j = (l.map fun x => h (j + x)).sum := by
  induction l with
  | nil => rfl
  | cons x l ih => show h (j + x) + act l h j = _; rw [ih, List.map_cons, List.sum_cons]

/-- Where a rhythm lies, seen from behind. -/
def behind (n b : Nat) (j : Nat) : Nat := bI b ((n - j % n) % n)
theorem behind_peri (n b : Nat) : Peri n (behind n b) := fun j => by unfold behind; rw [Nat.add_mod_right]
theorem behind_at {n b i x : Nat} (hi : i < n) (hx : x < n) : behind n b (n - i + x) = bI b ((i + n - x) % n) := by
  unfold behind
  congr 1
  by_cases h : x < i
  · rw [Nat.mod_eq_of_lt (show n - i + x < n by omega), show n - (n - i + x) = i - x from by omega, show i + n - x = (i - x) + n from by omega, Nat.add_mod_right]
  · rw [show n - i + x = (x - i) + n from by omega, Nat.add_mod_right, Nat.mod_eq_of_lt (show x - i < n by omega), show i + n - x = n - (x - i) from by omega]

theorem cnt_swap {n a b i : Nat} (hi : i < n) : cntN n a b i = cntN n b a i := by
  unfold cntN cntK
  have := sum_perm n (backN n i) (backN n i) (fun _ _ => back_lt (by omega)) (fun _ _ => back_lt (by omega)) (fun x hx => back_two hi hx) (fun x hx => back_two hi hx) (fun x => bI b x * bI a ((i + n - x) % n))
  rw [← this]
  refine sum_congr (fun y hy => ?_)
  rw [show (i + n - backN n i y) % n = backN n i (backN n i y) from rfl, back_two hi hy, Nat.mul_comm]
  rfl

theorem cnt_act {n a b i : Nat} (hi : i < n) : cntN n a b i = act (tonesB n a) (behind n b) (n - i) := by
  rw [cnt_swap hi, act_map, sum_tones]
  unfold cntN cntK
  exact sum_congr (fun x hx => by rw [behind_at hi hx])

theorem tile_act {n a b : Nat} (hn : 1 ≤ n) (h : Tile n a b) : ∀ j, act (tonesB n a) (behind n b) j = 1 := by
  intro j
  have hp := (behind_peri n b).act (tonesB n a)
  rw [← hp.mod j]
  have hj : j % n < n := Nat.mod_lt _ (by omega)
  by_cases h0 : j % n = 0
  · have h1 := h 0 (by omega)
    rw [cnt_act (by omega)] at h1
    have h2 := hp 0
    rw [Nat.zero_add] at h2
    rw [h0, ← h2]
    exact h1
  · have h1 := h (n - j % n) (by omega)
    rw [cnt_act (by omega), show n - (n - j % n) = j % n from by omega] at h1
    exact h1

/-- Tijdeman: a rhythm multiplied fills the circle with the same one. -/
theorem tile_turn {n m a b : Nat} (hn : 1 ≤ n) (hm : 1 ≤ m) (hg : Nat.gcd m n = 1) (h : Tile n a b) : Tile n (turnN n m a) b := by
  intro i hi
  rw [cnt_act hi, act_map, ((turn_tones hn hg).map _).sum_nat, List.map_map]
  have h1 := tile_times hn (behind_peri n b) (tile_act hn h) m hm hg (n - i)
  rw [act_map, List.map_map] at h1
  rw [← h1]
  congr 1
  refine List.map_congr_left (fun x _ => ?_)
  show behind n b (n - i + m * x % n) = behind n b (n - i + m * x)
  rw [← (behind_peri n b).mod (n - i + m * x % n), ← (behind_peri n b).mod (n - i + m * x), Nat.add_mod_mod]

/-! ### the other way around -/

theorem neg_cop {n : Nat} (hn : 2 ≤ n) : Nat.gcd (n - 1) n = 1 := by
  have h1 := Nat.gcd_dvd_left (n - 1) n
  have h2 := Nat.gcd_dvd_right (n - 1) n
  have h3 := Nat.dvd_sub h2 h1
  rw [show n - (n - 1) = 1 from by omega, Nat.dvd_one] at h3
  exact h3
theorem neg_two {n x : Nat} (hn : 2 ≤ n) (hx : x < n) : (n - 1) * ((n - 1) * x % n) % n = x := by
  rw [Nat.mul_mod_mod, ← Nat.mul_assoc]
  have e : (n - 1) * (n - 1) * x = x + n * ((n - 2) * x) := by
    obtain ⟨k, rfl⟩ : ∃ k, n = k + 2 := ⟨n - 2, by omega⟩
    rw [show k + 2 - 1 = k + 1 from by omega, show k + 2 - 2 = k from by omega, ← Nat.mul_assoc]
    rw [show (k + 1) * (k + 1) = (k + 2) * k + 1 from by rw [Nat.mul_succ, Nat.add_mul, Nat.add_mul]; omega, Nat.add_mul]
    omega
  rw [e, Nat.add_mul_mod_self_left, Nat.mod_eq_of_lt hx]
theorem turn_neg {n a : Nat} (hn : 2 ≤ n) (ha : a < 2 ^ n) : turnN n (n - 1) (turnN n (n - 1) a) = a := by
  apply Nat.eq_of_testBit_eq
  intro z
  rw [Bool.eq_iff_iff, turn_bit]
  constructor
  · rintro ⟨y, _, hy, e⟩
    obtain ⟨x, x1, x2, e2⟩ := turn_bit.1 hy
    rw [← e2, neg_two hn x1] at e
    rw [← e]; exact x2
  · intro hz
    have hzn : z < n := by
      apply Nat.lt_of_not_le
      intro hle
      rw [Nat.testBit_lt_two_pow (Nat.lt_of_lt_of_le ha (Nat.pow_le_pow_right (by omega) hle))] at hz
      cases hz
    exact ⟨(n - 1) * z % n, Nat.mod_lt _ (by omega), turn_bit.2 ⟨z, hzn, hz, rfl⟩, neg_two hn hzn⟩

/-- A rhythm turned has as many partners. -/
theorem turn_count {n a : Nat} (hn : 2 ≤ n) (hn2 : n ≤ 24) (ha : a < 2 ^ n) (ha1 : a % 2 = 1) : (partners n (turnN n (n - 1) a)).length = (partners n a).length := by
  have hl : turnN n (n - 1) a < 2 ^ n := turn_lt (by omega)
  refine List.Perm.length_eq ((List.perm_ext_iff_of_nodup (partners_nodup (by omega) (by omega) hl) (partners_nodup (by omega) (by omega) ha)).2 (fun c => ?_))
  rw [mem_partners (by omega) (by omega) hl (turn_odd (by omega) ha1), mem_partners (by omega) (by omega) ha ha1]
  constructor
  · rintro ⟨h1, h2, h3⟩
    have := tile_turn (by omega) (by omega) (neg_cop hn) h3
    rw [turn_neg hn ha] at this
    exact ⟨h1, h2, this⟩
  · rintro ⟨h1, h2, h3⟩
    exact ⟨h1, h2, tile_turn (by omega) (by omega) (neg_cop hn) h3⟩

/-- The rhythm multiplied, tone for tone. -/
theorem turn_step (n m a k : Nat) : orL (fun x => m * x % n) (tonesB (k + 1) a) = if a.testBit k = true then orL (fun x => m * x % n) (tonesB k a) ||| 2 ^ (m * k % n) else orL (fun x => m * x % n) (tonesB k a) := by
  rw [tonesB_snoc]
  by_cases h : a.testBit k = true
  · rw [if_pos h, if_pos h, orL_snoc, Nat.one_shiftLeft]
  · rw [if_neg h, if_neg h, List.append_nil]

end Go.Proofs.YthnenhfdojpobaaDoor
