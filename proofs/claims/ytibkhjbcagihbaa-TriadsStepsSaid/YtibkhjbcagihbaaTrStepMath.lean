/-
  What a step keeps. Plain mathematics.
-/
import Derived.Test.YtibkhjbcagihbaaTrToneMath
import Derived.Test.YtibkhjbcagihbaaTrRef
import Derived.Test.YtibkhjbcagihbaaTrQue
namespace Go.Proofs.Ytibkhjbcagihbaa
open Go.RowKit
/-! ### what is kept -/
def letP (i : Nat) : Nat := if i = 0 then 80 else if i = 1 then 76 else 82
def keptK (i j : Nat) : Nat := if i = 0 then (if j = 0 then 0 else 2) else if i = 1 then (if j = 0 then 1 else 2) else (if j = 0 then 0 else 1)
theorem bit_own (n a b t k : Nat) (h : k < 3) : (setT n a b t 3).testBit (toneN n a b t k) = true := by
  unfold setT
  rw [testBit_orL, List.any_eq_true]
  exact ⟨k, List.mem_range.2 h, by simp⟩
theorem mod_eq_of {n x y : Nat} (h : ∃ q : Int, (x : Int) = y + q * n) : x % n = y % n := by
  obtain ⟨q, hq⟩ := h
  have : ((x % n : Nat) : Int) = ((y % n : Nat) : Int) := by
    rw [Int.natCast_emod, Int.natCast_emod, hq, Int.add_mul_emod_self_right]
  omega
theorem tone_int_up {n a b t : Nat} (hk : KOk n a b) (h : t < n) (k : Nat) : ((toneN n a b t k : Nat) : Int) = ((t : Int) + (offN a b k : Nat)) % n := by
  rw [← tone_up hk h, Int.tmod_eq_emod_of_nonneg (by omega), Int.emod_add_emod]
theorem tone_int_dn {n a b t : Nat} (hk : KOk n a b) (h : ¬ t < n) (k : Nat) : ((toneN n a b t k : Nat) : Int) = ((t : Int) - (offN a b k : Nat)) % n := by
  rw [← tone_down hk h, Int.tmod_eq_emod_of_nonneg (by omega), Int.emod_add_emod]
  rfl
def keptP (i j : Nat) : Nat := if i = 0 then (if j = 0 then 2 else 0) else if i = 1 then (if j = 0 then 2 else 1) else (if j = 0 then 1 else 0)
theorem kept_off (a b : Nat) {i j : Nat} (hi : i < 3) (hj : j < 2) : ((byL a b (letP i) : Nat) : Int) - (offN a b (keptP i j) : Nat) = (offN a b (keptK i j) : Nat) := by
  rcases (show i = 0 ∨ i = 1 ∨ i = 2 by omega) with rfl | rfl | rfl <;> rcases (show j = 0 ∨ j = 1 by omega) with rfl | rfl <;> simp [byL, letP, offN, keptP, keptK] <;> omega
theorem kept_tone {n a b t i j : Nat} (hk : KOk n a b) (ht : t < 2 * n) (hi : i < 3) (hj : j < 2) : ∃ k', k' < 3 ∧ toneN n a b t (keptK i j) = toneN n a b (stepN n a b t (letP i)) k' := by
  have hn := hk.pos
  have hp : keptP i j < 3 := by unfold keptP; split <;> (try split) <;> (try split) <;> omega
  refine ⟨keptP i j, hp, ?_⟩
  have ho := kept_off a b hi hj
  have hul := step_lt hk t (letP i) ht
  apply Int.ofNat_inj.1
  by_cases h : t < n
  · have hu := stepN_up (a := a) (b := b) (c := letP i) hn h
    have hge : ¬ stepN n a b t (letP i) < n := by
      have := Int.tmod_nonneg (a := (t : Int) + (byL a b (letP i) : Nat)) n (by omega)
      omega
    rw [tone_int_up hk h, tone_int_dn hk hge, hu, Int.tmod_eq_emod_of_nonneg (by omega)]
    have e : (n : Int) + ((t : Int) + (byL a b (letP i) : Nat)) % n - (offN a b (keptP i j) : Nat) = (((t : Int) + (byL a b (letP i) : Nat)) % n - (offN a b (keptP i j) : Nat)) + (n : Int) * 1 := by omega
    rw [e, Int.add_mul_emod_self_left, Int.emod_sub_emod]
    congr 1; omega
  · have hu := stepN_down (c := letP i) hk ht h
    have hlt : stepN n a b t (letP i) < n := by
      have := Int.emod_lt_of_pos ((t : Int) - (byL a b (letP i) : Nat)) (show (0 : Int) < n by omega)
      omega
    rw [tone_int_dn hk h, tone_int_up hk hlt, hu, Int.emod_add_emod]
    congr 1; omega
theorem kept_bit {n a b t i j : Nat} (hk : KOk n a b) (ht : t < 2 * n) (hi : i < 3) (hj : j < 2) : (setT n a b (stepN n a b t (letP i)) 3).testBit (toneN n a b t (keptK i j)) = true := by
  obtain ⟨k', h1, h2⟩ := kept_tone hk ht hi hj
  rw [h2]
  exact bit_own n a b _ k' h1

theorem bit_and {V y : Nat} (hV : V < 65536) (h : V.testBit y = true) : bits .and .i64 ((V : Int) / 2 ^ y) 1 = 1 := by
  have e : ((V : Int) / 2 ^ y) = ((V / 2 ^ y : Nat) : Int) := by simp
  have hl : V / 2 ^ y ≤ V := Nat.div_le_self _ _
  have := and_nat (V / 2 ^ y) 1 (by omega) (by omega)
  rw [e]
  rw [show ((1 : Nat) : Int) = 1 from rfl] at this
  rw [this, Nat.and_one_is_mod]
  rw [Nat.testBit_eq_decide_div_mod_eq, decide_eq_true_eq] at h
  rw [h]; rfl

theorem mod_twice (x : Int) {n : Nat} (hn : 0 < n) : ∃ z : Int, x.tmod n = z ∧ -(n : Int) < z ∧ z < n ∧ (z + n).tmod n = x % n := by
  have h1 := Int.tmod_lt_of_pos x (show (0 : Int) < n by omega)
  have h2 := Int.lt_tmod_of_pos x (show (0 : Int) < n by omega)
  refine ⟨_, rfl, h2, h1, ?_⟩
  rw [Int.tmod_eq_emod_of_nonneg (by omega), mod_fix]

/-- The facts of one step. -/
structure SJ (n a b t j L p q yp yq u : Nat) (B : Int) : Prop where
  L3 : L = letP j
  isL : isLetN L = true
  hB : B = (byL a b L : Nat)
  B0 : 0 < B
  B1 : B ≤ 32
  hp : p < 3
  hq : q < 3
  ep : p = keptK j 0
  eq : q = keptK j 1
  yp0 : toneN n a b t p = yp
  yq0 : toneN n a b t q = yq
  ypn : yp < n
  yqn : yq < n
  hu : stepN n a b t L = u
  hul : u < 2 * n
  hub : stepN n a b u L = t
  sp : (setT n a b t 3).testBit yp = true
  sq : (setT n a b t 3).testBit yq = true
  vp : (setT n a b u 3).testBit yp = true
  vq : (setT n a b u 3).testBit yq = true
theorem sj_of {n a b t j : Nat} (hk : KOk n a b) (ht : t < 2 * n) (hj : j < 3) : ∃ L p q yp yq u B, SJ n a b t j L p q yp yq u B := by
  have h1 := hk.h16
  have h2 := hk.hab
  have h3 := hk.hbn
  have h4 := hk.by_pos (letP j)
  have h5 := hk.by_le (letP j)
  have hp : keptK j 0 < 3 := by unfold keptK; split <;> (try split) <;> (try split) <;> omega
  have hq : keptK j 1 < 3 := by unfold keptK; split <;> (try split) <;> (try split) <;> omega
  exact ⟨_, _, _, _, _, _, _, rfl, by unfold letP; split <;> (try split) <;> rfl, rfl, by omega, by omega, hp, hq, rfl, rfl, rfl, rfl, toneN_lt hk _ _, toneN_lt hk _ _, rfl, step_lt hk _ _ ht, step_twice hk _ _ ht,
    bit_own n a b t _ hp, bit_own n a b t _ hq, kept_bit hk ht hj (by omega), kept_bit hk ht hj (by omega)⟩

/-- The numbers of one step: light, dark. -/
theorem step_light {n a b t c : Nat} (hk : KOk n a b) (h : t < n) : ∃ (ru : Nat) (z : Int), ru < n ∧ -(n : Int) < z ∧ z < n ∧ ((stepN n a b t c : Nat) : Int).tdiv n = 1 ∧ (t : Int).tdiv n = 0 ∧ ((stepN n a b t c : Nat) : Int).tmod n = ru ∧ ((toneN n a b t 0 : Nat) + ((byL a b c : Nat) : Int)).tmod n = z ∧ (z + n).tmod n = ru := by
  have hn := hk.pos
  have h0 : toneN n a b t 0 = t := by
    have e := tone0_eq n a b t hk (by omega)
    rw [Int.tmod_eq_emod_of_nonneg (by omega), Int.emod_eq_of_lt (by omega) (by omega)] at e
    omega
  have hl := Nat.mod_lt (t + byL a b c) hn
  have e : stepN n a b t c = n + (t + byL a b c) % n := by unfold stepN; rw [if_pos h]
  obtain ⟨z, z1, z2, z3, z4⟩ := mod_twice ((t : Int) + (byL a b c : Nat)) hn
  refine ⟨(t + byL a b c) % n, z, hl, z2, z3, ?_, ?_, ?_, by rw [h0]; exact z1, by rw [z4]; simp⟩
  · rw [e, Int.tdiv_eq_ediv_of_nonneg (by omega), Int.natCast_add, Int.add_ediv_of_dvd_left (Int.dvd_refl _), Int.ediv_self (by omega), Int.ediv_eq_zero_of_lt (by omega) (by omega)]; rfl
  · rw [Int.tdiv_eq_ediv_of_nonneg (by omega)]; exact Int.ediv_eq_zero_of_lt (by omega) (by omega)
  · rw [e, Int.tmod_eq_emod_of_nonneg (by omega), Int.natCast_add, Int.add_comm, Int.add_emod_right]; exact Int.emod_eq_of_lt (by omega) (by omega)
theorem step_dark {n a b t c : Nat} (hk : KOk n a b) (ht : t < 2 * n) (h : ¬ t < n) : ∃ (ru : Nat) (z : Int), ru < n ∧ -(n : Int) < z ∧ z < n ∧ ((stepN n a b t c : Nat) : Int).tdiv n = 0 ∧ (t : Int).tdiv n = 1 ∧ ((stepN n a b t c : Nat) : Int).tmod n = ru ∧ ((toneN n a b t 0 : Nat) + -((byL a b c : Nat) : Int)).tmod n = z ∧ (z + n).tmod n = ru := by
  have hn := hk.pos
  have e0 := tone0_eq n a b t hk ht
  have h0 : ((toneN n a b t 0 : Nat) : Int) = (t : Int) - n := by
    have e1 : (t : Int) = ((t : Int) - n) + n * 1 := by omega
    rw [Int.tmod_eq_emod_of_nonneg (by omega), e1, Int.add_mul_emod_self_left, Int.emod_eq_of_lt (by omega) (by omega)] at e0
    exact e0.symm
  have hs := stepN_down (c := c) hk ht h
  have hlt : stepN n a b t c < n := by
    have := Int.emod_lt_of_pos ((t : Int) - (byL a b c : Nat)) (show (0 : Int) < n by omega)
    omega
  obtain ⟨z, z1, z2, z3, z4⟩ := mod_twice (((t : Int) - n) + -((byL a b c : Nat) : Int)) hn
  refine ⟨stepN n a b t c, z, hlt, z2, z3, ?_, ?_, ?_, by rw [h0]; exact z1, ?_⟩
  · rw [Int.tdiv_eq_ediv_of_nonneg (by omega)]; exact Int.ediv_eq_zero_of_lt (by omega) (by omega)
  · have e1 : (t : Int) = n + ((t : Int) - n) := by omega
    rw [Int.tdiv_eq_ediv_of_nonneg (by omega), e1, Int.add_ediv_of_dvd_left (Int.dvd_refl _), Int.ediv_self (by omega), Int.ediv_eq_zero_of_lt (by omega) (by omega)]; rfl
  · rw [Int.tmod_eq_emod_of_nonneg (by omega)]; exact Int.emod_eq_of_lt (by omega) (by omega)
  · rw [z4, hs]
    have e2 : ((t : Int) - n) + -((byL a b c : Nat) : Int) = ((t : Int) - (byL a b c : Nat)) + n * (-1) := by omega
    rw [e2, Int.add_mul_emod_self_left]
end Go.Proofs.Ytibkhjbcagihbaa
