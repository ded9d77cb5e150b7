/-
  The tones of a triad tell which one it is. Plain mathematics.
-/
import Derived.Test.YtibkhjbcagihbaaDoorTrToneMath
namespace Go.Proofs.YtibkhjbcagihbaaDoor

theorem setT_bit {n a b t y : Nat} : (setT n a b t 3).testBit y = true ↔ ∃ k, k < 3 ∧ toneN n a b t k = y := by
  unfold setT
  rw [testBit_orL, List.any_eq_true]
  constructor
  · rintro ⟨k, h1, h2⟩; exact ⟨k, List.mem_range.1 h1, of_decide_eq_true h2⟩
  · rintro ⟨k, h1, h2⟩; exact ⟨k, List.mem_range.2 h1, decide_eq_true h2⟩

theorem tone_light {n a b t k : Nat} (hk : KOk n a b) (ht : t < n) : (toneN n a b t k = t + offN a b k ∧ t + offN a b k < n) ∨ (toneN n a b t k + n = t + offN a b k ∧ n ≤ t + offN a b k) := by
  have ho := offN_lt hk k
  unfold toneN
  rw [if_pos ht, Nat.mod_eq_of_lt ht]
  by_cases h : t + offN a b k < n
  · rw [Nat.mod_eq_of_lt h]; omega
  · rw [Nat.mod_eq_sub_mod (by omega), Nat.mod_eq_of_lt (by omega)]; omega

theorem tone_dark {n a b t k : Nat} (hk : KOk n a b) (h1 : ¬ t < n) (h2 : t < 2 * n) : (toneN n a b t k + offN a b k + n = t ∧ offN a b k + n ≤ t) ∨ (toneN n a b t k + offN a b k = t ∧ t < offN a b k + n) := by
  have ho := offN_lt hk k
  unfold toneN
  rw [if_neg h1]
  have e : t % n = t - n := by rw [Nat.mod_eq_sub_mod (by omega), Nat.mod_eq_of_lt (by omega)]
  rw [e]
  by_cases h : t - n + (n - offN a b k) < n
  · rw [Nat.mod_eq_of_lt h]; omega
  · rw [Nat.mod_eq_sub_mod (by omega), Nat.mod_eq_of_lt (by omega)]; omega

/-- The three tones of a triad. -/
structure Three (n a b t x y z : Nat) : Prop where
  light : t < n → x = t ∧ ((y = t + a ∧ y < n) ∨ (y + n = t + a)) ∧ ((z = t + b ∧ z < n) ∨ (z + n = t + b))
  dark : ¬ t < n → x + n = t ∧ ((y + a + n = t) ∨ (y + a = t ∧ t < a + n)) ∧ ((z + b + n = t) ∨ (z + b = t ∧ t < b + n))
  hx : x < n
  hy : y < n
  hz : z < n
theorem three_of {n a b t : Nat} (hk : KOk n a b) (ht : t < 2 * n) : Three n a b t (toneN n a b t 0) (toneN n a b t 1) (toneN n a b t 2) := by
  have o0 : offN a b 0 = 0 := rfl
  have o1 : offN a b 1 = a := rfl
  have o2 : offN a b 2 = b := rfl
  refine ⟨fun h => ?_, fun h => ?_, toneN_lt hk _ _, toneN_lt hk _ _, toneN_lt hk _ _⟩
  · have h0 := tone_light (k := 0) hk h
    have h1 := tone_light (k := 1) hk h
    have h2 := tone_light (k := 2) hk h
    rw [o0] at h0; rw [o1] at h1; rw [o2] at h2
    omega
  · have h0 := tone_dark (k := 0) hk h ht
    have h1 := tone_dark (k := 1) hk h ht
    have h2 := tone_dark (k := 2) hk h ht
    rw [o0] at h0; rw [o1] at h1; rw [o2] at h2
    have := toneN_lt hk t 0
    omega

theorem three_same {n a b t u x y z x' y' z' : Nat} (hk : KOk n a b) (ht : t < 2 * n) (hu : u < 2 * n) (h : Three n a b t x y z) (h' : Three n a b u x' y' z')
    (ex : x = x' ∨ x = y' ∨ x = z') (ey : y = x' ∨ y = y' ∨ y = z') (ez : z = x' ∨ z = y' ∨ z = z') : t = u := by
  obtain ⟨_, _, ha, hab, hbn, d1, d2, d3⟩ := hk
  obtain ⟨l, d, hx, hy, hz⟩ := h
  obtain ⟨l', d', hx', hy', hz'⟩ := h'
  by_cases c : t < n <;> by_cases c' : u < n
  · obtain ⟨e1, e2, e3⟩ := l c
    obtain ⟨f1, f2, f3⟩ := l' c'
    clear l d l' d'
    rcases ex with rfl | rfl | rfl <;> rcases ey with rfl | rfl | rfl <;> rcases ez with rfl | rfl | rfl <;> omega
  · obtain ⟨e1, e2, e3⟩ := l c
    obtain ⟨f1, f2, f3⟩ := d' c'
    clear l d l' d'
    rcases ex with rfl | rfl | rfl <;> rcases ey with rfl | rfl | rfl <;> rcases ez with rfl | rfl | rfl <;> omega
  · obtain ⟨e1, e2, e3⟩ := d c
    obtain ⟨f1, f2, f3⟩ := l' c'
    clear l d l' d'
    rcases ex with rfl | rfl | rfl <;> rcases ey with rfl | rfl | rfl <;> rcases ez with rfl | rfl | rfl <;> omega
  · obtain ⟨e1, e2, e3⟩ := d c
    obtain ⟨f1, f2, f3⟩ := d' c'
    clear l d l' d'
    rcases ex with rfl | rfl | rfl <;> rcases ey with rfl | rfl | rfl <;> rcases ez with rfl | rfl | rfl <;> omega

/-- The tones tell the triad. -/
theorem setT_inj {n a b t u : Nat} (hk : KOk n a b) (ht : t < 2 * n) (hu : u < 2 * n) (h : setT n a b t 3 = setT n a b u 3) : t = u := by
  have key : ∀ k, k < 3 → toneN n a b t k = toneN n a b u 0 ∨ toneN n a b t k = toneN n a b u 1 ∨ toneN n a b t k = toneN n a b u 2 := by
    intro k hk3
    have h1 := (setT_bit (n := n) (a := a) (b := b) (t := t) (y := toneN n a b t k)).2 ⟨k, hk3, rfl⟩
    rw [h] at h1
    obtain ⟨j, hj, e⟩ := setT_bit.1 h1
    rcases (show j = 0 ∨ j = 1 ∨ j = 2 by omega) with rfl | rfl | rfl
    · exact .inl e.symm
    · exact .inr (.inl e.symm)
    · exact .inr (.inr e.symm)
  exact three_same hk ht hu (three_of hk ht) (three_of hk hu) (key 0 (by omega)) (key 1 (by omega)) (key 2 (by omega))

/-- What Find answers. -/
def FindIs (n a b s r e : Nat) : Prop := (r < 2 * n ∧ setT n a b r 3 = s ∧ e = 0) ∨ ((∀ t, t < 2 * n → setT n a b t 3 ≠ s) ∧ r = 0 ∧ e = 4)
theorem FindIs.same {n a b s r e r' e' : Nat} (hk : KOk n a b) (h : FindIs n a b s r e) (h' : FindIs n a b s r' e') : r = r' ∧ e = e' := by
  rcases h with ⟨h1, h2, rfl⟩ | ⟨h1, rfl, rfl⟩ <;> rcases h' with ⟨g1, g2, rfl⟩ | ⟨g1, rfl, rfl⟩
  · exact ⟨setT_inj hk h1 g1 (h2.trans g2.symm), rfl⟩
  · exact (g1 _ h1 h2).elim
  · exact (h1 _ g1 g2).elim
  · exact ⟨rfl, rfl⟩

/-- The triad on a tone, of a sort. -/
def onT (n : Nat) (d : Bool) (y : Nat) : Nat := tri n d (y : Int)
theorem onT_lt {n y : Nat} (hn : 0 < n) (d : Bool) : onT n d y < 2 * n := tri_lt hn _ _
theorem onT_eq {n y : Nat} (hy : y < n) (d : Bool) : onT n d y = (if d then n else 0) + y := by
  unfold onT tri
  rw [Int.emod_eq_of_lt (by omega) (by omega), Int.toNat_natCast]
/-- A triad has the tone on which it is numbered. -/
theorem root_tone {n a b t : Nat} (hk : KOk n a b) (ht : t < 2 * n) : ∃ d y, y < n ∧ t = onT n d y ∧ (setT n a b t 3).testBit y = true := by
  have hn := hk.pos
  by_cases h : t < n
  · exact ⟨false, t, h, by rw [onT_eq h]; simp, setT_bit.2 ⟨0, by omega, by have := tone_light (k := 0) hk h; rw [show offN a b 0 = 0 from rfl] at this; omega⟩⟩
  · exact ⟨true, t - n, by omega, by rw [onT_eq (by omega)]; simp; omega, setT_bit.2 ⟨0, by omega, by
      have := tone_dark (k := 0) hk h ht
      have h2 := toneN_lt hk t 0
      rw [show offN a b 0 = 0 from rfl] at this; omega⟩⟩
theorem find_none {n a b s : Nat} (hk : KOk n a b) (h : ∀ y, s.testBit y = true → ∀ d, setT n a b (onT n d y) 3 ≠ s) : ∀ t, t < 2 * n → setT n a b t 3 ≠ s := by
  intro t ht e
  obtain ⟨d, y, hy, rfl, hb⟩ := root_tone hk ht
  rw [e] at hb
  exact h y hb d e
end Go.Proofs.YtibkhjbcagihbaaDoor
