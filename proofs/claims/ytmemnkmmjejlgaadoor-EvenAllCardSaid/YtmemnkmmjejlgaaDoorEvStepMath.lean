/-
  Even scales without a factor in common are made by a step: counted out for one of each, and moved. Plain mathematics.
-/
import Derived.Test.YtmemnkmmjejlgaaDoorEvMake
namespace Go.Proofs.YtmemnkmmjejlgaaDoor
set_option maxRecDepth 100000

def exLt (f : Nat → Bool) : Nat → Bool
  | 0 => false
  | k + 1 => Bool.or (f k) (exLt f k)
theorem exLt_spec (f : Nat → Bool) : ∀ k, exLt f k = true ↔ ∃ i, i < k ∧ f i = true := by
  intro k
  induction k with
  | zero => simp [exLt]
  | succ k ih =>
    show (f k || exLt f k) = true ↔ _
    rw [Bool.or_eq_true, ih]
    constructor
    · rintro (h | ⟨i, hi, h⟩)
      · exact ⟨k, by omega, h⟩
      · exact ⟨i, by omega, h⟩
    · rintro ⟨i, hi, h⟩
      by_cases e : i = k
      · subst e; exact Or.inl h
      · exact Or.inr ⟨i, by omega, h⟩

/-- k steps, for reckoning. -/
def mkK (n g c : Nat) : Nat → Nat
  | 0 => 0
  | i + 1 => Nat.lor (mkK n g c i) (Nat.shiftLeft 1 (Nat.mod (Nat.add c (Nat.mul i g)) n))
theorem mkK_eq (n g k c : Nat) : mkK n g c k = mkN n g k c := by
  induction k with
  | zero => rfl
  | succ k ih =>
    unfold mkN
    rw [List.range_succ, orL_snoc]
    show Nat.lor (mkK n g c k) _ = _
    rw [ih]
    rfl

def madeK (n g k s : Nat) : Bool := exLt (fun c => Nat.beq (mkK n g c k) s) n
theorem madeK_iff {n g k s : Nat} : madeK n g k s = true ↔ ∃ c, c < n ∧ mkN n g k c = s := by
  unfold madeK
  rw [exLt_spec]
  constructor
  · rintro ⟨c, hc, h⟩
    have h2 := Nat.eq_of_beq_eq_true h
    rw [mkK_eq] at h2
    exact ⟨c, hc, h2⟩
  · rintro ⟨c, hc, h⟩
    exact ⟨c, hc, by rw [mkK_eq, h]; exact Nat.beq_refl _⟩

def oneUp (n k g : Nat) : Bool := Bool.or (Nat.beq (Nat.mod (Nat.mul k g) n) 1) (Nat.beq (Nat.mod (Nat.mul k g) n) (Nat.sub n 1))

/-- What is counted out. -/
def stepOk (n k : Nat) : Bool :=
  Bool.or (Bool.not (Nat.beq (Nat.gcd n k) 1)) (Bool.and (exLt (fun g => Bool.and (Nat.ble 1 g) (madeK n g k (sprK n 0 k k))) n)
    (Bool.or (Nat.ble k 1) (Bool.or (Bool.and (Nat.beq (Nat.add k 1) n) (madeK n 1 k (sprK n 0 k k))) (allLt (fun g => Bool.or (Nat.beq g 0) (Bool.or (Bool.not (madeK n g k (sprK n 0 k k))) (oneUp n k g))) n))))
def stepChk : Bool := allLt (fun n => Bool.or (Nat.ble n 1) (allLt (fun k => Bool.or (Nat.beq k 0) (stepOk n k)) (Nat.add n 1))) 17
theorem stepChk_true : stepChk = true := by decide +kernel

theorem mkN_move {n g k c u : Nat} (hn : 1 ≤ n) (hu : u < n) : mkN n g k ((c + u) % n) = mvN n (mkN n g k c) u := by
  apply Nat.eq_of_testBit_eq
  intro x
  rw [testBit_mv hu (mkN_lt hn)]
  by_cases hx : x < n
  · rw [decide_eq_true hx, Bool.true_and]
    unfold mkN
    rw [testBit_orL, testBit_orL, Bool.eq_iff_iff, List.any_eq_true, List.any_eq_true]
    have key : ∀ i, ((c + u) % n + i * g) % n = x ↔ (c + i * g) % n = (x + n - u) % n := by
      intro i
      rw [Nat.mod_add_mod, show c + u + i * g = c + i * g + u from by omega]
      generalize c + i * g = y
      have e1 : (y + u) % n = (y % n + u) % n := by rw [Nat.mod_add_mod]
      rw [e1]
      have hy := Nat.mod_lt y hn
      generalize y % n = z at *
      by_cases h1 : z + u < n
      · rw [Nat.mod_eq_of_lt h1]
        by_cases h2 : u ≤ x
        · rw [show x + n - u = (x - u) + n from by omega, Nat.add_mod_right, Nat.mod_eq_of_lt (by omega)]; omega
        · rw [Nat.mod_eq_of_lt (show x + n - u < n by omega)]; omega
      · rw [show z + u = (z + u - n) + n from by omega, Nat.add_mod_right, Nat.mod_eq_of_lt (show z + u - n < n by omega)]
        by_cases h2 : u ≤ x
        · rw [show x + n - u = (x - u) + n from by omega, Nat.add_mod_right, Nat.mod_eq_of_lt (show x - u < n by omega)]; omega
        · rw [Nat.mod_eq_of_lt (show x + n - u < n by omega)]; omega
    constructor
    · rintro ⟨i, hi, h⟩
      exact ⟨i, hi, decide_eq_true ((key i).1 (of_decide_eq_true h))⟩
    · rintro ⟨i, hi, h⟩
      exact ⟨i, hi, decide_eq_true ((key i).2 (of_decide_eq_true h))⟩
  · rw [decide_eq_false hx, Bool.false_and]
    exact Nat.testBit_lt_two_pow (Nat.lt_of_lt_of_le (mkN_lt hn) (Nat.pow_le_pow_right (by omega) (by omega)))

theorem made_move {n g k s u : Nat} (hn : 1 ≤ n) (hs : s < 2 ^ n) (hu : u < n) : (∃ c, c < n ∧ mkN n g k c = mvN n s u) ↔ ∃ c, c < n ∧ mkN n g k c = s := by
  have hinj : ∀ a b, a < 2 ^ n → b < 2 ^ n → mvN n a u = mvN n b u → a = b := by
    intro a b ha hb h
    apply Nat.eq_of_testBit_eq
    intro x
    by_cases hx : x < n
    · have h1 := congrArg (fun z => z.testBit ((x + u) % n)) h
      simp only [testBit_mv hu ha, testBit_mv hu hb, decide_eq_true (Nat.mod_lt (x + u) hn), Bool.true_and] at h1
      have e : ((x + u) % n + n - u) % n = x := by
        by_cases h2 : x + u < n
        · rw [Nat.mod_eq_of_lt h2, show x + u + n - u = x + n from by omega, Nat.add_mod_right, Nat.mod_eq_of_lt hx]
        · rw [show x + u = (x + u - n) + n from by omega, Nat.add_mod_right, Nat.mod_eq_of_lt (show x + u - n < n by omega), show x + u - n + n - u = x from by omega, Nat.mod_eq_of_lt hx]
      rwa [e] at h1
    · rw [Nat.testBit_lt_two_pow (Nat.lt_of_lt_of_le ha (Nat.pow_le_pow_right (by omega) (by omega))), Nat.testBit_lt_two_pow (Nat.lt_of_lt_of_le hb (Nat.pow_le_pow_right (by omega) (by omega)))]
  constructor
  · rintro ⟨c, hc, h⟩
    refine ⟨(c + (n - u)) % n, Nat.mod_lt _ hn, ?_⟩
    apply hinj _ _ (mkN_lt hn) hs
    rw [← mkN_move hn hu, Nat.mod_add_mod, show c + (n - u) + u = c + n from by omega, Nat.add_mod_right, Nat.mod_eq_of_lt hc, h]
  · rintro ⟨c, hc, h⟩
    exact ⟨(c + u) % n, Nat.mod_lt _ hn, by rw [mkN_move hn hu, h]⟩

theorem step_ok {n k : Nat} (h1 : 2 ≤ n) (h2 : n ≤ 16) (h3 : 1 ≤ k) (h4 : k ≤ n) (hg : Nat.gcd n k = 1) :
    (∃ g, 1 ≤ g ∧ g < n ∧ ∃ c, c < n ∧ mkN n g k c = sprN n k 0) ∧
    (k ≤ 1 ∨ (k + 1 = n ∧ ∃ c, c < n ∧ mkN n 1 k c = sprN n k 0) ∨ ∀ g, 1 ≤ g → g < n → (∃ c, c < n ∧ mkN n g k c = sprN n k 0) → k * g % n = 1 ∨ k * g % n = n - 1) := by
  have c1 := allLt_spec _ _ stepChk_true n (by omega)
  have c2 := (Bool.or_eq_true_iff.1 (show (_ || _) = true from c1)).resolve_left (fun h => by have := Nat.le_of_ble_eq_true h; omega)
  have c3 := allLt_spec _ _ c2 k (by show k < n + 1; omega)
  have c4 := (Bool.or_eq_true_iff.1 (show (_ || _) = true from c3)).resolve_left (fun h => by have := Nat.eq_of_beq_eq_true h; omega)
  have c5 := (Bool.or_eq_true_iff.1 (show (_ || _) = true from c4)).resolve_left (fun h => by rw [hg] at h; cases h)
  obtain ⟨c6, c7⟩ := Bool.and_eq_true_iff.1 (show (_ && _) = true from c5)
  have es := sprK_eq n 0 k
  rw [es] at c6 c7
  refine ⟨?_, ?_⟩
  · obtain ⟨g, hg1, h⟩ := (exLt_spec _ _).1 c6
    obtain ⟨h5, h6⟩ := Bool.and_eq_true_iff.1 (show (_ && _) = true from h)
    exact ⟨g, Nat.le_of_ble_eq_true h5, hg1, madeK_iff.1 h6⟩
  · rcases Bool.or_eq_true_iff.1 (show (_ || _) = true from c7) with h | h
    · exact Or.inl (Nat.le_of_ble_eq_true h)
    · rcases Bool.or_eq_true_iff.1 (show (_ || _) = true from h) with h | h
      · obtain ⟨h5, h6⟩ := Bool.and_eq_true_iff.1 (show (_ && _) = true from h)
        exact Or.inr (Or.inl ⟨Nat.eq_of_beq_eq_true h5, madeK_iff.1 h6⟩)
      · refine Or.inr (Or.inr (fun g hg1 hg2 hm => ?_))
        have h5 := allLt_spec _ _ h g hg2
        have h6 := (Bool.or_eq_true_iff.1 (show (_ || _) = true from h5)).resolve_left (fun h => by have := Nat.eq_of_beq_eq_true h; omega)
        have h7 := (Bool.or_eq_true_iff.1 (show (_ || _) = true from h6)).resolve_left (fun h => by rw [madeK_iff.2 hm] at h; cases h)
        rcases Bool.or_eq_true_iff.1 (show (_ || _) = true from h7) with h | h
        · exact Or.inl (Nat.eq_of_beq_eq_true h)
        · exact Or.inr (Nat.eq_of_beq_eq_true h)

end Go.Proofs.YtmemnkmmjejlgaaDoor
