/-
  The tones of a triad as numbers. Plain mathematics.
-/
import Derived.Test.YtibkhjbcagihbaaDoorBits
import Derived.Test.YtibkhjbcagihbaaDoorTrMath
namespace Go.Proofs.YtibkhjbcagihbaaDoor

/-- How far above the first tone. -/
def offN (a b k : Nat) : Nat := if k = 0 then 0 else if k = 1 then a else b
/-- The tones of a triad, one after the other. -/
def toneN (n a b t k : Nat) : Nat := if t < n then (t % n + offN a b k) % n else (t % n + (n - offN a b k)) % n
def setT (n a b t j : Nat) : Nat := orL (toneN n a b t) (List.range j)
theorem offN_lt {n a b : Nat} (hk : KOk n a b) (k : Nat) : offN a b k < n := by
  have h1 := hk.hab
  have h2 := hk.hbn
  have h3 := hk.pos
  unfold offN; split <;> (try split) <;> omega
theorem toneN_lt {n a b : Nat} (hk : KOk n a b) (t k : Nat) : toneN n a b t k < n := by
  have h3 := hk.pos
  unfold toneN; split <;> exact Nat.mod_lt _ h3
theorem setT_succ (n a b t j : Nat) : setT n a b t (j + 1) = setT n a b t j ||| 2 ^ (toneN n a b t j) := by
  unfold setT
  rw [List.range_succ, orL_snoc, Nat.one_shiftLeft]
theorem setT_lt {n a b : Nat} (hk : KOk n a b) (t j : Nat) : setT n a b t j < 2 ^ n := orL_lt _ _ _ (fun _ _ => toneN_lt hk _ _)
theorem tone_up {n a b t k : Nat} (hk : KOk n a b) (h : t < n) : ((t : Int).tmod n + (offN a b k : Nat)) % n = (toneN n a b t k : Nat) := by
  unfold toneN
  rw [if_pos h, Int.tmod_eq_emod_of_nonneg (by omega)]; simp
theorem tone_down {n a b t k : Nat} (hk : KOk n a b) (h : ¬ t < n) : ((t : Int).tmod n + -(offN a b k : Nat)) % n = (toneN n a b t k : Nat) := by
  have hlt := offN_lt hk k
  unfold toneN
  rw [if_neg h, Int.tmod_eq_emod_of_nonneg (by omega), Int.natCast_emod, Int.natCast_add, Int.natCast_emod]
  have e : ((t : Int) % n + -(offN a b k : Nat)) = ((t : Int) % n + ((n - offN a b k : Nat) : Int)) + (n : Int) * (-1) := by omega
  rw [e, Int.add_mul_emod_self_left]

theorem tone0_eq (n a b t : Nat) (hk : KOk n a b) (_ : t < 2 * n) : ((t : Int).tmod n) = (toneN n a b t 0 : Nat) := by
  rw [Int.tmod_eq_emod_of_nonneg (by omega)]
  have hl := toneN_lt hk t 0
  by_cases h : t < n
  · have := tone_up (k := 0) hk h
    rw [show ((offN a b 0 : Nat) : Int) = 0 from rfl, Int.add_zero, Int.tmod_eq_emod_of_nonneg (by omega), Int.emod_emod_of_dvd _ (Int.dvd_refl _)] at this
    exact this
  · have := tone_down (k := 0) hk h
    rw [show ((offN a b 0 : Nat) : Int) = 0 from rfl, Int.neg_zero, Int.add_zero, Int.tmod_eq_emod_of_nonneg (by omega), Int.emod_emod_of_dvd _ (Int.dvd_refl _)] at this
    exact this

end Go.Proofs.YtibkhjbcagihbaaDoor
