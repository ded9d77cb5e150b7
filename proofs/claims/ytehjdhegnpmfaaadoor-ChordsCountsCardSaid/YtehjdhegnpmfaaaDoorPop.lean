/-
  tonesIn: how many tones a chord has: the library's OnesCount64, for numbers below 65536.
-/
import Derived.Test.YtehjdhegnpmfaaaDoorVecFns
namespace Go.Proofs.YtehjdhegnpmfaaaDoor
open Go.RowKit Go.Shelf
set_option maxRecDepth 100000

/-- The library's way. -/
def popS1 (x : Nat) : Nat := Nat.add (Nat.land (Nat.shiftRight x 1) 6148914691236517205) (Nat.land x 6148914691236517205)
def popS2 (x : Nat) : Nat := Nat.add (Nat.land (Nat.shiftRight x 2) 3689348814741910323) (Nat.land x 3689348814741910323)
def popS3 (x : Nat) : Nat := Nat.land (Nat.add (Nat.shiftRight x 4) x) 1085102592571150095
def popS4 (x : Nat) : Nat := Nat.add x (Nat.shiftRight x 8)
def popS5 (x : Nat) : Nat := Nat.add x (Nat.shiftRight x 16)
def popS6 (x : Nat) : Nat := Nat.add x (Nat.shiftRight x 32)
def popGo (x : Nat) : Nat := Nat.land (popS6 (popS5 (popS4 (popS3 (popS2 (popS1 x)))))) 127

/-- Bit after bit. -/
def popBits (x : Nat) : Nat :=
  Nat.add (Nat.land x 1) (Nat.add (Nat.land (Nat.shiftRight x 1) 1) (Nat.add (Nat.land (Nat.shiftRight x 2) 1) (Nat.add (Nat.land (Nat.shiftRight x 3) 1)
  (Nat.add (Nat.land (Nat.shiftRight x 4) 1) (Nat.add (Nat.land (Nat.shiftRight x 5) 1) (Nat.add (Nat.land (Nat.shiftRight x 6) 1) (Nat.add (Nat.land (Nat.shiftRight x 7) 1)
  (Nat.add (Nat.land (Nat.shiftRight x 8) 1) (Nat.add (Nat.land (Nat.shiftRight x 9) 1) (Nat.add (Nat.land (Nat.shiftRight x 10) 1) (Nat.add (Nat.land (Nat.shiftRight x 11) 1)
  (Nat.add (Nat.land (Nat.shiftRight x 12) 1) (Nat.add (Nat.land (Nat.shiftRight x 13) 1) (Nat.add (Nat.land (Nat.shiftRight x 14) 1) (Nat.land (Nat.shiftRight x 15) 1)))))))))))))))

def popRow (h : Nat) : Nat → Bool
  | 0 => true
  | l + 1 => Bool.and (Nat.beq (popGo (Nat.add (Nat.mul 256 h) l)) (popBits (Nat.add (Nat.mul 256 h) l))) (popRow h l)
def popAll : Nat → Bool
  | 0 => true
  | h + 1 => Bool.and (popRow h 256) (popAll h)

theorem popAll_true : popAll 256 = true := by decide +kernel

theorem popRow_spec (h : Nat) : ∀ k, popRow h k = true → ∀ l, l < k → popGo (256 * h + l) = popBits (256 * h + l) := by
  intro k
  induction k with
  | zero => intro _ l hl; omega
  | succ k ih =>
    intro hk l hl
    have h1 := (Bool.and_eq_true_iff.1 (show (Bool.and _ _) = true from hk))
    by_cases e : l = k
    · subst e; exact Nat.eq_of_beq_eq_true h1.1
    · exact ih h1.2 l (by omega)
theorem popAll_spec : ∀ k, popAll k = true → ∀ h, h < k → ∀ l, l < 256 → popGo (256 * h + l) = popBits (256 * h + l) := by
  intro k
  induction k with
  | zero => intro _ h hh; omega
  | succ k ih =>
    intro hk h hh l hl
    have h1 := (Bool.and_eq_true_iff.1 (show (Bool.and _ _) = true from hk))
    by_cases e : h = k
    · subst e; exact popRow_spec _ 256 h1.1 l hl
    · exact ih h1.2 h (by omega) l hl

theorem bI_and (c i : Nat) : bI c i = Nat.land (Nat.shiftRight c i) 1 := by
  unfold bI
  have e : Nat.land (Nat.shiftRight c i) 1 = (c >>> i) % 2 := Nat.and_one_is_mod (c >>> i)
  rw [e, Nat.shiftRight_eq_div_pow, Nat.testBit_eq_decide_div_mod_eq]
  have := Nat.mod_two_eq_zero_or_one (c / 2 ^ i)
  rcases this with h | h <;> simp [h]

theorem popBits_tones {c : Nat} (hc : c < 65536) : popBits c = (tonesL c).length := by
  rw [tonesL_eq c (n := 16) (by omega) (by omega), tonesB_count]
  simp only [sumN, bI_and]
  unfold popBits
  have e0 : Nat.land (Nat.shiftRight c 0) 1 = Nat.land c 1 := rfl
  rw [e0]
  simp only [Nat.add_eq]
  omega

theorem popGo_tones {c : Nat} (hc : c < 65536) : popGo c = (tonesL c).length := by
  have := popAll_spec 256 popAll_true (c / 256) (by omega) (c % 256) (by omega)
  rw [show 256 * (c / 256) + c % 256 = c from by omega] at this
  rw [this, popBits_tones hc]

end Go.Proofs.YtehjdhegnpmfaaaDoor
