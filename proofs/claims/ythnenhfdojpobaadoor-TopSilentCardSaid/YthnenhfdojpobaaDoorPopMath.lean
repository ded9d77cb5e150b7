/-
  The library's way of counting the ones of a number below 2^24: byte after byte. Plain mathematics.
-/
import Derived.Test.YthnenhfdojpobaaDoorCaMath
namespace Go.Proofs.YthnenhfdojpobaaDoor
set_option maxRecDepth 100000

def popS1 (x : Nat) : Nat := Nat.add (Nat.land (Nat.shiftRight x 1) 6148914691236517205) (Nat.land x 6148914691236517205)
def popS2 (x : Nat) : Nat := Nat.add (Nat.land (Nat.shiftRight x 2) 3689348814741910323) (Nat.land x 3689348814741910323)
def popS3 (x : Nat) : Nat := Nat.land (Nat.add (Nat.shiftRight x 4) x) 1085102592571150095
def popS4 (x : Nat) : Nat := Nat.add x (Nat.shiftRight x 8)
def popS5 (x : Nat) : Nat := Nat.add x (Nat.shiftRight x 16)
def popS6 (x : Nat) : Nat := Nat.add x (Nat.shiftRight x 32)
def popGo (x : Nat) : Nat := Nat.land (popS6 (popS5 (popS4 (popS3 (popS2 (popS1 x)))))) 127

theorem land_cat (k r a M m : Nat) (ha : a < 2 ^ k) (hm : m < 2 ^ k) : Nat.land (2 ^ k * r + a) (2 ^ k * M + m) = 2 ^ k * Nat.land r M + Nat.land a m := by
  show (2 ^ k * r + a) &&& (2 ^ k * M + m) = 2 ^ k * (r &&& M) + (a &&& m)
  apply Nat.eq_of_testBit_eq
  intro i
  rw [Nat.testBit_and, Nat.testBit_two_pow_mul_add _ ha, Nat.testBit_two_pow_mul_add _ hm, Nat.testBit_two_pow_mul_add _ (Nat.lt_of_le_of_lt Nat.and_le_left ha)]
  by_cases h : i < k
  · simp [h]
  · simp [h]

theorem land_low (k r c m : Nat) (hr : r < 2 ^ k) (hm : m < 2 ^ k) : Nat.land r (2 ^ k * c + m) = Nat.land r m := by
  have h := land_cat k 0 r c m hr hm
  rw [Nat.mul_zero, Nat.zero_add] at h
  rw [h]
  have : Nat.land 0 c = 0 := Nat.zero_and c
  rw [this]; omega

theorem shr (x k : Nat) : Nat.shiftRight x k = x / 2 ^ k := Nat.shiftRight_eq_div_pow x k

theorem byteA : ∀ d : Fin 256, ∀ e : Fin 2, Nat.land (d.val / 2 + 128 * e.val) 85 = Nat.land (d.val / 2) 85 := by decide +kernel
theorem byteB : ∀ d : Fin 256, ∀ e : Fin 4, Nat.land (d.val / 4 + 64 * e.val) 51 = Nat.land (d.val / 4) 51 := by decide +kernel
theorem byteC : ∀ d : Fin 69, ∀ e : Fin 5, Nat.land (d.val / 16 + 16 * e.val + d.val) 15 = Nat.land (d.val / 16 + d.val) 15 := by decide +kernel

theorem step1 (d r : Nat) (hd : d < 256) (hr : r < 2 ^ 40) : popS1 (2 ^ 8 * r + d) = 2 ^ 8 * popS1 r + popS1 d := by
  unfold popS1
  simp only [shr, Nat.add_eq]
  have e1 : (2 ^ 8 * r + d) / 2 ^ 1 = 2 ^ 8 * (r / 2 ^ 1) + (d / 2 + 128 * (r % 2)) := by omega
  have m1 : 6148914691236517205 = 2 ^ 8 * 24019198012642645 + 85 := by decide
  have m2 : 6148914691236517205 = 2 ^ 56 * 85 + 24019198012642645 := by decide
  have a1 := byteA ⟨d, hd⟩ ⟨r % 2, by omega⟩
  dsimp only at a1
  have l1 : Nat.land (r / 2 ^ 1) 6148914691236517205 = Nat.land (r / 2 ^ 1) 24019198012642645 := by rw [m2]; exact land_low 56 _ _ _ (by omega) (by decide)
  have l2 : Nat.land r 6148914691236517205 = Nat.land r 24019198012642645 := by rw [m2]; exact land_low 56 _ _ _ (by omega) (by decide)
  have l3 : Nat.land (d / 2 ^ 1) 6148914691236517205 = Nat.land (d / 2) 85 := by rw [show (6148914691236517205 : Nat) = 2 ^ 8 * 24019198012642645 + 85 from m1]; exact land_low 8 _ _ _ (by omega) (by decide)
  have l4 : Nat.land d 6148914691236517205 = Nat.land d 85 := by rw [show (6148914691236517205 : Nat) = 2 ^ 8 * 24019198012642645 + 85 from m1]; exact land_low 8 _ _ _ (by omega) (by decide)
  rw [l1, l2, l3, l4, e1, show (6148914691236517205 : Nat) = 2 ^ 8 * 24019198012642645 + 85 from m1, land_cat 8 _ _ _ _ (by omega) (by decide), land_cat 8 _ _ _ _ (by omega) (by decide), a1]
  omega

theorem step2 (d r : Nat) (hd : d < 256) (hr : r < 2 ^ 40) : popS2 (2 ^ 8 * r + d) = 2 ^ 8 * popS2 r + popS2 d := by
  unfold popS2
  simp only [shr, Nat.add_eq]
  have e1 : (2 ^ 8 * r + d) / 2 ^ 2 = 2 ^ 8 * (r / 2 ^ 2) + (d / 4 + 64 * (r % 4)) := by omega
  have m1 : 3689348814741910323 = 2 ^ 8 * 14411518807585587 + 51 := by decide
  have m2 : 3689348814741910323 = 2 ^ 56 * 51 + 14411518807585587 := by decide
  have a1 := byteB ⟨d, hd⟩ ⟨r % 4, by omega⟩
  dsimp only at a1
  have l1 : Nat.land (r / 2 ^ 2) 3689348814741910323 = Nat.land (r / 2 ^ 2) 14411518807585587 := by rw [m2]; exact land_low 56 _ _ _ (by omega) (by decide)
  have l2 : Nat.land r 3689348814741910323 = Nat.land r 14411518807585587 := by rw [m2]; exact land_low 56 _ _ _ (by omega) (by decide)
  have l3 : Nat.land (d / 2 ^ 2) 3689348814741910323 = Nat.land (d / 4) 51 := by rw [m1]; exact land_low 8 _ _ _ (by omega) (by decide)
  have l4 : Nat.land d 3689348814741910323 = Nat.land d 51 := by rw [m1]; exact land_low 8 _ _ _ (by omega) (by decide)
  rw [l1, l2, l3, l4, e1, m1, land_cat 8 _ _ _ _ (by omega) (by decide), land_cat 8 _ _ _ _ (by omega) (by decide), a1]
  omega

theorem step3 (d r : Nat) (hd : d < 69) (hr : r < 2 ^ 40) (hr2 : r % 16 ≤ 4) : popS3 (2 ^ 8 * r + d) = 2 ^ 8 * popS3 r + popS3 d := by
  unfold popS3
  simp only [shr, Nat.add_eq]
  have e1 : (2 ^ 8 * r + d) / 2 ^ 4 + (2 ^ 8 * r + d) = 2 ^ 8 * (r / 2 ^ 4 + r) + (d / 16 + 16 * (r % 16) + d) := by omega
  have m1 : 1085102592571150095 = 2 ^ 8 * 4238682002231055 + 15 := by decide
  have m2 : 1085102592571150095 = 2 ^ 56 * 15 + 4238682002231055 := by decide
  have a1 := byteC ⟨d, hd⟩ ⟨r % 16, by omega⟩
  dsimp only at a1
  have l1 : Nat.land (r / 2 ^ 4 + r) 1085102592571150095 = Nat.land (r / 2 ^ 4 + r) 4238682002231055 := by rw [m2]; exact land_low 56 _ _ _ (by omega) (by decide)
  have l3 : Nat.land (d / 2 ^ 4 + d) 1085102592571150095 = Nat.land (d / 16 + d) 15 := by rw [m1]; exact land_low 8 _ _ _ (by omega) (by decide)
  rw [l1, l3, e1, m1, land_cat 8 _ _ _ _ (by omega) (by decide), a1]

theorem byteD : ∀ d : Fin 256, popS1 d.val < 256 ∧ popS2 (popS1 d.val) < 69 ∧ popS2 (popS1 d.val) % 16 ≤ 4 ∧ popS3 (popS2 (popS1 d.val)) = cardN 8 d.val ∧ cardN 8 d.val < 9 := by decide +kernel
theorem byteE : ∀ a : Fin 9, ∀ b : Fin 9, ∀ c : Fin 9, Nat.land (popS6 (popS5 (popS4 (2 ^ 8 * (2 ^ 8 * a.val + b.val) + c.val)))) 127 = a.val + b.val + c.val := by decide +kernel

theorem bI_cat (r d t : Nat) (hd : d < 2 ^ 8) : bI (2 ^ 8 * r + d) t = if t < 8 then bI d t else bI r (t - 8) := by
  unfold bI
  rw [Nat.testBit_two_pow_mul_add _ hd]
  split <;> rfl
theorem cardN_cat (n r d : Nat) (hd : d < 2 ^ 8) : cardN (8 + n) (2 ^ 8 * r + d) = cardN n r + cardN 8 d := by
  unfold cardN
  induction n with
  | zero =>
    rw [Nat.add_zero, show sumN 0 (bI r) = 0 from rfl, Nat.zero_add]
    exact sum_congr (fun i hi => by rw [bI_cat _ _ _ hd, if_pos hi])
  | succ n ih =>
    rw [show 8 + (n + 1) = (8 + n) + 1 from by omega]
    simp only [sumN]
    simp only [sumN] at ih
    rw [ih, bI_cat _ _ _ hd, if_neg (by omega), show 8 + n - 8 = n from by omega]
    omega

theorem popGo_tones {c : Nat} (hc : c < 2 ^ 24) : popGo c = (tonesL c).length := by
  obtain ⟨d0, r, rfl, h0, hr⟩ : ∃ d r, c = 2 ^ 8 * r + d ∧ d < 256 ∧ r < 2 ^ 16 := ⟨c % 256, c / 256, by omega, by omega, by omega⟩
  obtain ⟨d1, d2, rfl, h1, h2⟩ : ∃ d r', r = 2 ^ 8 * r' + d ∧ d < 256 ∧ r' < 256 := ⟨r % 256, r / 256, by omega, by omega, by omega⟩
  obtain ⟨x1, x2, x3, x4, x5⟩ := byteD ⟨d0, h0⟩
  obtain ⟨y1, y2, y3, y4, y5⟩ := byteD ⟨d1, h1⟩
  obtain ⟨z1, z2, z3, z4, z5⟩ := byteD ⟨d2, h2⟩
  dsimp only at *
  rw [cardN_tonesL (n := 8 + (8 + 8)) (by omega) hc, cardN_cat _ _ _ (by omega), cardN_cat _ _ _ (by omega)]
  unfold popGo
  rw [step1 d0 _ h0 (by omega), step1 d1 _ h1 (by omega), step2 _ _ x1 (by omega), step2 _ _ y1 (by omega), step3 _ _ x2 (by omega) (by omega), step3 _ _ y2 (by omega) (by omega), x4, y4, z4]
  exact byteE ⟨cardN 8 d2, z5⟩ ⟨cardN 8 d1, y5⟩ ⟨cardN 8 d0, x5⟩

end Go.Proofs.YthnenhfdojpobaaDoor
