/-
  Bits of integers that are not negative, and chords as numbers: moving, multiplying, tones. Plain mathematics; no program is spoken of.
-/
import Derived.WalkKit
import Derived.Lib.TrailingZeros

namespace Go.Proofs.YthnenhfdojpobaaDoor
open Go.RowKit

theorem ofInt_nat (a : Nat) (k : Nat) (h : a < 2 ^ k) : (BitVec.ofInt k (a : Int)).toNat = a := by
  rw [BitVec.toNat_ofInt]
  have e : ((a : Int) % (2 ^ k : Nat)) = a := Int.emod_eq_of_lt (by omega) (by exact_mod_cast h)
  rw [e]; simp

theorem wrap_nat (a : Nat) (h : a < 2 ^ 63) : IntKind.i64.wrap (a : Int) = a := by
  rw [IntKind.wrap_i64]; omega

theorem wrap_natu (a : Nat) (h : a < 2 ^ 64) : IntKind.u64.wrap (a : Int) = a := by
  simp [IntKind.wrap, IntKind.bits, IntKind.signed]; omega

theorem and_nat (a b : Nat) (ha : a < 2 ^ 63) (hb : b < 2 ^ 63) : bits .and .i64 (a : Int) (b : Int) = ((a &&& b : Nat) : Int) := by
  have h1 : a < 2 ^ IntKind.i64.bits := by simp [IntKind.bits]; omega
  have h2 : b < 2 ^ IntKind.i64.bits := by simp [IntKind.bits]; omega
  simp only [bits]
  rw [BitVec.toNat_and, ofInt_nat a _ h1, ofInt_nat b _ h2]
  exact wrap_nat _ (Nat.lt_of_le_of_lt Nat.and_le_left ha)

theorem or_nat (a b : Nat) (ha : a < 2 ^ 63) (hb : b < 2 ^ 63) : bits .or .i64 (a : Int) (b : Int) = ((a ||| b : Nat) : Int) := by
  have h1 : a < 2 ^ IntKind.i64.bits := by simp [IntKind.bits]; omega
  have h2 : b < 2 ^ IntKind.i64.bits := by simp [IntKind.bits]; omega
  simp only [bits]
  rw [BitVec.toNat_or, ofInt_nat a _ h1, ofInt_nat b _ h2]
  exact wrap_nat _ (Nat.or_lt_two_pow ha hb)

theorem andu_nat (a b : Nat) (ha : a < 2 ^ 64) (hb : b < 2 ^ 64) : bits .and .u64 (a : Int) (b : Int) = ((a &&& b : Nat) : Int) := by
  have h1 : a < 2 ^ IntKind.u64.bits := by simpa [IntKind.bits] using ha
  have h2 : b < 2 ^ IntKind.u64.bits := by simpa [IntKind.bits] using hb
  simp only [bits]
  rw [BitVec.toNat_and, ofInt_nat a _ h1, ofInt_nat b _ h2]
  exact wrap_natu _ (Nat.lt_of_le_of_lt Nat.and_le_left ha)

/-! ### moving -/

/-- A chord moved by u, as the program makes it. -/
def mvN (n c u : Nat) : Nat := ((c <<< u) ||| (c >>> (n - u))) &&& (2 ^ n - 1)

theorem testBit_mv {n c u : Nat} (hu : u < n) (hc : c < 2 ^ n) (i : Nat) : (mvN n c u).testBit i = (decide (i < n) && c.testBit ((i + n - u) % n)) := by
  unfold mvN
  rw [Nat.testBit_and, Nat.testBit_or, Nat.testBit_two_pow_sub_one, Nat.testBit_shiftLeft, Nat.testBit_shiftRight]
  by_cases h : i < n
  · simp only [h, decide_true, Bool.and_true, Bool.true_and]
    by_cases h2 : u ≤ i
    · have e : (i + n - u) % n = i - u := by
        rw [show i + n - u = (i - u) + n from by omega, Nat.add_mod_right, Nat.mod_eq_of_lt (by omega)]
      have e2 : c.testBit (n - u + i) = false := Nat.testBit_lt_two_pow (Nat.lt_of_lt_of_le hc (Nat.pow_le_pow_right (by omega) (by omega)))
      rw [e, e2]; simp [h2]
    · have e : (i + n - u) % n = n - u + i := by
        rw [Nat.mod_eq_of_lt (by omega)]; omega
      rw [e]; simp [h2]
  · simp [h]

theorem mv_lt {n c u : Nat} : mvN n c u < 2 ^ n := Nat.lt_of_le_of_lt Nat.and_le_right (by have := Nat.two_pow_pos n; omega)

/-! ### a set of tones out of a list -/

/-- All f t, t out of the list, as a set. -/
def orL (f : Nat → Nat) (l : List Nat) : Nat := l.foldl (fun acc t => acc ||| (1 <<< f t)) 0

theorem testBit_one_shl (k i : Nat) : (1 <<< k).testBit i = decide (k = i) := by
  rw [Nat.one_shiftLeft, Nat.testBit_two_pow]

theorem testBit_orL_aux (f : Nat → Nat) (l : List Nat) (a i : Nat) : (l.foldl (fun acc t => acc ||| (1 <<< f t)) a).testBit i = (a.testBit i || l.any (fun t => decide (f t = i))) := by
  induction l generalizing a with
  | nil => simp
  | cons x l ih => rw [List.foldl_cons, ih, Nat.testBit_or, testBit_one_shl, List.any_cons, Bool.or_assoc]

theorem testBit_orL (f : Nat → Nat) (l : List Nat) (i : Nat) : (orL f l).testBit i = l.any (fun t => decide (f t = i)) := by
  unfold orL; rw [testBit_orL_aux]; simp

theorem orL_snoc (f : Nat → Nat) (l : List Nat) (x : Nat) : orL f (l ++ [x]) = orL f l ||| (1 <<< f x) := by
  unfold orL; rw [List.foldl_append]; rfl

theorem orL_lt (f : Nat → Nat) (l : List Nat) (n : Nat) (h : ∀ t ∈ l, f t < n) : orL f l < 2 ^ n := by
  apply Nat.lt_pow_two_of_testBit
  intro i hi
  rw [testBit_orL, List.any_eq_false]
  intro t ht
  have := h t ht
  simp; omega

/-! ### the tones of a chord -/

/-- The tones of a chord, rising. -/
def tonesL (c : Nat) : List Nat := (List.range 64).filter (c.testBit ·)

/-- The tones below n. -/
def tonesB (n c : Nat) : List Nat := (List.range n).filter (c.testBit ·)

theorem tonesB_ext (c : Nat) {n m : Nat} (h : n ≤ m) (hc : c < 2 ^ n) : tonesB m c = tonesB n c := by
  unfold tonesB
  obtain ⟨k, rfl⟩ := Nat.exists_eq_add_of_le h
  rw [List.range_add, List.filter_append]
  have : (List.map (fun x => n + x) (List.range k)).filter (c.testBit ·) = [] := by
    rw [List.filter_eq_nil_iff]
    intro x hx
    obtain ⟨y, _, rfl⟩ := List.mem_map.1 hx
    have : c.testBit (n + y) = false := Nat.testBit_lt_two_pow (Nat.lt_of_lt_of_le hc (Nat.pow_le_pow_right (by omega) (by omega)))
    simp [this]
  rw [this, List.append_nil]

theorem tonesL_eq (c : Nat) {n : Nat} (h : n ≤ 64) (hc : c < 2 ^ n) : tonesL c = tonesB n c := tonesB_ext c h hc

theorem mem_tonesL {c t : Nat} : t ∈ tonesL c ↔ t < 64 ∧ c.testBit t = true := by
  unfold tonesL; simp

theorem tonesL_length (c : Nat) : (tonesL c).length ≤ 64 := by
  unfold tonesL; exact Nat.le_trans (List.length_filter_le _ _) (by simp)

theorem tonesL_zero : tonesL 0 = [] := by unfold tonesL; simp

/-- A list that is rising and has the members of another that is rising is that. -/
theorem filter_step (n c : Nat) (p : Nat) (hp : c.testBit p = true) (hn : p < n) (hlow : ∀ i, i < p → c.testBit i = false) (d : Nat) (hd : ∀ i, d.testBit i = (c.testBit i && decide (i ≠ p))) :
    (List.range n).filter (c.testBit ·) = p :: (List.range n).filter (d.testBit ·) := by
  obtain ⟨k, rfl⟩ := Nat.exists_eq_add_of_lt hn
  rw [show p + k + 1 = p + (1 + k) from by omega, List.range_add, List.filter_append, List.filter_append]
  have e1 : (List.range p).filter (c.testBit ·) = [] := by
    rw [List.filter_eq_nil_iff]; intro x hx; simp [hlow x (List.mem_range.1 hx)]
  have e2 : (List.range p).filter (d.testBit ·) = [] := by
    rw [List.filter_eq_nil_iff]; intro x hx; simp [hd, hlow x (List.mem_range.1 hx)]
  rw [e1, e2, List.nil_append, List.nil_append, show 1 + k = (0 + 1) + k from by omega, List.range_add]
  simp only [Nat.zero_add, List.range_one, List.map_append, List.map_cons, List.map_nil, Nat.add_zero, List.filter_append]
  have e3 : [p].filter (c.testBit ·) = [p] := by simp [hp]
  have e4 : [p].filter (d.testBit ·) = [] := by simp [hd]
  rw [e3, e4, List.nil_append, List.singleton_append]
  congr 1
  apply List.filter_congr
  intro x hx
  simp only [List.map_map, List.mem_map, List.mem_range, Function.comp] at hx
  obtain ⟨y, _, rfl⟩ := hx
  rw [hd]; simp

/-- The lowest tone: of a set that is not empty the list begins with it, and goes on with the others. -/
theorem ctz_bits (c : Nat) (h0 : c ≠ 0) (hc : c < 2 ^ 64) : Lib.ctz 64 c < 64 ∧ c.testBit (Lib.ctz 64 c) = true ∧ (∀ i, i < Lib.ctz 64 c → c.testBit i = false) ∧
    ∀ i, (c &&& (c - 1)).testBit i = (c.testBit i && decide (i ≠ Lib.ctz 64 c)) := by
  obtain ⟨m, hm, hk⟩ := Lib.ctzFrom_spec 64 c (by omega) hc
  have e : Lib.ctz 64 c = Lib.ctzFrom 64 c := by unfold Lib.ctz; rw [if_neg h0]
  rw [e]
  generalize Lib.ctzFrom 64 c = k at hm hk
  have hp := Nat.two_pow_pos k
  have e1 : c = 2 ^ k * (2 * m + 1) + 0 := by omega
  have e2 : c - 1 = 2 ^ k * (2 * m) + (2 ^ k - 1) := by
    have : 2 ^ k * (2 * m + 1) = 2 ^ k * (2 * m) + 2 ^ k := by rw [Nat.mul_add, Nat.mul_one]
    omega
  have b1 : ∀ i, c.testBit i = if i < k then false else (2 * m + 1).testBit (i - k) := by
    intro i; rw [e1, Nat.testBit_two_pow_mul_add _ hp]; simp
  have b2 : ∀ i, (c - 1).testBit i = if i < k then (2 ^ k - 1).testBit i else (2 * m).testBit (i - k) := by
    intro i; rw [e2, Nat.testBit_two_pow_mul_add _ (by omega)]
  refine ⟨hk, ?_, ?_, ?_⟩
  · rw [b1]; simp
  · intro i hi; rw [b1, if_pos hi]
  · intro i
    rw [Nat.testBit_and, b1, b2]
    by_cases h : i < k
    · simp [h]
    · rw [if_neg h, if_neg h]
      by_cases h2 : i = k
      · subst h2; simp
      · obtain ⟨d, hd⟩ : ∃ d, i - k = d + 1 := ⟨i - k - 1, by omega⟩
        rw [hd, Nat.testBit_succ, Nat.testBit_succ]
        have x1 : (2 * m + 1) / 2 = m := by omega
        have x2 : (2 * m) / 2 = m := by omega
        rw [x1, x2]; simp [h2]

theorem tonesL_step (c : Nat) (h0 : c ≠ 0) (hc : c < 2 ^ 64) : tonesL c = Lib.ctz 64 c :: tonesL (c &&& (c - 1)) := by
  obtain ⟨h1, h2, h3, h4⟩ := ctz_bits c h0 hc
  exact filter_step 64 c _ h2 h1 h3 _ h4

end Go.Proofs.YthnenhfdojpobaaDoor
