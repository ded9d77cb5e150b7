/-
  The other tones of a chord: their spectrum; the reference's number of tones.
-/
import Derived.Test.YtlmfmfbnbbooaaaWhProdLaw
import Derived.Test.YtlmfmfbnbbooaaaWhChordsLaw
namespace Go.Proofs.Ytlmfmfbnbbooaaa
open Go.ChangeShapes Go.WideShapes Go.ChangeAt Go.RowKit
set_option maxRecDepth 100000

def oneF (n : Nat) (x : Nat) : Nat := if x < n then 1 else 0
theorem oth_bit {n c x : Nat} (h : c < 2 ^ n) (hx : x < n) : chF n c x + chF n (2 ^ n - 1 - c) x = 1 := by
  unfold chF bI
  rw [if_pos hx, if_pos hx, show 2 ^ n - 1 - c = 2 ^ n - (c + 1) by omega, Nat.testBit_two_pow_sub_succ h]
  cases c.testBit x <;> simp [hx]
theorem sum_ones : ∀ n : Nat, sumN n (fun _ => 1) = n
  | 0 => rfl
  | n + 1 => by simp only [sumN]; rw [sum_ones n]
theorem card_sum (n c : Nat) : (tonesB n c).length = sumN n (bI c) := by
  have h := sum_tones n c (fun _ => 1)
  rw [show ((tonesB n c).map fun _ => 1).sum = (tonesB n c).length by
    generalize tonesB n c = l
    induction l with
    | nil => rfl
    | cons a l ih => simp only [List.map_cons, List.sum_cons, List.length_cons]; omega] at h
  rw [h]
  exact sum_congr fun x _ => Nat.mul_one _
theorem ch_sum (n c : Nat) : sumN n (chF n c) = sumN n (bI c) := sum_congr fun x hx => by unfold chF; rw [if_pos hx]
theorem sp_first {n : Nat} (h : Circ n) (c : Nat) : spF n (chF n c) 0 = sumN n (bI c) := by
  have h1 : sumN n (fun x => chF n c x * wN n ^ (0 * x)) = sumN n (bI c) := by
    rw [← ch_sum]
    exact sum_congr fun x _ => by rw [Nat.zero_mul, Nat.pow_zero, Nat.mul_one]
  have h2 := sum_bd (f := bI c) (B := 1) (bI_le c) n
  unfold spF
  rw [if_pos h.pos, h1, Nat.mod_eq_of_lt (by have := h.n_lt; omega)]
theorem oth_zero {n c : Nat} (h : Circ n) (hc : c < 2 ^ n) : spF n (chF n c) 0 + spF n (chF n (2 ^ n - 1 - c)) 0 = n := by
  rw [sp_first h, sp_first h, ← ch_sum, ← ch_sum, ← sum_add]
  refine Eq.trans ?_ (sum_ones n)
  exact sum_congr fun x hx => oth_bit hc hx
theorem oth_sum {n c k : Nat} (h : Circ n) (hc : c < 2 ^ n) (hk : k < n) (h0 : 0 < k) : (spF n (chF n c) k + spF n (chF n (2 ^ n - 1 - c)) k) % qN n = 0 := by
  rw [← sp_add h hk]
  have h1 : Md (qN n) (spF n (fun x => (chF n c x + chF n (2 ^ n - 1 - c) x) % qN n) k) (sumN n fun x => wN n ^ (x * k)) := by
    refine (sp_md hk _).trans (Md.of_eq ?_)
    exact sum_congr fun x hx => by rw [oth_bit hc hx, Nat.mod_eq_of_lt (by have := h.n_lt; have := h.1; omega), Nat.one_mul, Nat.mul_comm]
  have h2 := h1.trans (orth h k)
  rw [if_neg (by rw [Nat.mod_eq_of_lt hk]; omega)] at h2
  exact Md.eq h2 ((sp_wh h _).lt _) h.q_pos
theorem oth_card {n c : Nat} (h : Circ n) (hc : c < 2 ^ n) : spF n (chF n c) 0 = (tonesL c).length := by
  rw [sp_first h, tonesL_eq c (show n ≤ 64 by have := h.2; omega) hc, card_sum]
theorem oth_none {n c : Nat} (h : Circ n) (hc : c < 2 ^ n) : (spF n (chF n c) 0 = 0) ↔ c = 0 := by
  have h16 : 2 ^ n ≤ 2 ^ 64 := Nat.pow_le_pow_right (by omega) (by have := h.2; omega)
  rw [oth_card h hc]
  constructor
  · intro h0
    apply Classical.byContradiction
    intro hne
    rw [tonesL_step c hne (by omega)] at h0
    simp at h0
  · rintro rfl
    rw [tonesL_zero]; rfl
theorem oth_iff {n c k : Nat} (h : Circ n) (hc : c < 2 ^ n) (hk : k < n) (h0 : 0 < k) : (spF n (chF n c) k = 0) ↔ (spF n (chF n (2 ^ n - 1 - c)) k = 0) := by
  have e := oth_sum h hc hk h0
  have l1 := (sp_wh h (chF n c)).lt k
  have l2 := (sp_wh h (chF n (2 ^ n - 1 - c))).lt k
  generalize spF n (chF n c) k = a at *
  generalize spF n (chF n (2 ^ n - 1 - c)) k = b at *
  constructor
  · intro ha; rw [ha, Nat.zero_add, Nat.mod_eq_of_lt l2] at e; exact e
  · intro hb; rw [hb, Nat.add_zero, Nat.mod_eq_of_lt l1] at e; exact e

theorem andNot_same {a b : Nat} (ha : a < 2 ^ 63) (hb : b < 2 ^ 63) (h : ∀ i, 1 ≤ i → a.testBit i = b.testBit i) : bits .andNot .i64 (a : Int) 1 = bits .andNot .i64 (b : Int) 1 := by
  have h1 : a < 2 ^ IntKind.i64.bits := by simp [IntKind.bits]; omega
  have h2 : b < 2 ^ IntKind.i64.bits := by simp [IntKind.bits]; omega
  have e : BitVec.ofInt IntKind.i64.bits (a : Int) &&& ~~~(BitVec.ofInt IntKind.i64.bits 1) = BitVec.ofInt IntKind.i64.bits (b : Int) &&& ~~~(BitVec.ofInt IntKind.i64.bits 1) := by
    apply BitVec.eq_of_getLsbD_eq
    intro i hi
    rw [BitVec.getLsbD_and, BitVec.getLsbD_and]
    rcases Nat.eq_zero_or_pos i with rfl | h0
    · rw [show (~~~(BitVec.ofInt IntKind.i64.bits 1)).getLsbD 0 = false from by decide]; simp
    · congr 1
      rw [← BitVec.testBit_toNat, ← BitVec.testBit_toNat, ofInt_nat a _ h1, ofInt_nat b _ h2]
      exact h i h0
  simp only [bits]
  rw [e]
theorem oth_same {n c : Nat} (h : Circ n) (hc : c < 2 ^ n) : bits .andNot .i64 ((zeN (spF n (chF n c)) n : Nat) : Int) 1 = bits .andNot .i64 ((zeN (spF n (chF n (2 ^ n - 1 - c))) n : Nat) : Int) 1 := by
  have h16 : 2 ^ n ≤ 2 ^ 16 := Nat.pow_le_pow_right (by omega) (by have := h.2; omega)
  have l1 := zeN_lt (spF n (chF n c)) n
  have l2 := zeN_lt (spF n (chF n (2 ^ n - 1 - c))) n
  refine andNot_same (by omega) (by omega) fun i hi => ?_
  rw [zeN_bit, zeN_bit]
  by_cases hk : i < n
  · have := oth_iff h hc hk hi
    by_cases h0 : spF n (chF n c) i = 0
    · simp [hk, h0, this.1 h0]
    · rw [beq_eq_false_iff_ne.2 h0, beq_eq_false_iff_ne.2 (mt this.2 h0)]
  · simp [hk]
/-- A bit of the number that tells where there is nothing. -/
theorem ze_and {n k : Nat} (h : Circ n) (f : Nat → Nat) (hk : k < n) : bits .and .i64 (((zeN f n : Nat) : Int) / 2 ^ k) 1 = if f k = 0 then 1 else 0 := by
  have h16 : 2 ^ n ≤ 2 ^ 16 := Nat.pow_le_pow_right (by omega) (by have := h.2; omega)
  rw [shr1 _ _ (by have := zeN_lt f n; omega)]
  unfold bI
  rw [zeN_bit]
  by_cases h0 : f k = 0 <;> simp [hk, h0]

theorem SizeW_any (c : Nat) (hc : c < 2 ^ 62) (w : World) :
    Calls Try.prog 30 #[.int .i64 c] w fun e w' => e = .returned (.int .i64 ((tonesL c).length : Nat)) ∧ w = w' := by
  go_enter Try.func30, Try.ntmps30
  go_wp2
  have HL := Lib.hid (tonesL_length c)
  go_loop [0, 3] (fun u v => ∃ r k : Nat, r < 2 ^ 62 ∧ u = .int .i64 r ∧ v = .int .i64 k ∧ (tonesL c).length = k + (tonesL r).length) (fun u _ => (intOf u).toNat)
  case atStart => exact ⟨c, 0, hc, rfl, rfl, by omega⟩
  case round =>
    obtain ⟨r, k, hr, rfl, rfl, hk⟩ := hrel
    by_cases h0 : r = 0
    · subst h0
      have h' : ((0 : Nat) : Int) = 0 := rfl
      rw [h']
      have hk' := Lib.hid hk
      clear hk
      go_wp2
      go_ret
      exact ⟨ret_int (by rw [hk'.out, tonesL_zero]; simp), rfl⟩
    · have hst := tonesL_step r h0 (by omega)
      have hlen : k ≤ 64 := by have := HL.out; omega
      have hand : Hid (bits .and .i64 (r : Int) ((r : Int) - 1) = ((r &&& (r - 1) : Nat) : Int)) := Lib.hid (by
        have e : (r : Int) - 1 = ((r - 1 : Nat) : Int) := by omega
        rw [e]; exact and_nat r (r - 1) (by omega) (by omega))
      have hdec : r &&& (r - 1) < r := Nat.lt_of_le_of_lt Nat.and_le_right (by omega)
      have hk' := Lib.hid (show (tonesL c).length = k + 1 + (tonesL (r &&& (r - 1))).length by rw [hk, hst]; simp; omega)
      clear hst hk
      go_wp2
      go_round
      case rel => exact ⟨r &&& (r - 1), k + 1, by omega, by rw [hand.out], by go_num, hk'.out⟩
      case measure => simp only [intOf]; rw [hand.out]; omega
end Go.Proofs.Ytlmfmfbnbbooaaa
