/-
  Vector of package chords, Size of the reference: their contracts; the vector of the others.
-/
import Derived.Test.YtaldfaecpcnomaaDoorZcLeafA
import Derived.Test.YtaldfaecpcnomaaDoorZcVec
import Derived.Test.YtaldfaecpcnomaaDoorZcMovesLaw
import Derived.Test.YtaldfaecpcnomaaDoorSumMath
namespace Go.Proofs.YtaldfaecpcnomaaDoor.Zc
open Go.RowKit Go.Shelf
attribute [local go_sem] Oper.semAt_some
set_option maxRecDepth 100000

theorem Vector_bad (n c : Int) (h : vldB n c = false) (w : World) :
    Calls Tryd.prog 8 #[.int .i64 n, .int .i64 c] w fun e w' => e = .returned (.tuple #[.slice none 0 0, .int .i64 2]) ∧ Below w.heap.size w w' := by
  have HV := Lib.hid (valid_of n c _ h)
  clear h
  go_enter Tryd.func8, Tryd.ntmps8
  go_wp2_with (go_at_call 19; refine (HV.out _ _ (cell_at rfl)).mono ?_; rintro e w' ⟨rfl, rfl⟩)
  go_ret2
  exact ⟨rfl, (Below.refl _ w).alloc (Nat.le_refl _) _⟩

/-- A slice of integers that the call has made. -/
def NewInts (w w' : World) (e : Ending) (k : Nat) (xs : List Nat) (ret : Value → Value) : Prop :=
  ∃ b, e = .returned (ret (.slice (some ⟨b, 0, none⟩) k k)) ∧ w.heap.size ≤ b ∧ Row w' b 3 (ints xs) ∧ Below w.heap.size w w'

theorem Vector_ok (n c : Nat) (h1 : 2 ≤ n) (h2 : n ≤ 16) (h3 : c < 2 ^ n) (w : World) (hT : Tab w) :
    Calls Tryd.prog 8 #[.int .i64 n, .int .i64 c] w fun e w' => NewInts w w' e (n / 2) (vecN n c) (fun v => .tuple #[v, .int .i64 0]) := by
  have HV := Lib.hid (valid_of n c _ (vldB_of_nat h1 h2 h3))
  have hB : Below w.heap.size w (w.alloc (.cells #[.int .i64 c] 3)) := (Below.refl _ w).alloc (Nat.le_refl _) _
  have HM := Lib.hid (vector_any n c h1 h2 h3 (w.alloc (.cells #[.int .i64 c] 3)) (hT.same hB))
  clear hT
  go_enter Tryd.func8, Tryd.ntmps8
  go_wp2_with (go_at_call 19; refine (HV.out _ _ (cell_at rfl)).mono ?_; rintro e w' ⟨rfl, rfl⟩)
  refine HM.out.mono ?_
  rintro e w2 ⟨b, rfl, hb, hr, hB2⟩
  go_wp2
  go_ret2
  exact ⟨b, rfl, by simp at hb; omega, hr, hB.trans (hB2.mono (by simp))⟩

theorem tonesB_count (n c : Nat) : (tonesB n c).length = sumN n (bI c) := by
  have h := sum_tones n c (fun _ => 1)
  have e : ((tonesB n c).map (fun _ => 1)).sum = (tonesB n c).length := by
    induction tonesB n c with
    | nil => rfl
    | cons x l ih => simp only [List.map_cons, List.sum_cons, List.length_cons]; omega
  rw [← e, h]
  exact sum_congr (fun i _ => Nat.mul_one _)

theorem bI_le (c t : Nat) : bI c t ≤ 1 := by unfold bI; split <;> omega

theorem others_bit {n c : Nat} (hc : c < 2 ^ n) {t : Nat} (ht : t < n) : bI (2 ^ n - 1 - c) t + bI c t = 1 := by
  unfold bI
  rw [show 2 ^ n - 1 - c = 2 ^ n - (c + 1) from by omega, Nat.testBit_two_pow_sub_succ hc, decide_eq_true ht]
  cases c.testBit t <;> rfl

theorem aut_others {n c d : Nat} (hc : c < 2 ^ n) (hd : d < n) : autN n (2 ^ n - 1 - c) d + 2 * sumN n (bI c) = n + autN n c d := by
  have e1 : sumN n (fun t => bI (2 ^ n - 1 - c) t * bI (2 ^ n - 1 - c) ((t + d) % n) + (bI c t + bI c ((t + d) % n))) = sumN n (fun t => 1 + bI c t * bI c ((t + d) % n)) := by
    refine sum_congr (fun t ht => ?_)
    have a1 := others_bit hc ht
    have a2 := others_bit hc (Nat.mod_lt (t + d) (show 0 < n by omega))
    have b1 := bI_le c t
    have b2 := bI_le c ((t + d) % n)
    rcases (show bI c t = 0 ∨ bI c t = 1 by omega) with h1 | h1 <;> rcases (show bI c ((t + d) % n) = 0 ∨ bI c ((t + d) % n) = 1 by omega) with h2 | h2
    · rw [h1] at a1; rw [h2] at a2; rw [h1, h2, show bI (2 ^ n - 1 - c) t = 1 by omega, show bI (2 ^ n - 1 - c) ((t + d) % n) = 1 by omega]
    · rw [h1] at a1; rw [h2] at a2; rw [h1, h2, show bI (2 ^ n - 1 - c) t = 1 by omega, show bI (2 ^ n - 1 - c) ((t + d) % n) = 0 by omega]
    · rw [h1] at a1; rw [h2] at a2; rw [h1, h2, show bI (2 ^ n - 1 - c) t = 0 by omega, show bI (2 ^ n - 1 - c) ((t + d) % n) = 1 by omega]
    · rw [h1] at a1; rw [h2] at a2; rw [h1, h2, show bI (2 ^ n - 1 - c) t = 0 by omega, show bI (2 ^ n - 1 - c) ((t + d) % n) = 0 by omega]
  have e2 := sum_move n d hd (bI c)
  rw [sum_add, sum_add, sum_add, sum_const, e2] at e1
  unfold autN
  omega

theorem vec_others {n c k : Nat} (hn : n ≤ 64) (hc : c < 2 ^ n) (hk : k < n / 2) :
    if 2 * (k + 1) = n then (vecN n (2 ^ n - 1 - c))[k]?.getD 0 + (tonesL c).length = n / 2 + (vecN n c)[k]?.getD 0
    else (vecN n (2 ^ n - 1 - c))[k]?.getD 0 + 2 * (tonesL c).length = n + (vecN n c)[k]?.getD 0 := by
  have h := aut_others hc (show k + 1 < n by omega)
  have hp := Nat.two_pow_pos n
  rw [aut_vec hn (show 2 ^ n - 1 - c < 2 ^ n by omega) (by omega) (by omega), aut_vec hn hc (by omega) (by omega), ← tonesB_count, ← tonesL_eq c hn hc] at h
  simp only [Nat.add_sub_cancel] at h
  split
  · rename_i e
    rw [if_pos e, if_pos e] at h
    omega
  · rename_i e
    rw [if_neg e, if_neg e] at h
    omega

theorem vecN_le (n c k : Nat) : (vecN n c)[k]?.getD 0 ≤ 4096 := by
  have h8 := outerV_le (n := n) (tonesL c) (tonesL c) (replicate_le (n / 2)) k
  have h9 : (tonesL c).length * (tonesL c).length ≤ 64 * 64 := Nat.mul_le_mul (tonesL_length c) (tonesL_length c)
  unfold vecN
  omega

end Go.Proofs.YtaldfaecpcnomaaDoor.Zc
