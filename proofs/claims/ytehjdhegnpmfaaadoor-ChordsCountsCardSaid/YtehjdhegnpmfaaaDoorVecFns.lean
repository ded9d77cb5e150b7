/-
  Vector of package chords, Size of the reference: their contracts; the vector of the others.
-/
import Derived.Test.YtehjdhegnpmfaaaDoorVec
import Derived.Test.YtehjdhegnpmfaaaDoorMovesLaw
import Derived.Test.YtehjdhegnpmfaaaDoorSumMath
namespace Go.Proofs.YtehjdhegnpmfaaaDoor
open Go.RowKit Go.Shelf
attribute [local go_sem] Oper.semAt_some
set_option maxRecDepth 100000

theorem Vector_bad (n c : Int) (h : vldB n c = false) (w : World) :
    Calls Tryd.prog 24 #[.int .i64 n, .int .i64 c] w fun e w' => e = .returned (.tuple #[.slice none 0 0, .int .i64 2]) ∧ Below w.heap.size w w' := by
  have HV := Lib.hid (valid_of n c _ h)
  clear h
  go_enter Tryd.func24, Tryd.ntmps24
  go_wp2_with (go_at_call 47; refine (HV.out _ _ (cell_at rfl)).mono ?_; rintro e w' ⟨rfl, rfl⟩)
  go_ret2
  exact ⟨rfl, (Below.refl _ w).alloc (Nat.le_refl _) _⟩

/-- A slice of integers that the call has made. -/
def NewInts (w w' : World) (e : Ending) (k : Nat) (xs : List Nat) (ret : Value → Value) : Prop :=
  ∃ b, e = .returned (ret (.slice (some ⟨b, 0, none⟩) k k)) ∧ w.heap.size ≤ b ∧ Row w' b 3 (ints xs) ∧ Below w.heap.size w w'

theorem Vector_ok (n c : Nat) (h1 : 2 ≤ n) (h2 : n ≤ 16) (h3 : c < 2 ^ n) (w : World) (hT : Tab w) :
    Calls Tryd.prog 24 #[.int .i64 n, .int .i64 c] w fun e w' => NewInts w w' e (n / 2) (vecN n c) (fun v => .tuple #[v, .int .i64 0]) := by
  have HV := Lib.hid (valid_of n c _ (vldB_of_nat h1 h2 h3))
  have hB : Below w.heap.size w (w.alloc (.cells #[.int .i64 c] 3)) := (Below.refl _ w).alloc (Nat.le_refl _) _
  have HM := Lib.hid (vector_any n c h1 h2 h3 (w.alloc (.cells #[.int .i64 c] 3)) (hT.same hB))
  clear hT
  go_enter Tryd.func24, Tryd.ntmps24
  go_wp2_with (go_at_call 47; refine (HV.out _ _ (cell_at rfl)).mono ?_; rintro e w' ⟨rfl, rfl⟩)
  refine HM.out.mono ?_
  rintro e w2 ⟨b, rfl, hb, hr, hB2⟩
  go_wp2
  go_ret2
  exact ⟨b, rfl, by simp at hb; omega, hr, hB.trans (hB2.mono (by simp))⟩

theorem Size_any (c : Nat) (hc : c < 2 ^ 62) (w : World) :
    Calls Tryd.prog 45 #[.int .i64 c] w fun e w' => e = .returned (.int .i64 ((tonesL c).length : Nat)) ∧ w = w' := by
  go_enter Tryd.func45, Tryd.ntmps45
  go_wp2
  have HL := Lib.hid (tonesL_length c)
  go_loop [0, 3] (fun u v => ∃ r k : Nat, r < 2 ^ 62 ∧ u = .int .i64 r ∧ v = .int .i64 k ∧ (tonesL c).length = k + (tonesL r).length) (fun u _ => (intOf u).toNat)
  case atStart => exact ⟨c, 0, hc, rfl, rfl, by omega⟩
  case round =>
    obtain ⟨r, k, hr, rfl, rfl, hk⟩ := hrel
    by_cases h0 : r = 0
    · subst h0
      have h' : ((0 : Nat) : Int) = 0 := rfl
      rw [h']
      have hk' := Lib.hid hk
      clear hk
      go_wp2
      go_ret
      exact ⟨ret_int (by rw [hk'.out, tonesL_zero]; simp), rfl⟩
    · have hst := tonesL_step r h0 (by omega)
      have hlen : k ≤ 64 := by have := HL.out; omega
      have hand : Hid (bits .and .i64 (r : Int) ((r : Int) - 1) = ((r &&& (r - 1) : Nat) : Int)) := Lib.hid (by
        have e : (r : Int) - 1 = ((r - 1 : Nat) : Int) := by omega
        rw [e]; exact and_nat r (r - 1) (by omega) (by omega))
      have hdec : r &&& (r - 1) < r := Nat.lt_of_le_of_lt Nat.and_le_right (by omega)
      have hk' := Lib.hid (show (tonesL c).length = k + 1 + (tonesL (r &&& (r - 1))).length by rw [hk, hst]; simp; omega)
      clear hst hk
      go_wp2
      go_round
      case rel => exact ⟨r &&& (r - 1), k + 1, by omega, by rw [hand.out], by go_num, hk'.out⟩
      case measure => simp only [intOf]; rw [hand.out]; omega

theorem tonesB_count (n c : Nat) : (tonesB n c).length = sumN n (bI c) := by
  have h := sum_tones n c (fun _ => 1)
  have e : ((tonesB n c).map (fun _ => 1)).sum = (tonesB n c).length := by
    induction tonesB n c with
    | nil => rfl
    | cons x l ih => simp only [List.map_cons, List.sum_cons, List.length_cons]; omega
  rw [← e, h]
  exact sum_congr (fun i _ => Nat.mul_one _)

theorem bI_le (c t : Nat) : bI c t ≤ 1 := by unfold bI; split <;> omega

theorem others_bit {n c : Nat} (hc : c < 2 ^ n) {t : Nat} (ht : t < n) : bI (2 ^ n - 1 - c) t + bI c t = 1 := by
  unfold bI
  rw [show 2 ^ n - 1 - c = 2 ^ n - (c + 1) from by omega, Nat.testBit_two_pow_sub_succ hc, decide_eq_true ht]
  cases c.testBit t <;> rfl

theorem aut_others {n c d : Nat} (hc : c < 2 ^ n) (hd : d < n) : autN n (2 ^ n - 1 - c) d + 2 * sumN n (bI c) = n + autN n c d := by
  have e1 : sumN n (fun t => bI (2 ^ n - 1 - c) t * bI (2 ^ n - 1 - c) ((t + d) % n) + (bI c t + bI c ((t + d) % n))) = sumN n (fun t => 1 + bI c t * bI c ((t + d) % n)) := by
    refine sum_congr (fun t ht => ?_)
    have a1 := others_bit hc ht
    have a2 := others_bit hc (Nat.mod_lt (t + d) (show 0 < n by omega))
    have b1 := bI_le c t
    have b2 := bI_le c ((t + d) % n)
    rcases (show bI c t = 0 ∨ bI c t = 1 by omega) with h1 | h1 <;> rcases (show bI c ((t + d) % n) = 0 ∨ bI c ((t + d) % n) = 1 by omega) with h2 | h2
    · rw [h1] at a1; rw [h2] at a2; rw [h1, h2, show bI (2 ^ n - 1 - c) t = 1 by omega, show bI (2 ^ n - 1 - c) ((t + d) % n) = 1 by omega]
    · rw [h1] at a1; rw [h2] at a2; rw [h1, h2, show bI (2 ^ n - 1 - c) t = 1 by omega, show bI (2 ^ n - 1 - c) ((t + d) % n) = 0 by omega]
    · rw [h1] at a1; rw [h2] at a2; rw [h1, h2, show bI (2 ^ n - 1 - c) t = 0 by omega, show bI (2 ^ n - 1 - c) ((t + d) % n) = 1 by omega]
    · rw [h1] at a1; rw [h2] at a2; rw [h1, h2, show bI (2 ^ n - 1 - c) t = 0 by omega, show bI (2 ^ n - 1 - c) ((t + d) % n) = 0 by omega]
  have e2 := sum_move n d hd (bI c)
  rw [sum_add, sum_add, sum_add, sum_const, e2] at e1
  unfold autN
  omega

theorem vec_others {n c k : Nat} (hn : n ≤ 64) (hc : c < 2 ^ n) (hk : k < n / 2) :
    if 2 * (k + 1) = n then (vecN n (2 ^ n - 1 - c))[k]?.getD 0 + (tonesL c).length = n / 2 + (vecN n c)[k]?.getD 0
    else (vecN n (2 ^ n - 1 - c))[k]?.getD 0 + 2 * (tonesL c).length = n + (vecN n c)[k]?.getD 0 := by
  have h := aut_others hc (show k + 1 < n by omega)
  have hp := Nat.two_pow_pos n
  rw [aut_vec hn (show 2 ^ n - 1 - c < 2 ^ n by omega) (by omega) (by omega), aut_vec hn hc (by omega) (by omega), ← tonesB_count, ← tonesL_eq c hn hc] at h
  simp only [Nat.add_sub_cancel] at h
  split
  · rename_i e
    rw [if_pos e, if_pos e] at h
    omega
  · rename_i e
    rw [if_neg e, if_neg e] at h
    omega

theorem vecN_le (n c k : Nat) : (vecN n c)[k]?.getD 0 ≤ 4096 := by
  have h8 := outerV_le (n := n) (tonesL c) (tonesL c) (replicate_le (n / 2)) k
  have h9 : (tonesL c).length * (tonesL c).length ≤ 64 * 64 := Nat.mul_le_mul (tonesL_length c) (tonesL_length c)
  unfold vecN
  omega

theorem ChordsOthers_walk (n c : Int) (_w0 : (Lit.int .i64 n).wf = true) (_w1 : (Lit.int .i64 c).wf = true) (w : World) (hT : Tab w) :
    Calls Tryd.prog 12 #[.int .i64 n, .int .i64 c] w fun e w' => e = .returned (.bool true) ∧ Below w.heap.size w w' := by
  by_cases hv : vldB n c = true
  · have HV : ∀ V : World, Calls Tryd.prog 18 #[.int .i64 n, .int .i64 c] V fun e w' => e = .returned (.bool true) ∧ V = w' := fun V => by
      have := Valid_any n c V; rwa [hv] at this
    have HV' := Lib.hid HV
    clear HV
    obtain ⟨n, c, rfl, rfl, h1, h2, h3⟩ := vldB_nat hv
    have hp := pow_bd (n : Int) (by omega) (by omega)
    simp only [Int.toNat_natCast] at hp
    have hp2 := Nat.two_pow_pos n
    have hn2 : 2 ^ n ≤ 2 ^ 16 := Nat.pow_le_pow_right (by omega) h2
    have H1 := Lib.hid (Vector_ok n c h1 h2 h3)
    have e0 : (2 : Int) ^ n - 1 - c = ((2 ^ n - 1 - c : Nat) : Int) := by
      have e : (2 : Int) ^ n = ((2 ^ n : Nat) : Int) := by simp
      rw [e]; omega
    have H2 := Lib.hid (Vector_ok n (2 ^ n - 1 - c) h1 h2 (by omega))
    have E0 := Lib.hid e0
    have HS := Lib.hid (Size_any c (by omega))
    have hsl : (tonesL c).length ≤ 16 := by
      rw [tonesL_eq c (by omega) h3]; unfold tonesB
      exact Nat.le_trans (List.length_filter_le _ _) (by simp; omega)
    have HO := Lib.hid (fun k => vec_others (n := n) (c := c) (k := k) (by omega) h3)
    have la := vecN_length n c
    have lb := vecN_length n (2 ^ n - 1 - c)
    have ba := Lib.hid (vecN_le n c)
    have bb := Lib.hid (vecN_le n (2 ^ n - 1 - c))
    generalize vecN n (2 ^ n - 1 - c) = B at H2 HO lb bb
    generalize vecN n c = A at H1 HO la ba
    generalize (tonesL c).length = s at HS HO hsl
    have hc0 : (c : Int) ≤ 65535 ∧ (c : Int) ≤ 2 ^ n - 1 := by
      have e : (2 : Int) ^ n = ((2 ^ n : Nat) : Int) := by simp
      rw [e]; omega
    clear hv e0 h3
    go_enter Tryd.func12, Tryd.ntmps12
    go_wp2_with fail
    refine (H1.out _ hT).mono ?_
    rintro e w1 ⟨b1, rfl, hb1, r1, bl1⟩
    have t1 := hT.same bl1
    go_wp2_with fail
    refine (HV'.out _).mono ?_
    rintro e w4 ⟨rfl, rfl⟩
    go_wp2_with fail
    rw [E0.out]
    refine (H2.out _ t1).mono ?_
    rintro e w2 ⟨b2, rfl, hb2, r2, bl2⟩
    have c2 := below_next bl1 bl2
    have r1' := r1.later bl2
    clear r1 bl1 bl2 t1 hT
    go_wp2_with fail
    refine (HS.out _).mono ?_
    rintro e w4 ⟨rfl, rfl⟩
    go_wp2_with fail
    have Hla := Lib.hid la
    have Hlb := Lib.hid lb
    clear la lb
    go_loopw [10, 11, 61] (fun _ _ i wr => ∃ k m : Nat, k ≤ n / 2 ∧ i = .int .i64 k ∧ wr = w2.drewN m) (fun _ _ i _ => n / 2 - (intOf i).toNat)
    case atStart => exact ⟨0, 0, Nat.zero_le _, rfl, rfl⟩
    case round =>
      obtain ⟨k, m, hk, rfl, rfl⟩ := hrel
      by_cases hlt : k < n / 2
      · have ho := HO.out k hlt
        have xa := ba.out k
        have xb := bb.out k
        have ca := (r1'.cell k).trans (ints_at (by rw [Hla.out]; exact hlt))
        have cb := (r2.cell k).trans (ints_at (by rw [Hlb.out]; exact hlt))
        generalize A[k]?.getD 0 = x at ho xa ca
        generalize B[k]?.getD 0 = y at ho xb cb
        by_cases he : 2 * (k + 1) = n
        · rw [if_pos he] at ho
          have t0 : (2 * ((k : Int) + 1) == (n : Int)) = true := by rw [beq_iff_eq]; omega
          have t3 : ((y : Int) - x != (n : Int) / 2 - s) = false := by rw [bne_eq_false_iff_eq]; omega
          clear ho he
          go_wp2
          go_quiet (fail)
          go_wp2
          go_roundw
          case rel => exact ⟨k + 1, m + nq, by omega, by go_num, rfl⟩
          case measure => simp only [intOf]; omega
        · rw [if_neg he] at ho
          have t0 : (2 * ((k : Int) + 1) == (n : Int)) = false := by rw [beq_eq_false_iff_ne]; omega
          have t3 : ((y : Int) - x != (n : Int) - 2 * s) = false := by rw [bne_eq_false_iff_eq]; omega
          clear ho he
          go_wp2
          go_quiet (fail)
          go_wp2
          go_roundw
          case rel => exact ⟨k + 1, m + nq, by omega, by go_num, rfl⟩
          case measure => simp only [intOf]; omega
      · go_wp2_with fail
        refine (awake_any _).mono ?_
        rintro e w5 ⟨rfl, b5⟩
        have c5 := below_next (below_drewN c2 m) b5
        go_wp2
        go_ret
        exact ⟨rfl, c5⟩
  · have hv' : vldB n c = false := by simpa using hv
    have H1 := Lib.hid (Vector_bad n c hv')
    clear hv hv' hT
    go_enter Tryd.func12, Tryd.ntmps12
    go_wp2_with fail
    refine (H1.out _).mono ?_
    rintro e w1 ⟨rfl, bl1⟩
    go_wp2_with fail
    refine (awake_any _).mono ?_
    rintro e w5 ⟨rfl, b5⟩
    go_wp2
    go_ret
    exact ⟨rfl, below_next bl1 b5⟩
end Go.Proofs.YtehjdhegnpmfaaaDoor
