/-
  The walk of the statement that the sum is told by the vector.
-/
import Derived.Test.YtmemnkmmjejlgaaDoorChVec
import Derived.Test.YtmemnkmmjejlgaaDoorEvTurnMath
namespace Go.Proofs.YtmemnkmmjejlgaaDoor
open Go.RowKit Go.Shelf
attribute [local go_sem] Oper.semAt_some
set_option maxRecDepth 100000

theorem sum_shift1 (h : Nat → Nat) (m : Nat) : sumN m (fun t => h (t + 1)) + h 0 = sumN m h + h m := by
  induction m with
  | zero => simp [sumN]
  | succ m ih => simp only [sumN]; omega

theorem sum_parts (h : Nat → Nat) (a b : Nat) : sumN (a + b) h = sumN a h + sumN b (fun t => h (a + t)) := by
  induction b with
  | zero => rfl
  | succ b ih =>
    show sumN (a + b) h + h (a + b) = sumN a h + (sumN b (fun t => h (a + t)) + h (a + b))
    omega

/-- A sum that is the same from both ends. -/
theorem half_sum (n : Nat) (h : Nat → Nat) (h0 : h 0 = 0) (hs : ∀ d, 1 ≤ d → d < n → h (n - d) = h d) :
    sumN n h = sumN (n / 2) (fun i => if 2 * (i + 1) = n then h (i + 1) else 2 * h (i + 1)) := by
  obtain ⟨m, hm⟩ : ∃ m, n = 2 * m ∨ n = 2 * m + 1 := ⟨n / 2, by omega⟩
  rcases hm with rfl | rfl
  · rw [show 2 * m / 2 = m from by omega]
    cases m with
    | zero => rfl
    | succ m =>
      have e1 : sumN (2 * (m + 1)) h = sumN (m + 1) h + sumN (m + 1) (fun t => h (m + 1 + t)) := by
        rw [← sum_parts]; congr 1; omega
      have e2 : sumN (m + 1) (fun t => h (m + 1 + t)) = sumN (m + 1) (fun t => h (t + 1)) := by
        rw [← sum_back (m + 1) (fun t => h (m + 1 + t))]
        refine sum_congr (fun t ht => ?_)
        rw [← hs (t + 1) (by omega) (by omega)]
        congr 1
        omega
      have e3 := sum_shift1 h (m + 1)
      rw [h0] at e3
      have e4 : sumN (m + 1) (fun i => if 2 * (i + 1) = 2 * (m + 1) then h (i + 1) else 2 * h (i + 1)) = 2 * sumN m (fun t => h (t + 1)) + h (m + 1) := by
        simp only [sumN]
        rw [if_true, ← sum_mul]
        congr 1
        exact sum_congr (fun i hi => if_neg (by omega))
      have e5 : sumN (m + 1) (fun t => h (t + 1)) = sumN m (fun t => h (t + 1)) + h (m + 1) := rfl
      rw [e1, e2, e4]
      omega
  · rw [show (2 * m + 1) / 2 = m from by omega]
    have e1 : sumN (2 * m + 1) h = sumN (m + 1) h + sumN m (fun t => h (m + 1 + t)) := by
      rw [← sum_parts]; congr 1; omega
    have e2 : sumN m (fun t => h (m + 1 + t)) = sumN m (fun t => h (t + 1)) := by
      rw [← sum_back m (fun t => h (m + 1 + t))]
      refine sum_congr (fun t ht => ?_)
      rw [← hs (t + 1) (by omega) (by omega)]
      congr 1
      omega
    have e3 := sum_shift1 h m
    rw [h0] at e3
    have e4 : sumN m (fun i => if 2 * (i + 1) = 2 * m + 1 then h (i + 1) else 2 * h (i + 1)) = 2 * sumN m (fun t => h (t + 1)) := by
      rw [← sum_mul]
      exact sum_congr (fun i hi => if_neg (by omega))
    have e5 : sumN (m + 1) h = sumN m h + h m := rfl
    rw [e1, e2, e4]
    omega

theorem aut_sym {n s d : Nat} (h1 : 1 ≤ d) (h2 : d < n) : autN n s (n - d) = autN n s d := by
  unfold autN
  rw [← sum_move n d h2 (fun t => bI s t * bI s ((t + (n - d)) % n))]
  refine sum_congr (fun t ht => ?_)
  rw [Nat.mod_add_mod, show t + d + (n - d) = t + n from by omega, Nat.add_mod_right, Nat.mod_eq_of_lt ht, Nat.mul_comm]

/-- The sum, as the statement takes it. -/
def topS (n : Nat) (v : List Nat) (i : Nat) : Nat := sumN i (fun i => v[i]?.getD 0 * (i + 1) * (n - i - 1))

theorem top_sum {n s : Nat} (hn : n ≤ 64) (hs : s < 2 ^ n) : topS n (vecN n s) (n / 2) = sumS n s := by
  have h1 := sumS_aut (n := n) (s := s)
  rw [half_sum n (fun d => gN n d * autN n s d) (by simp [gN]) (fun d a b => by show gN n (n - d) * autN n s (n - d) = _; rw [gN_sym (by omega), aut_sym a b])] at h1
  have h2 : sumN (n / 2) (fun i => if 2 * (i + 1) = n then gN n (i + 1) * autN n s (i + 1) else 2 * (gN n (i + 1) * autN n s (i + 1))) = 2 * topS n (vecN n s) (n / 2) := by
    unfold topS
    rw [← sum_mul]
    refine sum_congr (fun i hi => ?_)
    rw [aut_vec hn hs (show 1 ≤ i + 1 by omega) (by omega), Nat.add_sub_cancel]
    unfold gN
    rw [show n - i - 1 = n - (i + 1) from by omega]
    generalize (vecN n s)[i]?.getD 0 = v
    generalize n - (i + 1) = c
    have e : v * (i + 1) * c = (i + 1) * c * v := by rw [Nat.mul_comm v, Nat.mul_assoc, Nat.mul_comm v, ← Nat.mul_assoc]
    rw [e]
    split
    · rw [← Nat.mul_assoc, Nat.mul_comm _ 2, Nat.mul_assoc]
    · rfl
  omega

theorem spreads_any (w : World) : Calls Tryd.prog 44 #[] w fun e w' => e = .returned (.bool true) ∧ Below w.heap.size w w' := by
  have H := Lib.hid (Spread_ok 4 2 0 (by decide) (by decide) (by decide) (by decide) (by decide))
  rw [show sprN 4 2 0 = 5 from by decide] at H
  go_enter Tryd.func44, Tryd.ntmps44
  go_wp2_with fail
  refine (H.out _).mono ?_
  rintro e w' ⟨rfl, q, rfl⟩
  go_wp2
  go_ret
  exact ⟨rfl, below_drewN (Below.refl _ _) q⟩

theorem vecN_le (n c k : Nat) : (vecN n c)[k]?.getD 0 ≤ 4096 := by
  have h8 := outerV_le (n := n) (tonesL c) (tonesL c) (replicate_le (n / 2)) k
  have h9 : (tonesL c).length * (tonesL c).length ≤ 64 * 64 := Nat.mul_le_mul (tonesL_length c) (tonesL_length c)
  unfold vecN
  omega

theorem topS_le {n : Nat} (hn : n ≤ 16) {v : List Nat} (h : ∀ i : Nat, v[i]?.getD 0 ≤ 4096) {i : Nat} (hi : i ≤ 16) : topS n v i ≤ 17825792 := by
  unfold topS
  have h1 := sum_leq (n := i) (f := fun i => v[i]?.getD 0 * (i + 1) * (n - i - 1)) (g := fun _ => 4096 * 17 * 16) (fun j hj => Nat.mul_le_mul (Nat.mul_le_mul (h j) (by omega)) (by omega))
  rw [sum_const] at h1
  have h2 : i * (4096 * 17 * 16) ≤ 16 * (4096 * 17 * 16) := Nat.mul_le_mul_right _ hi
  omega

theorem TopSum_walk (n s : Int) (_w0 : (Lit.int .i64 n).wf = true) (_w1 : (Lit.int .i64 s).wf = true) (w : World) (hT : Tab w) :
    Calls Tryd.prog 13 #[.int .i64 n, .int .i64 s] w fun e w' => e = .returned (.bool true) ∧ Below w.heap.size w w' := by
  have HV := Lib.hid (Scale_any n s)
  by_cases hv : vldB n s = true
  · rw [hv] at HV
    obtain ⟨n, s, rfl, rfl, h1, h2, h3, h4⟩ := vldB_nat hv
    have H1 := Lib.hid (Sum_ok n s h1 h2 h3 h4 w hT)
    have H2 := Lib.hid (fun W hW => Vector_ok n s h1 h2 h4 W hW)
    have HS := Lib.hid (top_sum (n := n) (s := s) (by omega) h4)
    have HB := Lib.hid (vecN_le n s)
    have HL := Lib.hid (fun i hi => topS_le h2 (v := vecN n s) (vecN_le n s) (i := i) hi)
    have hlen := vecN_length n s
    generalize sumS n s = x at H1 HS
    generalize vecN n s = v at H2 HS HB HL hlen
    have HLen := Lib.hid hlen
    clear hv h3 h4 hlen
    go_enter Tryd.func13, Tryd.ntmps13
    go_wp2_with fail
    refine H1.out.mono ?_
    rintro e w1 ⟨rfl, b1⟩
    have t1 := hT.same b1
    go_wp2_with fail
    refine (HV.out _).mono ?_
    rintro e w4 ⟨rfl, rfl⟩
    go_wp2_with fail
    refine (H2.out _ t1).mono ?_
    rintro e w2 ⟨b, rfl, hb, hr, b2⟩
    have c2 := below_next b1 b2
    have HR := Lib.hid hr
    clear b1 b2 t1 hr hT
    go_wp2
    go_loopw [8, 47] (fun t i wr => ∃ k m z : Nat, k ≤ n / 2 ∧ i = .int .i64 k ∧ t = .int .i64 z ∧ z = topS n v k ∧ wr = w2.drewN m) (fun _ i _ => n / 2 - (intOf i).toNat)
    case atStart => exact ⟨0, 0, 0, Nat.zero_le _, rfl, rfl, rfl, rfl⟩
    case round =>
      obtain ⟨k, m, z, hk, rfl, rfl, hz, rfl⟩ := hrel
      have hzb := HL.out k (by omega)
      rw [← hz] at hzb
      by_cases hlt : k < n / 2
      · have ca := (HR.out.cell k).trans (ints_at (by rw [HLen.out]; exact hlt))
        have hvb := HB.out k
        have HSn := Lib.hid (show topS n v (k + 1) = z + v[k]?.getD 0 * (k + 1) * (n - k - 1) by rw [hz]; rfl)
        generalize v[k]?.getD 0 = y at ca hvb HSn
        have hp1 : y * (k + 1) ≤ 4096 * 17 := Nat.mul_le_mul hvb (by omega)
        have hp2 : y * (k + 1) * (n - k - 1) ≤ 4096 * 17 * 16 := Nat.mul_le_mul hp1 (by omega)
        have e1 : (y : Int) * ((k : Int) + 1) = ((y * (k + 1) : Nat) : Int) := by simp
        have e2 : ((y * (k + 1) : Nat) : Int) * ((n : Int) - k - 1) = ((y * (k + 1) * (n - k - 1) : Nat) : Int) := by
          rw [show (n : Int) - k - 1 = ((n - k - 1 : Nat) : Int) from by omega]; simp
        generalize hq : y * (k + 1) * (n - k - 1) = q at *
        generalize y * (k + 1) = p at *
        have HZ := Lib.hid hz
        clear hz hq
        go_wp2
        go_roundw
        case rel => exact ⟨k + 1, m, z + q, by omega, by go_num, by go_num, HSn.out.symm, rfl⟩
        case measure => simp only [intOf]; omega
      · obtain rfl : z = x := by rw [hz, ← HS.out, show k = n / 2 by omega]
        have c3 := below_drewN c2 m
        clear hz hzb
        go_wp2_with fail
        refine (spreads_any _).mono ?_
        rintro e w5 ⟨rfl, b5⟩
        have c5 := below_next c3 b5
        clear c3 b5
        go_wp2
        go_ret
        exact ⟨rfl, c5⟩
  · have hv' : vldB n s = false := by simpa using hv
    rw [hv'] at HV
    have H1 := Lib.hid (Sum_bad n s hv')
    clear hv hv' hT
    go_enter Tryd.func13, Tryd.ntmps13
    go_wp2_with fail
    refine (H1.out _).mono ?_
    rintro e w1 ⟨rfl, b1⟩
    go_wp2_with fail
    refine (spreads_any _).mono ?_
    rintro e w5 ⟨rfl, b5⟩
    have c5 := below_next b1 b5
    clear b1 b5
    go_wp2
    go_ret
    exact ⟨rfl, c5⟩

end Go.Proofs.YtmemnkmmjejlgaaDoor
