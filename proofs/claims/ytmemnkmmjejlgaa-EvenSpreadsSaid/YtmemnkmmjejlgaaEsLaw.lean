/-
  The walk of the statement on Spread and Strokes.
-/
import Derived.Test.YtmemnkmmjejlgaaEsRef
namespace Go.Proofs.Ytmemnkmmjejlgaa
open Go.RowKit Go.Shelf
attribute [local go_sem] Oper.semAt_some
set_option maxRecDepth 100000

theorem refSpread_any (n k m : Nat) (h1 : 2 ≤ n) (h2 : n ≤ 16) (h3 : 1 ≤ k) (h4 : k ≤ n) (h5 : m < n) (w : World) :
    Calls Try.prog 10 #[.int .i64 n, .int .i64 k, .int .i64 m] w fun e w' => e = .returned (.int .i64 (sprN n k m : Nat)) ∧ ∃ q, w' = w.drewN q := by
  have HS := Lib.hid (sprTo_succ n k m)
  have HL := Lib.hid (sprTo_lt (n := n) (k := k) (m := m) (by omega))
  have hp : 2 ^ n ≤ 2 ^ 16 := Nat.pow_le_pow_right (by omega) h2
  have HE := Lib.hid (show sprTo n k m k = sprN n k m from rfl)
  have HZ := Lib.hid (show sprTo n k m 0 = 0 from rfl)
  have HP := Lib.hid hp
  clear hp
  go_enter Try.func10, Try.ntmps10
  go_wp2
  go_loopw [7, 10] (fun s i wr => ∃ j q : Nat, j ≤ k ∧ i = .int .i64 j ∧ s = .int .i64 (sprTo n k m j : Nat) ∧ wr = w.drewN q) (fun _ i _ => k - (intOf i).toNat)
  case atStart => exact ⟨0, 0, Nat.zero_le _, rfl, by rw [HZ.out]; rfl, rfl⟩
  case round =>
    obtain ⟨j, q, hj, rfl, rfl, rfl⟩ := hrel
    by_cases hlt : j < k
    · have hjn : j * n ≤ 16 * 16 := Nat.mul_le_mul (by omega) h2
      have hjn' : (j : Int) * n ≤ 256 ∧ 0 ≤ (j : Int) * n := by
        have : ((j * n : Nat) : Int) = (j : Int) * n := by simp
        omega
      have hd : (j * n + m) / k ≤ j * n + m := Nat.div_le_self _ _
      have hd0 : ((j : Int) * n + m) / k = (((j * n + m) / k : Nat) : Int) := by simp
      have hm0 : (((j * n + m) / k : Nat) : Int) % (n : Int) = (((j * n + m) / k % n : Nat) : Int) := by simp
      have hu : (j * n + m) / k % n < n := Nat.mod_lt _ (by omega)
      have hs := HL.out j
      have hs' := HL.out (j + 1)
      have e1 := HS.out j
      have E2 : Hid (bits .or .i64 ((sprTo n k m j : Nat) : Int) ((2 : Int) ^ ((j * n + m) / k % n)) = ((sprTo n k m (j + 1) : Nat) : Int)) := by
        have b3 : 2 ^ ((j * n + m) / k % n) ≤ 2 ^ 16 := Nat.pow_le_pow_right (by omega) (by omega)
        have e : (2 : Int) ^ ((j * n + m) / k % n) = ((2 ^ ((j * n + m) / k % n) : Nat) : Int) := by simp
        have := HP.out
        rw [e, or_nat _ _ (by omega) (by omega), e1]
        exact Lib.hid rfl
      have ht : (((j : Int) * n + m) / k).tmod n = (((j * n + m) / k % n : Nat) : Int) := by
        rw [hd0, Int.tmod_eq_emod_of_nonneg (Int.natCast_nonneg _)]; simp
      have hp := pow_bd (((j * n + m) / k % n : Nat) : Int) (by omega) (by omega)
      simp only [Int.toNat_natCast] at hp
      obtain ⟨s', hs2⟩ : ∃ s', sprTo n k m (j + 1) = s' := ⟨_, rfl⟩
      rw [hs2] at E2
      have HS2 := Lib.hid hs2
      clear hd0 hm0 e1 hs hs' hs2 hd hjn
      generalize sprTo n k m j = s at E2
      generalize (j * n + m) / k % n = u at *
      go_wp2
      go_roundw
      case rel => exact ⟨j + 1, q, by omega, by go_num, by rw [HS2.out, E2.out], rfl⟩
      case measure => simp only [intOf]; omega
    · have hjk := Lib.hid (show j = k by omega)
      go_wp2
      go_ret
      exact ⟨by rw [hjk.out, HE.out]; rfl, q, rfl⟩

theorem EvenSpreads_walk (n k m : Int) (_w0 : (Lit.int .i64 n).wf = true) (_w1 : (Lit.int .i64 k).wf = true) (_w2 : (Lit.int .i64 m).wf = true) (w : World) :
    Calls Try.prog 3 #[.int .i64 n, .int .i64 k, .int .i64 m] w fun e w' => e = .returned (.bool true) ∧ Below w.heap.size w w' := by
  have HP := Lib.hid (Part_any n k)
  by_cases hv : vldK n k = true
  · rw [hv] at HP
    obtain ⟨n, k, rfl, rfl, h1, h2, h3, h4⟩ := vldK_nat hv
    have HSt := Lib.hid (fun W => Strokes_ok n k h1 h2 h3 h4 W)
    have HRf := Lib.hid (fun W => refStrokes_any n k h1 h2 h3 h4 W)
    obtain ⟨_, hlen⟩ := strokes_same h1 h2 h3 h4
    obtain ⟨xs, hxs⟩ : ∃ xs, strokesN n k = xs := ⟨_, rfl⟩
    rw [hxs] at HSt HRf hlen
    have HEq := Lib.hid (fun b1 b2 c1 c2 W r1 r2 => EqualInts_same xs b1 b2 c1 c2 W (by omega) r1 r2)
    rw [hlen] at HEq
    have HL := Lib.hid hlen
    clear hxs hlen
    by_cases hm : 0 ≤ m ∧ m < (n : Int)
    · obtain ⟨m, rfl⟩ : ∃ m' : Nat, m = m' := Int.eq_ofNat_of_zero_le hm.1
      have hmn : m < n := by omega
      have HS := Lib.hid (fun W => Spread_ok n k m h1 h2 h3 h4 hmn W)
      have HR := Lib.hid (fun W => refSpread_any n k m h1 h2 h3 h4 hmn W)
      generalize sprN n k m = s at HS HR
      clear hv hm
      go_enter Try.func3, Try.ntmps3
      go_wp2_with fail
      refine (HS.out _).mono ?_
      rintro e w1 ⟨rfl, q1, rfl⟩
      have b1 : Below w.heap.size w (w.drewN q1) := below_drewN (Below.refl _ w) q1
      generalize w.drewN q1 = w1 at *
      go_wp2_with fail
      refine (HSt.out _).mono ?_
      rintro e w2 ⟨vs, rfl, ⟨g2, cap2, rfl, hle2, hc2⟩, hb2⟩
      have b2 := below_next b1 hb2
      rw [HL.out] at hle2 hc2 ⊢
      have HC2 := Lib.hid hc2
      clear b1 hb2 hc2
      go_wp2_with fail
      refine (HP.out _).mono ?_
      rintro e w3 ⟨rfl, rfl⟩
      go_wp2_with fail
      refine (HRf.out _).mono ?_
      rintro e w3 ⟨vr, rfl, ⟨g3, cap3, rfl, hle3, hc3⟩, hb3⟩
      have b3 := below_next b2 hb3
      rw [HL.out] at hle3 hc3 ⊢
      have HQ := Lib.hid (HEq.out g2 g3 cap2 cap3 w3 (fun i hi => cell_later hb3 (HC2.out i hi)) hc3)
      clear b2 hb3 hc3
      go_wp2_with fail
      refine HQ.out.mono ?_
      rintro e w4 ⟨rfl, q4, rfl⟩
      have b4 := below_drewN b3 q4
      generalize w3.drewN q4 = w4 at *
      clear b3
      go_wp2_with fail
      refine (awake_any _).mono ?_
      rintro e w5 ⟨rfl, hb5⟩
      have b5 := below_next b4 hb5
      clear b4 hb5
      go_wp2_with fail
      refine (HR.out _).mono ?_
      rintro e w6 ⟨rfl, q6, rfl⟩
      have b6 := below_drewN b5 q6
      go_wp2
      go_ret
      exact ⟨rfl, b6⟩
    · have HS := Lib.hid (Spread_bad n k m (by rw [Bool.and_eq_false_iff]; exact Or.inr (decide_eq_false hm)))
      clear hv
      have hm2 : (m < 0) ∨ (¬ m < 0 ∧ (n : Int) ≤ m) := by omega
      clear hm
      rcases hm2 with hm2 | ⟨hm2, hm3⟩
      all_goals
        go_enter Try.func3, Try.ntmps3
        go_wp2_with fail
        refine (HS.out _).mono ?_
        rintro e w1 ⟨rfl, rfl⟩
        go_wp2_with fail
        refine (HSt.out _).mono ?_
        rintro e w2 ⟨vs, rfl, ⟨g2, cap2, rfl, hle2, hc2⟩, hb2⟩
        rw [HL.out] at hle2 hc2 ⊢
        have HC2 := Lib.hid hc2
        clear hc2
        go_wp2_with fail
        refine (HP.out _).mono ?_
        rintro e w3 ⟨rfl, rfl⟩
        go_wp2_with fail
        refine (HRf.out _).mono ?_
        rintro e w3 ⟨vr, rfl, ⟨g3, cap3, rfl, hle3, hc3⟩, hb3⟩
        have b3 := below_next hb2 hb3
        rw [HL.out] at hle3 hc3 ⊢
        have HQ := Lib.hid (HEq.out g2 g3 cap2 cap3 w3 (fun i hi => cell_later hb3 (HC2.out i hi)) hc3)
        clear hb2 hb3 hc3
        go_wp2_with fail
        refine HQ.out.mono ?_
        rintro e w4 ⟨rfl, q4, rfl⟩
        have b4 := below_drewN b3 q4
        generalize w3.drewN q4 = w4 at *
        clear b3
        go_wp2_with fail
        refine (awake_any _).mono ?_
        rintro e w5 ⟨rfl, hb5⟩
        have b5 := below_next b4 hb5
        clear b4 hb5
        go_wp2
        go_ret
        exact ⟨rfl, b5⟩
  · have hv' : vldK n k = false := by simpa using hv
    rw [hv'] at HP
    have HS := Lib.hid (Spread_bad n k m (by rw [hv']; rfl))
    have HSt := Lib.hid (Strokes_bad n k hv')
    clear hv hv'
    go_enter Try.func3, Try.ntmps3
    go_wp2_with fail
    refine (HS.out _).mono ?_
    rintro e w1 ⟨rfl, rfl⟩
    go_wp2_with fail
    refine (HSt.out _).mono ?_
    rintro e w1 ⟨rfl, rfl⟩
    go_wp2_with fail
    refine (HP.out _).mono ?_
    rintro e w1 ⟨rfl, rfl⟩
    go_wp2_with fail
    refine (awake_any _).mono ?_
    rintro e w5 ⟨rfl, b5⟩
    go_wp2
    go_ret
    exact ⟨rfl, b5⟩

end Go.Proofs.Ytmemnkmmjejlgaa
