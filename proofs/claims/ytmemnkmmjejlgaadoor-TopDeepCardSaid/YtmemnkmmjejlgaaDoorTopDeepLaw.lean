/-
  The walk of the statement on deep scales.
-/
import Derived.Test.YtmemnkmmjejlgaaDoorChDeep
namespace Go.Proofs.YtmemnkmmjejlgaaDoor
open Go.RowKit Go.Shelf
attribute [local go_sem] Oper.semAt_some
set_option maxRecDepth 100000

theorem topgcd_any (a b : Nat) (ha : a < 2 ^ 62) (hb : b < 2 ^ 62) (w : World) :
    Calls Tryd.prog 46 #[.int .i64 a, .int .i64 b] w fun e w' => e = .returned (.int .i64 (Nat.gcd a b : Nat)) ∧ ∃ m, w' = w.drewN m := by
  go_enter Tryd.func46, Tryd.ntmps46
  go_wp2
  go_loopw [0, 1] (fun u v wr => ∃ x y m : Nat, x < 2 ^ 62 ∧ y < 2 ^ 62 ∧ u = .int .i64 x ∧ v = .int .i64 y ∧ Nat.gcd x y = Nat.gcd a b ∧ wr = w.drewN m) (fun _ v _ => (intOf v).toNat)
  case atStart => exact ⟨a, b, 0, ha, hb, rfl, rfl, rfl, rfl⟩
  case round =>
    obtain ⟨x, y, m, hx, hy, rfl, rfl, hg, rfl⟩ := hrel
    have Hg := Lib.hid hg; clear hg
    by_cases h : y = 0
    · subst h
      have h' : ((0 : Nat) : Int) = 0 := rfl
      rw [h']
      go_wp2
      go_ret
      exact ⟨ret_int (by rw [← Hg.out, Nat.gcd_zero_right]), m, rfl⟩
    · have h1 : ((y : Int) != 0) = true := by rw [bne_iff_ne]; omega
      have h2 : ((y : Int) == 0) = false := by rw [beq_eq_false_iff_ne]; omega
      have hz : x % y < y := Nat.mod_lt _ (by omega)
      go_wp2
      go_quiet (fail)
      go_wp2
      go_roundw
      case rel => exact ⟨y, x % y, m + nq, hy, by omega, rfl, rfl, by rw [gcd_step, Hg.out], World.drewN_drewN _ _ _⟩
      case measure => simp only [intOf]; omega

theorem MakerIs.some {n : Nat} {p : Nat → Bool} {e : Ending} (h : MakerIs n p e) (hp : ∃ g, 1 ≤ g ∧ g < n ∧ p g = true) : ∃ g : Nat, 1 ≤ g ∧ g < n ∧ e = .returned (.tuple #[.int .i64 g, .int .i64 0]) := by
  obtain ⟨g, a1, a2, a3⟩ := hp
  rcases h with ⟨g', b1, b2, _, _, b5⟩ | ⟨b4, _⟩
  · exact ⟨g', b1, b2, b5⟩
  · have := b4 g a1 a2
    rw [a3] at this; cases this

theorem rem_nat (x : Int) (n : Nat) (hn : 1 ≤ n) : ∃ u : Nat, (IntKind.u64.wrap x).tmod (n : Int) = (u : Int) ∧ u < n := by
  obtain ⟨U, hU⟩ : ∃ U : Nat, IntKind.u64.wrap x = (U : Int) := Int.eq_ofNat_of_zero_le (wrap_u64_nonneg x)
  exact ⟨U % n, by rw [hU, Int.tmod_eq_emod_of_nonneg (by omega)]; simp, Nat.mod_lt _ (by omega)⟩

set_option maxHeartbeats 8000000 in
theorem TopDeep_walk (n k x y : Int) (_w0 : (Lit.int .i64 n).wf = true) (_w1 : (Lit.int .i64 k).wf = true) (_w2 : (Lit.int .i64 x).wf = true) (_w3 : (Lit.int .i64 y).wf = true) (w : World) (hT : Tab w) :
    Calls Tryd.prog 14 #[.int .i64 n, .int .i64 k, .int .i64 x, .int .i64 y] w fun e w' => e = .returned (.bool true) ∧ Below w.heap.size w w' := by
  have HV := Lib.hid (Part_any n k)
  by_cases hv : vldK n k = true
  · rw [hv] at HV
    obtain ⟨n, k, rfl, rfl, h1, h2, h3, h4⟩ := vldK_nat hv
    obtain ⟨u, hu1, hu2⟩ := rem_nat x n (by omega)
    obtain ⟨c, hc1, hc2⟩ := rem_nat y n (by omega)
    have HG := Lib.hid (topgcd_any (1 + u) n (by omega) (by omega))
    have hgl : Nat.gcd (1 + u) n ≤ n := Nat.gcd_le_right _ (by omega)
    have hp16 : 2 ^ n ≤ 2 ^ 16 := Nat.pow_le_pow_right (by omega) h2
    have HP := Lib.hid hp16
    have hcast : (1 : Int) + (u : Int) = ((1 + u : Nat) : Int) := by omega
    by_cases hok : Nat.gcd (1 + u) n = 1 ∧ k ≤ n / 2 + 1
    · obtain ⟨hg1, hk2⟩ := hok
      have hun : 1 + u < n := by
        apply Nat.lt_of_le_of_ne (by omega)
        intro e
        rw [e, Nat.gcd_self] at hg1
        omega
      obtain ⟨m1, m2, m3⟩ := made_deep (c := c) h1 h2 h3 h4 hk2 hun (by omega) hc2 hg1
      have hsl : mkN n (1 + u) k c < 2 ^ n := mkN_lt (by omega)
      have HD := Lib.hid (fun W hW => Deep_ok n (mkN n (1 + u) k c) h1 h2 hsl W hW)
      rw [m2] at HD
      have HM := Lib.hid (fun W hW => (Maker_ok n (mkN n (1 + u) k c) h1 h2 m1 hsl W hW).mono (fun e w' h => (⟨MakerIs.some h.1 m3, h.2⟩ : (∃ g : Nat, 1 ≤ g ∧ g < n ∧ e = .returned (.tuple #[.int .i64 g, .int .i64 0])) ∧ Below W.heap.size W w')))
      have HMs := Lib.hid (fun b => mkN_succ n (1 + u) b c)
      have HMl : Hid (∀ b, mkN n (1 + u) b c < 2 ^ n) := Lib.hid (fun b => mkN_lt (by omega))
      have hq : (((Nat.gcd (1 + u) n : Nat) : Int) != 1) = false := by rw [bne_eq_false_iff_eq, hg1]; rfl
      have HC := Lib.hid hcast
      generalize hGu : 1 + u = g at *
      generalize Nat.gcd g n = gc at *
      obtain ⟨S, hS⟩ : ∃ S, mkN n g k c = S := ⟨_, rfl⟩
      rw [hS] at HD HM
      have HS := Lib.hid hS
      have hu3 : u < 16 := by omega
      clear hv m1 m2 m3 hsl hg1 hS hp16 hcast
      have HGu := Lib.hid hGu
      clear hGu
      go_enter Tryd.func14, Tryd.ntmps14
      go_wp2_with fail
      refine (HV.out _).mono ?_
      rintro e w1 ⟨rfl, rfl⟩
      have hT0 := Lib.hid hT
      clear hT
      go_wp2_with fail
      go_quiet (fail)
      go_wp2_with fail
      rw [HC.out]
      refine (HG.out _).mono ?_
      rintro e w1 ⟨rfl, m1, rfl⟩
      rw [World.drewN_drewN]
      go_wp2_with fail
      go_loopw [11, 58] (fun t i wr => ∃ b m : Nat, b ≤ k ∧ i = .int .i64 b ∧ t = .int .i64 (mkN n g b c : Nat) ∧ wr = w.drewN m) (fun _ i _ => k - (intOf i).toNat)
      case atStart => exact ⟨0, _, Nat.zero_le _, rfl, rfl, rfl⟩
      case round =>
        obtain ⟨b, m, hb', rfl, rfl, rfl⟩ := hrel
        by_cases hlt2 : b < k
        · have hbg : (b : Int) * g ≤ 256 ∧ 0 ≤ (b : Int) * g := by
            have h9 : b * g ≤ 16 * 16 := Nat.mul_le_mul (by omega) (by omega)
            have : ((b * g : Nat) : Int) = (b : Int) * g := by simp
            omega
          have hu : (c + b * g) % n < n := Nat.mod_lt _ (by omega)
          have ht : ((c : Int) + (b : Int) * g).tmod n = (((c + b * g) % n : Nat) : Int) := by
            rw [Int.tmod_eq_emod_of_nonneg (by omega)]; simp
          have hpw := pow_bd (((c + b * g) % n : Nat) : Int) (by omega) (by omega)
          simp only [Int.toNat_natCast] at hpw
          have E2 : Hid (bits .or .i64 ((mkN n g b c : Nat) : Int) ((2 : Int) ^ ((c + b * g) % n)) = ((mkN n g (b + 1) c : Nat) : Int)) := by
            have b3 : 2 ^ ((c + b * g) % n) ≤ 2 ^ 16 := Nat.pow_le_pow_right (by omega) (by omega)
            have e : (2 : Int) ^ ((c + b * g) % n) = ((2 ^ ((c + b * g) % n) : Nat) : Int) := by simp
            have h5 := HMl.out b
            have h6 := HP.out
            rw [e, or_nat _ _ (by omega) (by omega), HMs.out]
            exact Lib.hid rfl
          obtain ⟨s', hs2⟩ : ∃ s', mkN n g (b + 1) c = s' := ⟨_, rfl⟩
          rw [hs2] at E2
          have HS2 := Lib.hid hs2
          clear hs2
          generalize mkN n g b c = t at E2
          generalize (c + b * g) % n = u at *
          go_wp2
          go_roundw
          case rel => exact ⟨b + 1, m, by omega, by go_num, by rw [HS2.out, E2.out], rfl⟩
          case measure => simp only [intOf]; omega
        · obtain rfl : b = k := by omega
          rw [HS.out]
          go_wp2_with fail
          have c0 : Below w.heap.size w (w.drewN m) := below_drewN (Below.refl _ w) m
          refine (HD.out _ (hT0.out.same c0)).mono ?_
          rintro e w5 ⟨rfl, b5⟩
          have c5 := below_next c0 b5
          clear c0 b5
          go_wp2_with fail
          refine (HM.out _ (hT0.out.same c5)).mono ?_
          rintro e w6 ⟨⟨q, q1, q2, rfl⟩, b6⟩
          have c6 := below_next c5 b6
          clear c5 b6
          go_wp2_with fail
          refine (spreads_any _).mono ?_
          rintro e w7 ⟨rfl, b7⟩
          have c7 := below_next c6 b7
          clear c6 b7
          go_wp2
          go_ret
          exact ⟨rfl, c7⟩
    · have hq : Hid (Nat.gcd (1 + u) n ≠ 1) ∨ ((Nat.gcd (1 + u) n = 1) ∧ n / 2 + 2 ≤ k) := by
        by_cases e : Nat.gcd (1 + u) n = 1
        · exact Or.inr ⟨e, by rcases Nat.lt_or_ge (n / 2 + 1) k with h | h; exact h; exact absurd ⟨e, h⟩ hok⟩
        · exact Or.inl (Lib.hid e)
      have HC := Lib.hid hcast
      clear hok hv hp16 hcast HP
      have hu3 : 1 + u ≤ 16 := by omega
      generalize hGu : 1 + u = g at *
      generalize Nat.gcd g n = gc at *
      have HGu := Lib.hid hGu
      clear hGu hT
      rcases hq with hq | ⟨hq, hk2⟩
      · have hq2 : ((gc : Int) != 1) = true := by
          have := hq.out
          rw [bne_iff_ne]; omega
        clear hq
        go_enter Tryd.func14, Tryd.ntmps14
        go_wp2_with fail
        refine (HV.out _).mono ?_
        rintro e w1 ⟨rfl, rfl⟩
        go_wp2_with fail
        go_quiet (fail)
        go_wp2_with fail
        rw [HC.out]
        refine (HG.out _).mono ?_
        rintro e w1 ⟨rfl, m1, rfl⟩
        rw [World.drewN_drewN]
        have c0 : Below w.heap.size w (w.drewN (nq + m1)) := below_drewN (Below.refl _ w) (nq + m1)
        go_wp2_with fail
        refine (spreads_any _).mono ?_
        rintro e w7 ⟨rfl, b7⟩
        have c7 := below_next c0 b7
        clear c0 b7
        go_wp2
        go_ret
        exact ⟨rfl, c7⟩
      · have hq2 : ((gc : Int) != 1) = false := by
          rw [bne_eq_false_iff_eq]; omega
        have hk3 : ((n : Int) / 2 < (k : Int) - 1) := by omega
        clear hq
        go_enter Tryd.func14, Tryd.ntmps14
        go_wp2_with fail
        refine (HV.out _).mono ?_
        rintro e w1 ⟨rfl, rfl⟩
        go_wp2_with fail
        go_quiet (fail)
        go_wp2_with fail
        rw [HC.out]
        refine (HG.out _).mono ?_
        rintro e w1 ⟨rfl, m1, rfl⟩
        rw [World.drewN_drewN]
        have c0 : Below w.heap.size w (w.drewN (nq + m1)) := below_drewN (Below.refl _ w) (nq + m1)
        go_wp2_with fail
        refine (spreads_any _).mono ?_
        rintro e w7 ⟨rfl, b7⟩
        have c7 := below_next c0 b7
        clear c0 b7
        go_wp2
        go_ret
        exact ⟨rfl, c7⟩
  · have hv' : vldK n k = false := by simpa using hv
    rw [hv'] at HV
    have H1 := Lib.hid (Spread_bad n k 0 (by rw [hv']; rfl))
    clear hv hv' hT
    go_enter Tryd.func14, Tryd.ntmps14
    go_wp2_with fail
    refine (HV.out _).mono ?_
    rintro e w1 ⟨rfl, rfl⟩
    go_wp2_with fail
    refine (H1.out _).mono ?_
    rintro e w1 ⟨rfl, rfl⟩
    go_wp2_with fail
    refine (spreads_any _).mono ?_
    rintro e w5 ⟨rfl, b5⟩
    go_wp2
    go_ret
    exact ⟨rfl, b5⟩

end Go.Proofs.YtmemnkmmjejlgaaDoor
