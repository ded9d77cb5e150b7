/-
  The walk of the statement on steps.
-/
import Derived.Test.YtmemnkmmjejlgaaDoorEvStepMath
namespace Go.Proofs.YtmemnkmmjejlgaaDoor
open Go.RowKit Go.Shelf
attribute [local go_sem] Oper.semAt_some
set_option maxRecDepth 100000

theorem gcd_step (a b : Nat) : Nat.gcd b (a % b) = Nat.gcd a b := by
  rw [Nat.gcd_comm a b, Nat.gcd_rec b a, Nat.gcd_comm]

theorem gcd_any (a b : Nat) (ha : a < 2 ^ 62) (hb : b < 2 ^ 62) (w : World) :
    Calls Tryd.prog 37 #[.int .i64 a, .int .i64 b] w fun e w' => e = .returned (.int .i64 (Nat.gcd a b : Nat)) ∧ ∃ m, w' = w.drewN m := by
  go_enter Tryd.func37, Tryd.ntmps37
  go_wp2
  go_loopw [0, 1] (fun u v wr => ∃ x y m : Nat, x < 2 ^ 62 ∧ y < 2 ^ 62 ∧ u = .int .i64 x ∧ v = .int .i64 y ∧ Nat.gcd x y = Nat.gcd a b ∧ wr = w.drewN m) (fun _ v _ => (intOf v).toNat)
  case atStart => exact ⟨a, b, 0, ha, hb, rfl, rfl, rfl, rfl⟩
  case round =>
    obtain ⟨x, y, m, hx, hy, rfl, rfl, hg, rfl⟩ := hrel
    have Hg := Lib.hid hg; clear hg
    by_cases h : y = 0
    · subst h
      have h' : ((0 : Nat) : Int) = 0 := rfl
      rw [h']
      go_wp2
      go_ret
      exact ⟨ret_int (by rw [← Hg.out, Nat.gcd_zero_right]), m, rfl⟩
    · have h1 : ((y : Int) != 0) = true := by rw [bne_iff_ne]; omega
      have h2 : ((y : Int) == 0) = false := by rw [beq_eq_false_iff_ne]; omega
      have hz : x % y < y := Nat.mod_lt _ (by omega)
      go_wp2
      go_quiet (fail)
      go_wp2
      go_roundw
      case rel => exact ⟨y, x % y, m + nq, hy, by omega, rfl, rfl, by rw [gcd_step, Hg.out], World.drewN_drewN _ _ _⟩
      case measure => simp only [intOf]; omega

theorem mv_int (n c u : Nat) (hn : n ≤ 16) (hu : u < n) (hc : c < 2 ^ n) :
    bits .and .i64 (bits .or .i64 ((c : Int) * 2 ^ u) ((c : Int) / 2 ^ (n - u))) ((2 : Int) ^ n - 1) = (mvN n c u : Nat) := by
  have hn2 : (2 : Nat) ^ n ≤ 2 ^ 16 := Nat.pow_le_pow_right (by omega) hn
  have hu2 : (2 : Nat) ^ u ≤ 2 ^ 16 := Nat.pow_le_pow_right (by omega) (by omega)
  have e1 : (c : Int) * 2 ^ u = ((c <<< u : Nat) : Int) := by rw [Nat.shiftLeft_eq]; simp
  have e2 : (c : Int) / 2 ^ (n - u) = ((c >>> (n - u) : Nat) : Int) := by rw [Nat.shiftRight_eq_div_pow]; simp
  have e3 : (2 : Int) ^ n - 1 = ((2 ^ n - 1 : Nat) : Int) := by have := Nat.two_pow_pos n; simp [Int.ofNat_sub this]
  have hm : c * 2 ^ u < 2 ^ 32 := by
    calc c * 2 ^ u < 2 ^ n * 2 ^ u := Nat.mul_lt_mul_of_pos_right hc (Nat.two_pow_pos u)
      _ ≤ 2 ^ 16 * 2 ^ 16 := Nat.mul_le_mul hn2 hu2
  have b1 : c <<< u < 2 ^ 63 := by rw [Nat.shiftLeft_eq]; omega
  have b2 : c >>> (n - u) < 2 ^ 63 := by rw [Nat.shiftRight_eq_div_pow]; exact Nat.lt_of_le_of_lt (Nat.div_le_self _ _) (by omega)
  rw [e1, e2, e3, or_nat _ _ b1 b2, and_nat _ _ (Nat.or_lt_two_pow b1 b2) (by omega)]
  rfl

theorem moved_any (n c u : Nat) (hn : 2 ≤ n) (hn2 : n ≤ 16) (hc : c < 2 ^ n) (hu : u < n) (w : World) :
    Calls Tryd.prog 39 #[.int .i64 n, .int .i64 c, .int .i64 u] w fun e w' => e = .returned (.int .i64 (mvN n c u : Nat)) ∧ ∃ m, w' = w.drewN m := by
  have hb : (c : Int) * 2 ^ u ≤ 4294967296 ∧ 0 ≤ (c : Int) * 2 ^ u := by
    have a1 : (2 : Nat) ^ n ≤ 2 ^ 16 := Nat.pow_le_pow_right (by omega) hn2
    have a2 : (2 : Nat) ^ u ≤ 2 ^ 16 := Nat.pow_le_pow_right (by omega) (by omega)
    have a3 : c * 2 ^ u ≤ 2 ^ 16 * 2 ^ 16 := Nat.mul_le_mul (by omega) a2
    have e : (c : Int) * 2 ^ u = ((c * 2 ^ u : Nat) : Int) := by simp
    rw [e]; omega
  have hp := pow_bd (n : Int) (by omega) (by omega)
  simp only [Int.toNat_natCast] at hp
  have hs : ((n : Int) - (u : Int)).toNat = n - u := by omega
  have HM := Lib.hid (mv_int n c u hn2 hu hc)
  clear hc
  go_enter Tryd.func39, Tryd.ntmps39
  go_wp2
  go_quiet (fail)
  go_wp2
  go_ret
  refine ⟨ret_int ?_, nq, rfl⟩
  exact HM.out

/-! ### how many tones -/

theorem Enum.card {n k s : Nat} {U : Nat → Nat} (h : Enum n k s U) (hn : 1 ≤ n) : (tonesB n s).length = k := by
  have h1 := h.cnt 0 k
  rw [h.per, Nat.add_sub_cancel_left] at h1
  rw [← h1, tonesB_card]
  unfold cR
  rw [← sum_move n ((U 0 + 1) % n) (Nat.mod_lt _ hn) (bI s)]
  refine sum_congr (fun t _ => ?_)
  rw [Nat.add_mod_mod, Nat.add_comm]

theorem spr_card {n k m : Nat} (hk : 1 ≤ k) (hkn : k ≤ n) : (tonesB n (sprN n k m)).length = k := (spr_enum (m := m) hk hkn).card (by omega)

theorem card_mv {n s u : Nat} (hs : s < 2 ^ n) (hu : u < n) : (tonesB n (mvN n s u)).length = (tonesB n s).length := by
  rw [tonesB_card, tonesB_card, ← sum_turned n u hu (bI s)]
  refine sum_congr (fun t ht => ?_)
  unfold bI
  rw [testBit_mv hu hs, decide_eq_true ht, Bool.true_and]

theorem card_pos1 {n s : Nat} (h : 1 ≤ (tonesB n s).length) : 1 ≤ s := by
  apply Nat.pos_of_ne_zero
  rintro rfl
  rw [tonesB_card, show sumN n (bI 0) = sumN n (fun _ => 0) from sum_congr (fun i _ => by simp [bI]), sum_zero] at h
  omega

/-- What is known of the step that Maker tells. -/
theorem steps_math {n k u g : Nat} (h1 : 2 ≤ n) (h2 : n ≤ 16) (h3 : 1 ≤ k) (h4 : k ≤ n) (hu : u < n) (hg : Nat.gcd n k = 1) :
    (∃ g, 1 ≤ g ∧ g < n ∧ makesB n g (mvN n (sprN n k 0) u) = true) ∧
    (1 ≤ g → g < n → makesB n g (mvN n (sprN n k 0) u) = true → (∀ h, 1 ≤ h → h < g → makesB n h (mvN n (sprN n k 0) u) = false) →
      (2 ≤ k → k * g % n = 1 ∨ k * g % n = n - 1) ∧ ∃ c, c < n ∧ mkN n g k c = mvN n (sprN n k 0) u) := by
  have hs := sprN_lt (n := n) (k := k) (m := 0) (by omega)
  have hc : (tonesB n (mvN n (sprN n k 0) u)).length = k := by rw [card_mv hs hu, spr_card h3 h4]
  have key : ∀ g, makesB n g (mvN n (sprN n k 0) u) = true ↔ ∃ c, c < n ∧ mkN n g k c = sprN n k 0 := by
    intro g
    rw [makesB_iff (by omega), hc, made_move (by omega) hs hu]
  obtain ⟨⟨g0, hg1, hg2, hm⟩, hB⟩ := step_ok h1 h2 h3 h4 hg
  refine ⟨⟨g0, hg1, hg2, (key g0).2 hm⟩, fun a1 a2 a3 a4 => ⟨fun hk2 => ?_, ?_⟩⟩
  · rcases hB with h | ⟨h, hm1⟩ | h
    · omega
    · have : g = 1 := by
        apply Nat.le_antisymm _ a1
        apply Nat.le_of_not_lt
        intro hlt
        have := a4 1 (Nat.le_refl _) hlt
        rw [(key 1).2 hm1] at this
        cases this
      subst this
      refine Or.inr ?_
      rw [Nat.mul_one, Nat.mod_eq_of_lt (by omega)]
      omega
    · exact h g a1 a2 ((key g).1 a3)
  · have := (makesB_iff (by omega)).1 a3
    rwa [hc] at this

set_option maxHeartbeats 4000000 in
theorem EvenSteps_walk (n k x : Int) (_w0 : (Lit.int .i64 n).wf = true) (_w1 : (Lit.int .i64 k).wf = true) (_w2 : (Lit.int .i64 x).wf = true) (w : World) (hT : Tab w) :
    Calls Tryd.prog 9 #[.int .i64 n, .int .i64 k, .int .i64 x] w fun e w' => e = .returned (.bool true) ∧ Below w.heap.size w w' := by
  by_cases hv : vldK n k = true
  · have HV := Lib.hid (Part_any n k)
    rw [hv] at HV
    obtain ⟨n, k, rfl, rfl, h1, h2, h3, h4⟩ := vldK_nat hv
    have HSp := Lib.hid (Spread_ok n k 0 h1 h2 h3 h4 (by omega))
    obtain ⟨u, hu1, hu2⟩ : ∃ u : Nat, (IntKind.u64.wrap x).tmod (n : Int) = (u : Int) ∧ u < n := by
      obtain ⟨U, hU⟩ : ∃ U : Nat, IntKind.u64.wrap x = (U : Int) := Int.eq_ofNat_of_zero_le (wrap_u64_nonneg x)
      exact ⟨U % n, by rw [hU, Int.tmod_eq_emod_of_nonneg (by omega)]; simp, Nat.mod_lt _ (by omega)⟩
    have hs0 := sprN_lt (n := n) (k := k) (m := 0) (by omega)
    have HMv := Lib.hid (moved_any n (sprN n k 0) u h1 h2 hs0 hu2)
    have hsl : mvN n (sprN n k 0) u < 2 ^ n := mv_lt
    have hs1 : 1 ≤ mvN n (sprN n k 0) u := card_pos1 (n := n) (by rw [card_mv hs0 hu2, spr_card h3 h4]; exact h3)
    have HMk := Lib.hid (fun W hW => Maker_ok n (mvN n (sprN n k 0) u) h1 h2 hs1 hsl W hW)
    have HG := Lib.hid (gcd_any n k (by omega) (by omega))
    have HStep := Lib.hid (fun (hg : Nat.gcd n k = 1) => And.intro (steps_math h1 h2 h3 h4 hu2 hg (g := 0)).1 (fun g => (steps_math h1 h2 h3 h4 hu2 hg (g := g)).2))
    have HMt := Lib.hid (fun b c => mkN_succ n b k c)
    have hp16 : 2 ^ n ≤ 2 ^ 16 := Nat.pow_le_pow_right (by omega) h2
    have hsl16 : mvN n (sprN n k 0) u < 65536 := by omega
    have HP := Lib.hid hp16
    have hgc : Nat.gcd n k ≤ n := Nat.gcd_le_left _ (by omega)
    generalize mvN n (sprN n k 0) u = s at *
    generalize sprN n k 0 = s0 at *
    have HU := Lib.hid hu1
    clear hv hs0 hsl hs1 hp16
    go_enter Tryd.func9, Tryd.ntmps9
    go_wp2_with fail
    refine (HSp.out _).mono ?_
    rintro e w1 ⟨rfl, q1, rfl⟩
    have t1 : Tab (w.drewN q1) := hT
    have b1 := below_drewN (Below.refl w.heap.size w) q1
    go_wp2_with fail
    refine (HV.out _).mono ?_
    rintro e w4 ⟨rfl, rfl⟩
    have hu1 := HU.out
    go_wp2_with fail
    refine (HMv.out _).mono ?_
    rintro e w2 ⟨rfl, q2, rfl⟩
    have t2 : Tab (w.drewN (q1 + q2)) := hT
    have b2 := below_drewN (Below.refl w.heap.size w) (q1 + q2)
    go_wp2_with fail
    refine (HMk.out _ t2).mono ?_
    rintro e w3 ⟨hmk, b3⟩
    have c3 := b2.trans (b3.mono b2.size)
    clear b1 b2 b3 t1 t2 hT
    rcases hmk with ⟨g, hg1, hg2, hmk1, hmk2, rfl⟩ | ⟨hmk2, rfl⟩
    · have HMk1 := Lib.hid hmk1
      have HMk2 := Lib.hid hmk2
      clear hmk1 hmk2
      go_wp2_with fail
      refine (HG.out _).mono ?_
      rintro e w4 ⟨rfl, q4, rfl⟩
      have c4 := below_drewN c3 q4
      by_cases hgcd : Nat.gcd n k = 1
      · obtain ⟨hex, hall⟩ := HStep.out hgcd
        obtain ⟨hone, c0, hc0, hc0s⟩ := hall g hg1 hg2 HMk1.out HMk2.out
        have hq : (((Nat.gcd n k : Nat) : Int) != 1) = false := by rw [bne_eq_false_iff_eq, hgcd]; rfl
        have hkg : (k : Int) * g ≤ 256 ∧ 0 ≤ (k : Int) * g := by
          have h9 : k * g ≤ 16 * 16 := Nat.mul_le_mul (by omega) (by omega)
          have : ((k * g : Nat) : Int) = (k : Int) * g := by simp
          omega
        have htm : ((k : Int) * g).tmod n = ((k * g % n : Nat) : Int) := by
          rw [Int.tmod_eq_emod_of_nonneg (by omega)]; simp
        have hmn : k * g % n < n := Nat.mod_lt _ (by omega)
        have HC0 := Lib.hid (And.intro hc0 hc0s)
        have HOne := Lib.hid hone
        clear hex hall hone hgcd hc0 hc0s
        generalize k * g % n = r at *
        generalize Nat.gcd n k = gc at *
        have hcase : (2 ≤ k ∧ ((r : Int) != 1) = false) ∨ (2 ≤ k ∧ ((r : Int) != 1) = true ∧ ((r : Int) != (n : Int) - 1) = false) ∨ k < 2 := by
          by_cases hk2 : 2 ≤ k
          · by_cases hr1 : r = 1
            · exact Or.inl ⟨hk2, by rw [bne_eq_false_iff_eq, hr1]; rfl⟩
            · have := (HOne.out hk2).resolve_left hr1
              exact Or.inr (Or.inl ⟨hk2, by rw [bne_iff_ne]; omega, by rw [bne_eq_false_iff_eq]; omega⟩)
          · exact Or.inr (Or.inr (by omega))
        rcases hcase with ⟨hk2, hr1⟩ | ⟨hk2, hr1, hr2⟩ | hk2
        all_goals
          go_wp2
          go_loopw [94] (fun i wr => ∃ c m : Nat, c ≤ n ∧ i = .int .i64 c ∧ (∀ c', c' < c → mkN n g k c' ≠ s) ∧ wr = w3.drewN m) (fun i _ => n - (intOf i).toNat)
          case atStart => exact ⟨0, q4, Nat.zero_le _, rfl, fun c' h => by omega, rfl⟩
          case round =>
            obtain ⟨c, m, hc, rfl, hno, rfl⟩ := hrel
            have HNo := Lib.hid hno
            clear hno
            by_cases hlt : c < n
            · go_wp2
              go_loopw [11, 98] (fun t i wr => ∃ b m' : Nat, b ≤ k ∧ i = .int .i64 b ∧ t = .int .i64 (mkN n g b c : Nat) ∧ wr = w3.drewN m') (fun _ i _ => k - (intOf i).toNat)
              case atStart => exact ⟨0, m, Nat.zero_le _, rfl, rfl, rfl⟩
              case round =>
                obtain ⟨b, m', hb', rfl, rfl, rfl⟩ := hrel
                by_cases hlt2 : b < k
                · have hbg : (b : Int) * g ≤ 256 ∧ 0 ≤ (b : Int) * g := by
                    have h9 : b * g ≤ 16 * 16 := Nat.mul_le_mul (by omega) (by omega)
                    have : ((b * g : Nat) : Int) = (b : Int) * g := by simp
                    omega
                  have hu9 : (c + b * g) % n < n := Nat.mod_lt _ (by omega)
                  have ht9 : ((c : Int) + (b : Int) * g).tmod n = (((c + b * g) % n : Nat) : Int) := by
                    rw [Int.tmod_eq_emod_of_nonneg (by omega)]; simp
                  have hpw := pow_bd (((c + b * g) % n : Nat) : Int) (by omega) (by omega)
                  simp only [Int.toNat_natCast] at hpw
                  have E2 : Hid (bits .or .i64 ((mkN n g b c : Nat) : Int) ((2 : Int) ^ ((c + b * g) % n)) = ((mkN n g (b + 1) c : Nat) : Int)) := by
                    have b3 : 2 ^ ((c + b * g) % n) ≤ 2 ^ 16 := Nat.pow_le_pow_right (by omega) (by omega)
                    have e : (2 : Int) ^ ((c + b * g) % n) = ((2 ^ ((c + b * g) % n) : Nat) : Int) := by simp
                    have h5 : mkN n g b c < 2 ^ n := mkN_lt (by omega)
                    have h6 := HP.out
                    rw [e, or_nat _ _ (by omega) (by omega), mkN_succ]
                    exact Lib.hid rfl
                  obtain ⟨s', hs2⟩ : ∃ s', mkN n g (b + 1) c = s' := ⟨_, rfl⟩
                  rw [hs2] at E2
                  have HS2 := Lib.hid hs2
                  clear hs2
                  generalize mkN n g b c = t at E2
                  generalize (c + b * g) % n = u9 at *
                  go_wp2
                  go_roundw
                  case rel => exact ⟨b + 1, m', by omega, by go_num, by rw [HS2.out, E2.out], rfl⟩
                  case measure => simp only [intOf]; omega
                · have HB : Hid (b = k) := Lib.hid (by omega)
                  obtain ⟨q, hq9⟩ : ∃ q, (((mkN n g b c : Nat) : Int) == (s : Int)) = q := ⟨_, rfl⟩
                  have HQ := Lib.hid hq9
                  cases q
                  · have HNo2 := Lib.hid (show ∀ c', c' < c + 1 → mkN n g k c' ≠ s from fun c' h e => by
                      by_cases e2 : c' = c
                      · have h8 := HQ.out
                        rw [beq_eq_false_iff_ne] at h8
                        apply h8
                        rw [HB.out, ← e2, e]
                      · exact HNo.out c' (by omega) e)
                    generalize ((mkN n g b c : Nat) : Int) = z at hq9
                    go_wp2
                    go_roundw
                    case rel => exact ⟨c + 1, m', by omega, by go_num, HNo2.out, rfl⟩
                    case measure => simp only [intOf]; omega
                  · generalize ((mkN n g b c : Nat) : Int) = z at hq9
                    have c6 := below_drewN c3 m'
                    go_wp2_with fail
                    refine (awake_any _).mono ?_
                    rintro e w5 ⟨rfl, b5⟩
                    have c5 := below_next c6 b5
                    clear b5
                    go_wp2
                    go_ret
                    exact ⟨rfl, c5⟩
            · exfalso
              exact HNo.out c0 (by have := HC0.out.1; omega) HC0.out.2
      · have hq : (((Nat.gcd n k : Nat) : Int) != 1) = true := by rw [bne_iff_ne]; omega
        generalize Nat.gcd n k = gc at *
        go_wp2_with fail
        refine (awake_any _).mono ?_
        rintro e w5 ⟨rfl, b5⟩
        have c5 := below_next c4 b5
        clear b5
        go_wp2
        go_ret
        exact ⟨rfl, c5⟩
    · have HMk2 := Lib.hid hmk2
      clear hmk2
      go_wp2_with fail
      refine (HG.out _).mono ?_
      rintro e w4 ⟨rfl, q4, rfl⟩
      have c4 := below_drewN c3 q4
      by_cases hgcd : Nat.gcd n k = 1
      · exfalso
        obtain ⟨⟨g, a1, a2, a3⟩, _⟩ := HStep.out hgcd
        have := HMk2.out g a1 a2
        rw [a3] at this
        cases this
      · have hq : (((Nat.gcd n k : Nat) : Int) != 1) = true := by rw [bne_iff_ne]; omega
        generalize Nat.gcd n k = gc at *
        go_wp2_with fail
        refine (awake_any _).mono ?_
        rintro e w5 ⟨rfl, b5⟩
        have c5 := below_next c4 b5
        clear b5
        go_wp2
        go_ret
        exact ⟨rfl, c5⟩
  · have hv' : vldK n k = false := by simpa using hv
    have H1 := Lib.hid (Spread_bad n k 0 (by rw [hv']; rfl))
    clear hv hv' hT
    go_enter Tryd.func9, Tryd.ntmps9
    go_wp2_with fail
    refine (H1.out _).mono ?_
    rintro e w1 ⟨rfl, rfl⟩
    go_wp2_with fail
    refine (awake_any _).mono ?_
    rintro e w5 ⟨rfl, b5⟩
    go_wp2
    go_ret
    exact ⟨rfl, b5⟩

end Go.Proofs.YtmemnkmmjejlgaaDoor
