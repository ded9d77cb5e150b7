/-
  Spread of package even: its contract; what keeps a statement awake.
-/
import Derived.Test.YtbdmljakdjdjkaaDoorZeLeafA
import Derived.Test.YtbdmljakdjdjkaaDoorEvMath
import Derived.Test.YtbdmljakdjdjkaaDoorMem
import Derived.RangeFuncNested
import Derived.RangeFuncBound
import Derived.RangeFuncCalls
import Derived.RangeFuncLeaves
import Derived.Shelf.Abstract
import Derived.Shelf.RegionOpen
import Derived.Shelf.Spec.TrailingZeros
import Derived.OwnWalkIn
import Derived.TacticsInMore
import Derived.LoopNIn
import Derived.LoopIn
import Derived.WalkSpells
import Derived.WalkSmall
namespace Go.Proofs.YtbdmljakdjdjkaaDoor.Ze
open Go.RowKit Go.Shelf
set_option maxRecDepth 100000

theorem Spread_bad (n k m : Int) (h : (vldK n k && decide (0 ≤ m ∧ m < n)) = false) (w : World) :
    Calls Tryd.prog 6 #[.int .i64 n, .int .i64 k, .int .i64 m] w fun e w' => e = .returned (.tuple #[.int .i64 0, .int .i64 2]) ∧ w = w' := by
  have H0 := Lib.hid (hasScales_any n k)
  by_cases hv : vldK n k = true
  · rw [hv] at H0
    rw [hv, Bool.true_and] at h
    have h' := of_decide_eq_false h
    by_cases h1 : 0 ≤ m
    · have h2 : n ≤ m := by omega
      clear h h' hv
      go_enter Tryd.func6, Tryd.ntmps6
      go_wp2_with fail
      refine (H0.out _).mono ?_
      rintro e w' ⟨rfl, rfl⟩
      go_wp2
      go_ret2
      exact ⟨rfl, rfl⟩
    · clear h h' hv
      go_enter Tryd.func6, Tryd.ntmps6
      go_wp2_with fail
      refine (H0.out _).mono ?_
      rintro e w' ⟨rfl, rfl⟩
      go_wp2
      go_ret2
      exact ⟨rfl, rfl⟩
  · have hv' : vldK n k = false := by simpa using hv
    rw [hv'] at H0
    clear h hv hv'
    go_enter Tryd.func6, Tryd.ntmps6
    go_wp2_with fail
    refine (H0.out _).mono ?_
    rintro e w' ⟨rfl, rfl⟩
    go_wp2
    go_ret2
    exact ⟨rfl, rfl⟩

/-- The tones of the first ones. -/
def sprTo (n k m i : Nat) : Nat := orL (fun i => (i * n + m) / k % n) (List.range i)
theorem sprTo_succ (n k m i : Nat) : sprTo n k m (i + 1) = sprTo n k m i ||| 2 ^ ((i * n + m) / k % n) := by
  unfold sprTo
  rw [List.range_succ, orL_snoc, Nat.one_shiftLeft]
theorem sprTo_lt {n k m : Nat} (hn : 1 ≤ n) (i : Nat) : sprTo n k m i < 2 ^ n := orL_lt _ _ _ (fun _ _ => Nat.mod_lt _ hn)

theorem Spread_ok (n k m : Nat) (h1 : 2 ≤ n) (h2 : n ≤ 16) (h3 : 1 ≤ k) (h4 : k ≤ n) (h5 : m < n) (w : World) :
    Calls Tryd.prog 6 #[.int .i64 n, .int .i64 k, .int .i64 m] w fun e w' => e = .returned (.tuple #[.int .i64 (sprN n k m : Nat), .int .i64 0]) ∧ ∃ q, w' = w.drewN q := by
  have H0 := Lib.hid (hasScales_any n k)
  rw [vldK_of_nat h1 h2 h3 h4] at H0
  have HS := Lib.hid (sprTo_succ n k m)
  have HL := Lib.hid (sprTo_lt (n := n) (k := k) (m := m) (by omega))
  have hp : 2 ^ n ≤ 2 ^ 16 := Nat.pow_le_pow_right (by omega) h2
  have HE := Lib.hid (show sprTo n k m k = sprN n k m from rfl)
  have HZ := Lib.hid (show sprTo n k m 0 = 0 from rfl)
  have HP := Lib.hid hp
  clear hp
  go_enter Tryd.func6, Tryd.ntmps6
  go_wp2_with fail
  refine (H0.out _).mono ?_
  rintro e w' ⟨rfl, rfl⟩
  go_wp2
  go_loopw [8, 9, 24] (fun s _ i wr => ∃ j q : Nat, j ≤ k ∧ i = .int .i64 j ∧ s = .int .i64 (sprTo n k m j : Nat) ∧ wr = w.drewN q) (fun _ _ i _ => k - (intOf i).toNat)
  case atStart => exact ⟨0, 0, Nat.zero_le _, rfl, by rw [HZ.out]; rfl, rfl⟩
  case round =>
    obtain ⟨j, q, hj, rfl, rfl, rfl⟩ := hrel
    by_cases hlt : j < k
    · have hjn : j * n ≤ 16 * 16 := Nat.mul_le_mul (by omega) h2
      have hjn' : (j : Int) * n ≤ 256 ∧ 0 ≤ (j : Int) * n := by
        have : ((j * n : Nat) : Int) = (j : Int) * n := by simp
        omega
      have hd : (j * n + m) / k ≤ j * n + m := Nat.div_le_self _ _
      have hd0 : ((j : Int) * n + m) / k = (((j * n + m) / k : Nat) : Int) := by simp
      have hm0 : (((j * n + m) / k : Nat) : Int) % (n : Int) = (((j * n + m) / k % n : Nat) : Int) := by simp
      have hu : (j * n + m) / k % n < n := Nat.mod_lt _ (by omega)
      have hs := HL.out j
      have hs' := HL.out (j + 1)
      have e1 := HS.out j
      have E2 : Hid (bits .or .i64 ((sprTo n k m j : Nat) : Int) ((2 : Int) ^ ((j * n + m) / k % n)) = ((sprTo n k m (j + 1) : Nat) : Int)) := by
        have b3 : 2 ^ ((j * n + m) / k % n) ≤ 2 ^ 16 := Nat.pow_le_pow_right (by omega) (by omega)
        have e : (2 : Int) ^ ((j * n + m) / k % n) = ((2 ^ ((j * n + m) / k % n) : Nat) : Int) := by simp
        have := HP.out
        rw [e, or_nat _ _ (by omega) (by omega), e1]
        exact Lib.hid rfl
      have ht : (((j : Int) * n + m) / k).tmod n = (((j * n + m) / k % n : Nat) : Int) := by
        rw [hd0, Int.tmod_eq_emod_of_nonneg (Int.natCast_nonneg _)]; simp
      have hp := pow_bd (((j * n + m) / k % n : Nat) : Int) (by omega) (by omega)
      simp only [Int.toNat_natCast] at hp
      obtain ⟨s', hs2⟩ : ∃ s', sprTo n k m (j + 1) = s' := ⟨_, rfl⟩
      rw [hs2] at E2
      have HS2 := Lib.hid hs2
      clear hd0 hm0 e1 hs hs' hs2 hd hjn
      generalize sprTo n k m j = s at E2
      generalize (j * n + m) / k % n = u at *
      go_wp2
      go_roundw
      case rel => exact ⟨j + 1, q, by omega, by go_num, by rw [HS2.out, E2.out], rfl⟩
      case measure => simp only [intOf]; omega
    · have hjk := Lib.hid (show j = k by omega)
      go_wp2
      go_ret2
      exact ⟨by rw [hjk.out, HE.out]; rfl, q, rfl⟩

end Go.Proofs.YtbdmljakdjdjkaaDoor.Ze
