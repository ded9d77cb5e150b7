/-
  Moving, turning and multiplying: the program's way and the reference's are the same; the walk of the statement on them.
-/
import Derived.Test.YtaldfaecpcnomaaDoorZcLeafA
import Derived.Test.YtaldfaecpcnomaaDoorZcMoves
namespace Go.Proofs.YtaldfaecpcnomaaDoor.Zc
open Go.RowKit Go.Shelf
attribute [local go_sem] Oper.semAt_some
set_option maxRecDepth 100000

theorem mul_map {n c : Nat} (m : Int) (h2 : n ≤ 16) (hc : c < 2 ^ n) : mulN n c m = mapN n c m 0 := by
  unfold mulN mapN
  rw [tonesL_eq c (by omega) hc]
  congr 1
  funext t
  rw [Int.mul_comm, Int.add_zero]

theorem orL_congr {f g : Nat → Nat} {l : List Nat} (h : ∀ t ∈ l, f t = g t) : orL f l = orL g l := by
  apply Nat.eq_of_testBit_eq
  intro i
  rw [testBit_orL, testBit_orL, Bool.eq_iff_iff, List.any_eq_true, List.any_eq_true]
  constructor
  · rintro ⟨t, ht, e⟩; exact ⟨t, ht, by rwa [← h t ht]⟩
  · rintro ⟨t, ht, e⟩; exact ⟨t, ht, by rwa [h t ht]⟩

theorem mem_tonesB {n c t : Nat} : t ∈ tonesB n c ↔ t < n ∧ c.testBit t = true := by
  unfold tonesB; simp

/-- A tone moved by u, modulo n. -/
theorem mv_orL {n c u : Nat} (hu : u < n) (hc : c < 2 ^ n) : mvN n c u = orL (fun t => (t + u) % n) (tonesB n c) := by
  apply Nat.eq_of_testBit_eq
  intro i
  rw [testBit_mv hu hc, testBit_orL, Bool.eq_iff_iff, Bool.and_eq_true, List.any_eq_true, decide_eq_true_eq]
  constructor
  · rintro ⟨hi, hb⟩
    refine ⟨(i + n - u) % n, mem_tonesB.2 ⟨Nat.mod_lt _ (by omega), hb⟩, ?_⟩
    rw [decide_eq_true_eq, Nat.mod_add_mod, show i + n - u + u = i + n from by omega, Nat.add_mod_right, Nat.mod_eq_of_lt hi]
  · rintro ⟨t, ht, e⟩
    obtain ⟨ht1, ht2⟩ := mem_tonesB.1 ht
    rw [decide_eq_true_eq] at e
    subst e
    refine ⟨Nat.mod_lt _ (by omega), ?_⟩
    have e2 : ((t + u) % n + n - u) % n = t := by
      by_cases h : t + u < n
      · rw [Nat.mod_eq_of_lt h, show t + u + n - u = t + n from by omega, Nat.add_mod_right, Nat.mod_eq_of_lt ht1]
      · rw [show t + u = (t + u - n) + n from by omega, Nat.add_mod_right, Nat.mod_eq_of_lt (show t + u - n < n by omega), show t + u - n + n - u = t from by omega, Nat.mod_eq_of_lt ht1]
    rw [e2]; exact ht2

theorem mv_map {n c u : Nat} (hu : u < n) (hc : c < 2 ^ n) : mvN n c u = mapN n c 1 u := by
  rw [mv_orL hu hc]
  unfold mapN
  apply orL_congr
  intro t _
  rw [Int.one_mul]
  have e : ((t : Int) + u) % n = (((t + u) % n : Nat) : Int) := by simp
  rw [e, Int.toNat_natCast]

end Go.Proofs.YtaldfaecpcnomaaDoor.Zc
