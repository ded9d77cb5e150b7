/-
  Strokes whose number divides the beats: what the statement asks, checked by the kernel for all circles. Plain mathematics; no program is spoken of.
-/
import Derived.Test.YtbdmljakdjdjkaaDoorWhFns2
import Derived.Test.YtbdmljakdjdjkaaDoorCaMath
import Derived.Test.YtbdmljakdjdjkaaDoorCaPart
import Derived.Test.YtbdmljakdjdjkaaDoorEvMath
namespace Go.Proofs.YtbdmljakdjdjkaaDoor
open Go.RowKit
set_option linter.unusedVariables false
set_option maxRecDepth 100000

def gridChk (n k : Nat) : Bool :=
  decide (sprN n k 0 % 2 = 1) && (decide (perN n (sprN n k 0) = n / k) && (tileB n (sprN n k 0) (2 ^ (n / k) - 1) && (List.range n).all fun j => decide ((zeN (spF n (chF n (sprN n k 0))) n / 2 ^ j % 2 = 0) ↔ (j * (n / k) % n = 0))))
theorem grid_all : ((List.range 17).all fun n => (List.range 17).all fun k => if 2 ≤ n ∧ 1 ≤ k ∧ k ≤ n ∧ n % k = 0 then gridChk n k else true) = true := by decide +kernel
theorem grid {n k : Nat} (h0 : 2 ≤ n) (h1 : n ≤ 16) (h2 : 1 ≤ k) (h3 : k ≤ n) (h4 : n % k = 0) : gridChk n k = true := by
  have h := List.all_eq_true.1 grid_all n (List.mem_range.2 (by omega))
  have h := List.all_eq_true.1 h k (List.mem_range.2 (by omega))
  rwa [if_pos ⟨h0, h2, h3, h4⟩] at h
structure GridI (n k s z : Nat) : Prop where
  odd : s % 2 = 1
  per : perN n s = n / k
  tile : tileB n s (2 ^ (n / k) - 1) = true
  zero : ∀ j, j < n → ((z / 2 ^ j % 2 = 0) ↔ (j * (n / k) % n = 0))
theorem gridI {n k : Nat} (h0 : 2 ≤ n) (h1 : n ≤ 16) (h2 : 1 ≤ k) (h3 : k ≤ n) (h4 : n % k = 0) : GridI n k (sprN n k 0) (zeN (spF n (chF n (sprN n k 0))) n) := by
  have h := grid h0 h1 h2 h3 h4
  unfold gridChk at h
  rw [Bool.and_eq_true, Bool.and_eq_true, Bool.and_eq_true] at h
  obtain ⟨a, b, c, d⟩ := h
  exact ⟨of_decide_eq_true a, of_decide_eq_true b, c, fun j hj => of_decide_eq_true (List.all_eq_true.1 d j (List.mem_range.2 hj))⟩
/-- The least partner is no greater. -/
theorem grid_part {n k s b : Nat} (h0 : 2 ≤ n) (h1 : n ≤ 16) (h3 : 1 ≤ n / k) (h4 : n / k ≤ n) (hs : s < 2 ^ n) (ho : s % 2 = 1) (ht : tileB n s (2 ^ (n / k) - 1) = true) (hb : ∀ x ∈ partners n s, b ≤ x) : b ≤ 2 ^ (n / k) - 1 := by
  have hp : 2 ^ (n / k) ≤ 2 ^ n := Nat.pow_le_pow_right (by omega) h4
  have hp1 : 2 ≤ 2 ^ (n / k) := by have := Nat.pow_le_pow_right (show 0 < 2 by omega) h3; omega
  have hev : 2 ^ (n / k) % 2 = 0 := by
    obtain ⟨e, he⟩ : ∃ e, n / k = e + 1 := ⟨n / k - 1, by omega⟩
    rw [he, Nat.pow_succ]; omega
  exact hb _ ((mem_partners (by omega) (by omega) hs ho).2 ⟨by omega, by omega, tileB_true.1 ht⟩)
theorem grid_some {n k s : Nat} (h0 : 2 ≤ n) (h1 : n ≤ 16) (h3 : 1 ≤ n / k) (h4 : n / k ≤ n) (hs : s < 2 ^ n) (ho : s % 2 = 1) (ht : tileB n s (2 ^ (n / k) - 1) = true) : partners n s ≠ [] := by
  have hp : 2 ^ (n / k) ≤ 2 ^ n := Nat.pow_le_pow_right (by omega) h4
  have hp1 : 2 ≤ 2 ^ (n / k) := by have := Nat.pow_le_pow_right (show 0 < 2 by omega) h3; omega
  have hev : 2 ^ (n / k) % 2 = 0 := by
    obtain ⟨e, he⟩ : ∃ e, n / k = e + 1 := ⟨n / k - 1, by omega⟩
    rw [he, Nat.pow_succ]; omega
  intro e
  have := (mem_partners (by omega) (by omega) hs ho).2 ⟨show 2 ^ (n / k) - 1 < 2 ^ n by omega, by omega, tileB_true.1 ht⟩
  rw [e] at this
  cases this
end Go.Proofs.YtbdmljakdjdjkaaDoor
