/-
  prime, Prime, and the reference's Prime.
-/
import Derived.Test.YtibkhjbcagihbaaDoorChLeafA
import Derived.Test.YtibkhjbcagihbaaDoorChImages
namespace Go.Proofs.YtibkhjbcagihbaaDoor.Ch
open Go.RowKit Go.Shelf
attribute [local go_sem] Oper.semAt_some
set_option maxRecDepth 100000

/-- The least of a list and one more. -/
def minL (c : Nat) (xs : List Nat) : Nat := xs.foldl min c
theorem minL_snoc (c : Nat) (xs : List Nat) (x : Nat) : minL c (xs ++ [x]) = min (minL c xs) x := by simp [minL]
theorem minL_lt {c B : Nat} (h : c < B) (xs : List Nat) : minL c xs < B := by
  unfold minL
  induction xs generalizing c with
  | nil => exact h
  | cons x xs ih => exact ih (by omega)
def primeN (n c : Nat) : Nat := minL c (imgs n c)

theorem min_nat (a b : Nat) : (if ((b : Nat) : Int) < (a : Int) then ((b : Nat) : Int) else (a : Int)) = ((min a b : Nat) : Int) := by
  rw [Nat.min_def]; split <;> split <;> omega

theorem minL_min (a b : Nat) (ys : List Nat) : minL (min a b) ys = min a (minL b ys) := by
  unfold minL
  induction ys generalizing b with
  | nil => rfl
  | cons y ys ih => simp only [List.foldl_cons]; rw [show min (min a b) y = min a (min b y) from by omega]; exact ih _
theorem minL_le (c : Nat) (xs : List Nat) : minL c xs ≤ c := by
  have := minL_lt (c := c) (B := c + 1) (by omega) xs
  omega
theorem minL_append (c : Nat) (xs ys : List Nat) : minL c (xs ++ ys) = min (minL c xs) (minL c ys) := by
  have h1 : minL c (xs ++ ys) = minL (minL c xs) ys := by unfold minL; rw [List.foldl_append]
  have h2 := minL_le c xs
  rw [h1, show minL c xs = min (minL c xs) c from by omega, minL_min]
  congr 1
  omega

/-- The least, round after round as the reference takes it. -/
def minTo (n c : Nat) (k : Nat) : Nat := minL c ((List.range k).map (mvN n c) ++ (List.range k).map (mvN n (mulN n c (-1))))
theorem minTo_succ (n c k : Nat) : minTo n c (k + 1) = min (min (minTo n c k) (mvN n c k)) (mvN n (mulN n c (-1)) k) := by
  unfold minTo
  rw [List.range_succ, List.map_append, List.map_append, List.map_singleton, List.map_singleton]
  have e1 := minL_append c ((List.range k).map (mvN n c) ++ [mvN n c k]) ((List.range k).map (mvN n (mulN n c (-1))) ++ [mvN n (mulN n c (-1)) k])
  have e2 := minL_snoc c ((List.range k).map (mvN n c)) (mvN n c k)
  have e3 := minL_snoc c ((List.range k).map (mvN n (mulN n c (-1)))) (mvN n (mulN n c (-1)) k)
  have e4 := minL_append c ((List.range k).map (mvN n c)) ((List.range k).map (mvN n (mulN n c (-1))))
  rw [e1, e2, e3, e4]
  omega
theorem minTo_full (n c : Nat) : minTo n c n = primeN n c := rfl
theorem minTo_lt {n c : Nat} (h : c < 2 ^ n) (k : Nat) : minTo n c k < 2 ^ n := minL_lt h _

end Go.Proofs.YtibkhjbcagihbaaDoor.Ch
