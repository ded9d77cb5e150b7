/-
  How often each distance occurs, as the program counts it. Plain mathematics.
-/
import Derived.Test.YthnenhfdojpobaaDoorBits
namespace Go.Proofs.YthnenhfdojpobaaDoor

/-- The place of the distance of two tones. -/
def dI (n l h : Nat) : Nat := min (h - l) (n - (h - l)) - 1

theorem dI_lt {n l h : Nat} (hl : l < h) (hh : h < n) : dI n l h < n / 2 := by
  unfold dI
  rw [Nat.min_def]; split <;> omega

/-- One pair is counted. -/
def stepV (n : Nat) (cs : List Nat) (l h : Nat) : List Nat := if l < h then cs.set (dI n l h) (cs[dI n l h]?.getD 0 + 1) else cs

def innerV (n l : Nat) (hs cs : List Nat) : List Nat := hs.foldl (fun cs h => stepV n cs l h) cs
def outerV (n : Nat) (hs ls cs : List Nat) : List Nat := ls.foldl (fun cs l => innerV n l hs cs) cs

/-- The vector of a chord. -/
def vecN (n c : Nat) : List Nat := outerV n (tonesL c) (tonesL c) (List.replicate (n / 2) 0)

theorem stepV_length (n : Nat) (cs : List Nat) (l h : Nat) : (stepV n cs l h).length = cs.length := by
  unfold stepV; split <;> simp
theorem innerV_length (n l : Nat) (hs : List Nat) : ∀ cs : List Nat, (innerV n l hs cs).length = cs.length := by
  induction hs with
  | nil => intro cs; rfl
  | cons h hs ih => intro cs; exact (ih _).trans (stepV_length _ _ _ _)
theorem outerV_length (n : Nat) (hs ls : List Nat) : ∀ cs : List Nat, (outerV n hs ls cs).length = cs.length := by
  induction ls with
  | nil => intro cs; rfl
  | cons l ls ih => intro cs; exact (ih _).trans (innerV_length _ _ _ _)
theorem vecN_length (n c : Nat) : (vecN n c).length = n / 2 := by
  unfold vecN; rw [outerV_length]; simp

theorem innerV_snoc (n l : Nat) (hs cs : List Nat) (h : Nat) : innerV n l (hs ++ [h]) cs = stepV n (innerV n l hs cs) l h := by
  unfold innerV; rw [List.foldl_append]; rfl
theorem outerV_snoc (n : Nat) (hs ls cs : List Nat) (l : Nat) : outerV n hs (ls ++ [l]) cs = innerV n l hs (outerV n hs ls cs) := by
  unfold outerV; rw [List.foldl_append]; rfl

theorem stepV_le {n : Nat} {cs : List Nat} {l h M : Nat} (hM : ∀ i : Nat, cs[i]?.getD 0 ≤ M) (i : Nat) : (stepV n cs l h)[i]?.getD 0 ≤ M + 1 := by
  unfold stepV
  split
  · rw [List.getElem?_set]
    split
    · split
      · have := hM (dI n l h); simp only [Option.getD_some]; omega
      · simp
    · have := hM i; omega
  · have := hM i; omega
theorem innerV_le {n l : Nat} (hs : List Nat) : ∀ {cs : List Nat} {M : Nat}, (∀ i : Nat, cs[i]?.getD 0 ≤ M) → ∀ i : Nat, (innerV n l hs cs)[i]?.getD 0 ≤ M + hs.length := by
  induction hs with
  | nil => intro cs M hM i; exact hM i
  | cons h hs ih =>
    intro cs M hM i
    have := ih (stepV_le (n := n) (l := l) (h := h) hM) i
    simp only [List.length_cons]
    have e : innerV n l (h :: hs) cs = innerV n l hs (stepV n cs l h) := rfl
    rw [e]; omega
theorem outerV_le {n : Nat} (hs ls : List Nat) : ∀ {cs : List Nat} {M : Nat}, (∀ i : Nat, cs[i]?.getD 0 ≤ M) → ∀ i : Nat, (outerV n hs ls cs)[i]?.getD 0 ≤ M + ls.length * hs.length := by
  induction ls with
  | nil => intro cs M hM i; have := hM i; show (cs[i]?.getD 0) ≤ _; omega
  | cons l ls ih =>
    intro cs M hM i
    have := ih (innerV_le (n := n) (l := l) hs hM) i
    have e : outerV n hs (l :: ls) cs = outerV n hs ls (innerV n l hs cs) := rfl
    rw [e, List.length_cons, Nat.succ_mul]; omega

theorem replicate_le (k i : Nat) : (List.replicate k 0)[i]?.getD 0 ≤ 0 := by
  rw [List.getElem?_replicate]; split <;> simp

end Go.Proofs.YthnenhfdojpobaaDoor
