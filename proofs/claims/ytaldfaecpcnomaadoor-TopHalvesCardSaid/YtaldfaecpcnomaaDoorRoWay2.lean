/-
  Way, and the reference's.
-/
import Derived.Test.YtaldfaecpcnomaaDoorRoWay
namespace Go.Proofs.YtaldfaecpcnomaaDoor
open Go.ChangeShapes Go.WideShapes Go.ChangeAt Go.RowKit
set_option maxRecDepth 100000

theorem wayT_hit {n t : Nat} {ys bs : List Nat} (ht : t < 4 * n) (h : formL n (t / n) (t % n) ys = bs) (hb : ∀ s, s < t → formL n (s / n) (s % n) ys ≠ bs) : wayT n ys bs = some t := by
  unfold wayT
  rw [List.find?_eq_some_iff_append]
  refine ⟨by rw [decide_eq_true_eq]; exact h, List.range t, (List.range (4 * n - (t + 1))).map (fun i => t + 1 + i), ?_, fun s hs => ?_⟩
  · rw [← List.singleton_append, ← List.append_assoc, ← List.range_succ, ← List.range_add]
    congr 1
    omega
  · have := hb s (List.mem_range.1 hs)
    simpa using this
theorem wayT_miss {n : Nat} {ys bs : List Nat} (h : ∀ s, s < 4 * n → formL n (s / n) (s % n) ys ≠ bs) : wayT n ys bs = none := by
  unfold wayT
  rw [List.find?_eq_none]
  intro t ht hh
  exact h t (List.mem_range.1 ht) (of_decide_eq_true hh)

/-! ### comparing -/
def lessL : List Nat → List Nat → Bool
  | x :: a, y :: b => if x = y then lessL a b else decide (x < y)
  | _, _ => false
theorem lessL_pre (p a b : List Nat) : lessL (p ++ a) (p ++ b) = lessL a b := by
  induction p with
  | nil => rfl
  | cons x p ih => simp [lessL, ih]
theorem lessL_self (a : List Nat) : lessL a a = false := by
  have := lessL_pre a [] []
  rw [List.append_nil] at this
  rw [this]; rfl
theorem lessL_both : ∀ {a b : List Nat}, a.length = b.length → lessL a b = false → lessL b a = false → a = b
  | [], [], _, _, _ => rfl
  | x :: a, y :: b, hl, h1, h2 => by
    unfold lessL at h1 h2
    by_cases e : x = y
    · subst e
      rw [if_pos rfl] at h1 h2
      rw [lessL_both (by simpa using hl) h1 h2]
    · rw [if_neg e] at h1
      rw [if_neg (fun e' => e e'.symm)] at h2
      have := of_decide_eq_false h1
      have := of_decide_eq_false h2
      omega
theorem lessL_at {a b : List Nat} {k : Nat} (hl : a.length = b.length) (hk : k < a.length) (h : a.take k = b.take k) (hne : a[k]?.getD 0 ≠ b[k]?.getD 0) : lessL a b = decide (a[k]?.getD 0 < b[k]?.getD 0) := by
  have ea : a = a.take k ++ a[k] :: a.drop (k + 1) := by rw [← List.drop_eq_getElem_cons hk, List.take_append_drop]
  have eb : b = b.take k ++ b[k] :: b.drop (k + 1) := by rw [← List.drop_eq_getElem_cons (by omega), List.take_append_drop]
  rw [List.getElem?_eq_getElem hk, List.getElem?_eq_getElem (by omega)] at hne ⊢
  simp only [Option.getD_some] at hne ⊢
  have : lessL a b = lessL (a.take k ++ a[k] :: a.drop (k + 1)) (b.take k ++ b[k] :: b.drop (k + 1)) := by rw [← ea, ← eb]
  rw [this, h, lessL_pre]
  unfold lessL
  rw [if_neg hne]

theorem wayV_ex (n : Nat) (o : Option Nat) : ∃ a b c : Int, wayV n o = .tuple #[.agg #[.int .i64 a, .int .i64 b], .int .i64 c] := by
  cases o with
  | none => exact ⟨0, 0, 4, rfl⟩
  | some t => exact ⟨_, _, 0, rfl⟩

end Go.Proofs.YtaldfaecpcnomaaDoor
