/-
  What the strokes need where nothing else of package even is at hand.
-/
import Derived.Test.YtmemnkmmjejlgaaEsSpread
import Derived.Test.YtmemnkmmjejlgaaEqInts
import Derived.Test.YtmemnkmmjejlgaaShelf
import Derived.Maps.OwnIn
import Derived.OwnWalk
namespace Go.Proofs.Ytmemnkmmjejlgaa
open Go.RowKit Go.Shelf
attribute [local go_sem] Oper.semAt_some
set_option maxRecDepth 100000

theorem info_int : (Try.prog.info? 3).map (fun i => (i.zero, i.size, i.bytes)) = some (some (.int .i64 0), 1, 8) := by kernel_rfl

theorem grow_set (W : World) (r i : Nat) (u : Value) : W.grownBy (W.setCell ⟨r, i, none⟩ u) (some r) :=
  ⟨rfl, rfl, rfl, by simp [World.setCell], fun k _ hne => Below.heap_setCell W ⟨r, i, none⟩ u k (fun e => hne (by rw [e]))⟩

theorem cell_at {w : World} {k : Nat} {v : Value} {t : TypeId} (h : k = w.heap.size) : (w.alloc (.cells #[v] t)).cell? ⟨k, 0, none⟩ = some v := by
  subst h; simp

theorem below_two (w : World) (o : Obj) : Below w.heap.size w (w.alloc o) := (Below.refl _ w).alloc (Nat.le_refl _) _

theorem run_make_ints (k : Nat) (hk : k ≤ 65536) (W : World) : (Instr.makeSlice 25 (.int .i64 (k : Int)) (.int .i64 (k : Int))).run Try.prog W = .ok (.slice (some ⟨W.heap.size, 0, none⟩) k k) (W.alloc (.cells (ints (List.replicate k 0)).toArray 3)) := by
  rw [← madeCells_ints]
  exact run_make_row' 25 3 (.int .i64 0) 8 Try.underlying25 (by kernel_rfl) rfl .i64 .i64 k (by omega) (by omega) W

def allLt (f : Nat → Bool) : Nat → Bool
  | 0 => true
  | k + 1 => Bool.and (f k) (allLt f k)
theorem allLt_spec (f : Nat → Bool) : ∀ k, allLt f k = true → ∀ i, i < k → f i = true := by
  intro k
  induction k with
  | zero => intro _ i hi; omega
  | succ k ih =>
    intro h i hi
    have h1 := Bool.and_eq_true_iff.1 (show Bool.and _ _ = true from h)
    by_cases e : i = k
    · subst e; exact h1.1
    · exact ih h1.2 i (by omega)

/-- The scale that division makes, for reckoning. -/
def sprK (n m k : Nat) : Nat → Nat
  | 0 => 0
  | i + 1 => Nat.lor (sprK n m k i) (Nat.shiftLeft 1 (Nat.mod (Nat.div (Nat.add (Nat.mul i n) m) k) n))

theorem sprK_eq (n m k : Nat) : sprK n m k k = sprN n k m := by
  have h : ∀ i, sprK n m k i = orL (fun i => (i * n + m) / k % n) (List.range i) := by
    intro i
    induction i with
    | zero => rfl
    | succ i ih =>
      rw [List.range_succ, orL_snoc, ← ih]
      rfl
  exact h k


def exLt (f : Nat → Bool) : Nat → Bool
  | 0 => false
  | k + 1 => Bool.or (f k) (exLt f k)
theorem exLt_spec (f : Nat → Bool) : ∀ k, exLt f k = true ↔ ∃ i, i < k ∧ f i = true := by
  intro k
  induction k with
  | zero => simp [exLt]
  | succ k ih =>
    show (f k || exLt f k) = true ↔ _
    rw [Bool.or_eq_true, ih]
    constructor
    · rintro (h | ⟨i, hi, h⟩)
      · exact ⟨k, by omega, h⟩
      · exact ⟨i, by omega, h⟩
    · rintro ⟨i, hi, h⟩
      by_cases e : i = k
      · subst e; exact Or.inl h
      · exact Or.inr ⟨i, by omega, h⟩


end Go.Proofs.Ytmemnkmmjejlgaa
