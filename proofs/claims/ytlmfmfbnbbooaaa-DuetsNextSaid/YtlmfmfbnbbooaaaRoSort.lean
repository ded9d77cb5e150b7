/-
  slices.Clone and slices.Sort at a row of its own.
-/
import Derived.Test.YtlmfmfbnbbooaaaRoSteps
import Derived.Lib.SlKeysI
namespace Go.Proofs.Ytlmfmfbnbbooaaa
open Go.RowKit Go.Shelf Go.Lib Go.Sort
set_option maxRecDepth 100000

def sortI (xs : List Int) : List Int := xs.mergeSort fun x y => decide (x ≤ y)
theorem sortI_length (xs : List Int) : (sortI xs).length = xs.length := by simp [sortI]

theorem sort_eq {a b : List Int} : sortI a = sortI b ↔ a.Perm b := by
  have tr : ∀ a b c : Int, decide (a ≤ b) = true → decide (b ≤ c) = true → decide (a ≤ c) = true := fun a b c h1 h2 => by simp only [decide_eq_true_eq] at *; exact Int.le_trans h1 h2
  have tot : ∀ a b : Int, (decide (a ≤ b) || decide (b ≤ a)) = true := fun a b => by simp only [Bool.or_eq_true, decide_eq_true_eq]; exact Int.le_total a b
  constructor
  · intro h
    have h2 := List.mergeSort_perm b (fun x y => decide (x ≤ y))
    rw [show b.mergeSort (fun x y => decide (x ≤ y)) = a.mergeSort (fun x y => decide (x ≤ y)) from h.symm] at h2
    exact (List.mergeSort_perm a _).symm.trans h2
  · intro h
    refine List.Perm.eq_of_pairwise (le := fun x y : Int => x ≤ y) (fun x y _ _ h1 h2 => Int.le_antisymm h1 h2) ?_ ?_ (((List.mergeSort_perm a _).trans h).trans (List.mergeSort_perm b _).symm)
    · exact (List.pairwise_mergeSort tr tot a).imp (fun h => of_decide_eq_true h)
    · exact (List.pairwise_mergeSort tr tot b).imp (fun h => of_decide_eq_true h)

theorem Clone_own (xs : List Int) (v : Value) (w : World) (h0 : 0 < xs.length) (hl : xs.length ≤ 1000) (h : IntsV w v xs) :
    Calls Try.prog 32 #[v] w fun e w' => ∃ v', e = .returned v' ∧ w'.ownsRow w.heap.size 3 1 v' xs.length (ivals xs) ∧ Below w.heap.size w w' := by
  obtain ⟨ao, cap, rfl, _, hc⟩ := h
  obtain ⟨b, off, rfl, hd⟩ := hc h0
  refine (Try.slices_Clone_int b off xs.length cap xs w (Nat.le_refl _) (by omega) (fun j hj => by rw [hd j hj, List.getD_eq_getElem?_getD])).mono ?_
  rintro e w' ⟨v', rfl, ho, _, hb⟩
  rw [List.take_length] at ho
  exact ⟨v', rfl, ho, hb⟩

end Go.Proofs.Ytlmfmfbnbbooaaa
