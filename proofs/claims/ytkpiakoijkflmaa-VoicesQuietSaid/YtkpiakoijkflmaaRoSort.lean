/-
  slices.Clone and slices.Sort at a row of its own.
-/
import Derived.Test.YtkpiakoijkflmaaRoSteps
import Derived.Lib.SlKeysI
namespace Go.Proofs.Ytkpiakoijkflmaa
open Go.RowKit Go.Shelf Go.Lib Go.Sort
set_option maxRecDepth 100000

def sortI (xs : List Int) : List Int := xs.mergeSort fun x y => decide (x ≤ y)
theorem sortI_length (xs : List Int) : (sortI xs).length = xs.length := by simp [sortI]

theorem sort_eq {a b : List Int} : sortI a = sortI b ↔ a.Perm b := by
  have tr : ∀ a b c : Int, decide (a ≤ b) = true → decide (b ≤ c) = true → decide (a ≤ c) = true := fun a b c h1 h2 => by simp only [decide_eq_true_eq] at *; exact Int.le_trans h1 h2
  have tot : ∀ a b : Int, (decide (a ≤ b) || decide (b ≤ a)) = true := fun a b => by simp only [Bool.or_eq_true, decide_eq_true_eq]; exact Int.le_total a b
  constructor
  · intro h
    have h2 := List.mergeSort_perm b (fun x y => decide (x ≤ y))
    rw [show b.mergeSort (fun x y => decide (x ≤ y)) = a.mergeSort (fun x y => decide (x ≤ y)) from h.symm] at h2
    exact (List.mergeSort_perm a _).symm.trans h2
  · intro h
    refine List.Perm.eq_of_pairwise (le := fun x y : Int => x ≤ y) (fun x y _ _ h1 h2 => Int.le_antisymm h1 h2) ?_ ?_ (((List.mergeSort_perm a _).trans h).trans (List.mergeSort_perm b _).symm)
    · exact (List.pairwise_mergeSort tr tot a).imp (fun h => of_decide_eq_true h)
    · exact (List.pairwise_mergeSort tr tot b).imp (fun h => of_decide_eq_true h)

theorem Clone_own (xs : List Int) (v : Value) (w : World) (h0 : 0 < xs.length) (hl : xs.length ≤ 1000) (h : IntsV w v xs) :
    Calls Try.prog 42 #[v] w fun e w' => ∃ v', e = .returned v' ∧ w'.ownsRow w.heap.size 3 1 v' xs.length (ivals xs) ∧ Below w.heap.size w w' := by
  obtain ⟨ao, cap, rfl, _, hc⟩ := h
  obtain ⟨b, off, rfl, hd⟩ := hc h0
  refine (Try.slices_Clone_int b off xs.length cap xs w (Nat.le_refl _) (by omega) (fun j hj => by rw [hd j hj, List.getD_eq_getElem?_getD])).mono ?_
  rintro e w' ⟨v', rfl, ho, _, hb⟩
  rw [List.take_length] at ho
  exact ⟨v', rfl, ho, hb⟩

theorem Sort_own (base : Nat) (xs : List Int) (v : Value) (w : World) (h1 : 0 < xs.length) (h2 : xs.length ≤ 1000) (h : w.ownsRow base 3 1 v xs.length (ivals xs)) :
    Calls Try.prog 115 #[v] w fun e w' => e = .returned (.tuple #[]) ∧ IntsV w' v (sortI xs) ∧ w.grownBy w' v.ownBlock := by
  obtain ⟨_, ⟨_, h0⟩ | ⟨g, cap, cur, rfl, hg, hh, h3, h4, h5, h6⟩⟩ := h
  · omega
  · have hH : Holds (Value.int .i64) w g 0 xs.toArray := holds_of_block_i hh (by rw [Nat.mul_one] at h6; exact h6)
    have hgl : g < w.heap.size := (Array.getElem?_eq_some_iff.1 hh).1
    refine (Try.slices_Sort_int g 0 cap xs w hH hgl (by omega)).mono ?_
    rintro e w2 ⟨rfl, m, os, rfl⟩
    have hgr := grownBy_sorted_i (w := w) (g := g) (n := m) (os := os) (sortI xs).toArray
    have hp := holds_putRow (Value.int .i64) (Sort.ahead w m) g 0 xs.toArray (sortI xs).toArray (fun j hj => hH j hj) (by simp [sortI_length])
    have hgl2 : g < (putRow (Value.int .i64) (Sort.ahead w m) g 0 (sortI xs).toArray).heap.size := by simpa [putRow, mapBlock, Sort.ahead] using hgl
    refine ⟨rfl, ⟨some ⟨g, 0, none⟩, cap, by rw [sortI_length], by rw [sortI_length]; exact h3, fun _ => ⟨g, 0, rfl, fun i hi => ?_⟩⟩, hgr⟩
    have hc := (hp i (by simpa using hi)).1
    refine (World.cell?_of_block (w := putRow (Value.int .i64) (Sort.ahead w m) g 0 (sortI xs).toArray) (Sort.heap_grow_old _ _ hgl2)).trans (hc.trans ?_)
    simp [hi]
end Go.Proofs.Ytkpiakoijkflmaa
