/-
  The statement on With.
-/
import Derived.Test.YtaldfaecpcnomaaDoorRoWith2
import Derived.Test.YtaldfaecpcnomaaDoorRoPair
namespace Go.Proofs.YtaldfaecpcnomaaDoor
open Go.ChangeShapes Go.WideShapes Go.ChangeAt Go.RowKit
set_option maxRecDepth 100000

theorem pairs_at : ∀ (L : List (Nat × Nat)) (i : Nat), i < L.length → (pairsV L)[i * 2]? = some (.int .i64 (((L[i]?.getD (0, 0)).1 : Nat) : Int)) ∧ (pairsV L)[i * 2 + 1]? = some (.int .i64 (((L[i]?.getD (0, 0)).2 : Nat) : Int))
  | [], i, h => (Nat.not_lt_zero _ h).elim
  | p :: L, 0, _ => ⟨rfl, rfl⟩
  | p :: L, i + 1, h => by
    have h1 := pairs_at L i (by simpa using h)
    rw [show pairsV (p :: L) = .int .i64 (p.1 : Int) :: .int .i64 (p.2 : Int) :: pairsV L from rfl, show (i + 1) * 2 = i * 2 + 1 + 1 by omega, List.getElem?_cons_succ, List.getElem?_cons_succ, List.getElem?_cons_succ, List.getElem?_cons_succ, List.getElem?_cons_succ]
    exact h1

/-- A slice of pairs. -/
def PairsAt (W : World) (v : Value) (L : List (Nat × Nat)) : Prop :=
  ∃ (ao : Option Addr) (cap : Nat), v = .slice ao L.length cap ∧ (0 < L.length → ∃ g, ao = some ⟨g, 0, none⟩ ∧ ∀ i, i < L.length → W.cell? ⟨g, i * 2, none⟩ = some (.int .i64 (((L[i]?.getD (0, 0)).1 : Nat) : Int)) ∧ W.cell? ⟨g, i * 2 + 1, none⟩ = some (.int .i64 (((L[i]?.getD (0, 0)).2 : Nat) : Int)))

theorem PairsAt.of_own {W : World} {base : Nat} {e : TypeId} {v : Value} {L : List (Nat × Nat)} (h : W.ownsRow base e 2 v L.length (pairsV L)) : PairsAt W v L := by
  obtain ⟨_, ⟨rfl, h0⟩ | ⟨g, cap, cur, rfl, _, hg, _, _, _, ht⟩⟩ := h
  · exact ⟨none, 0, by rw [h0], fun h => by omega⟩
  · refine ⟨_, cap, rfl, fun _ => ⟨g, rfl, fun i hi => ?_⟩⟩
    have hc : ∀ j, j < L.length * 2 → W.cell? ⟨g, j, none⟩ = (pairsV L)[j]? := fun j hj => by
      rw [← ht, List.getElem?_take_of_lt hj]
      simp [World.cell?, hg]
    obtain ⟨h1, h2⟩ := pairs_at L i hi
    exact ⟨(hc _ (by omega)).trans h1, (hc _ (by omega)).trans h2⟩
theorem PairsAt.later {W W' : World} {v : Value} {L : List (Nat × Nat)} (h : PairsAt W v L) (hb : Below W.heap.size W W') : PairsAt W' v L := by
  obtain ⟨ao, cap, rfl, hc⟩ := h
  refine ⟨ao, cap, rfl, fun h0 => ?_⟩
  obtain ⟨g, e, hd⟩ := hc h0
  exact ⟨g, e, fun i hi => ⟨cell_later hb (hd i hi).1, cell_later hb (hd i hi).2⟩⟩

end Go.Proofs.YtaldfaecpcnomaaDoor
