/-
  movesBetween and Still: their contracts; the walk of the statement on Still.
-/
import Derived.Test.YtlmfmfbnbbooaabDoorChLeafA
import Derived.Test.YtlmfmfbnbbooaabDoorChMovesLaw
import Derived.Test.YtlmfmfbnbbooaabDoorMem
import Derived.OwnWalk
import Derived.Maps.AppendAt
import Derived.Lib.OwnBridge
namespace Go.Proofs.YtlmfmfbnbbooaabDoor.Ch
open Go.RowKit Go.Shelf
attribute [local go_sem] Oper.semAt_some
set_option maxRecDepth 100000

/-- A slice of integers that can be read; nil just where there are none. -/
def IntsAt (W : World) (lo : Nat) (v : Value) (xs : List Nat) : Prop :=
  (v = .slice none 0 0 ∧ xs = []) ∨ ∃ g cap, v = .slice (some ⟨g, 0, none⟩) xs.length cap ∧ lo ≤ g ∧ ∀ i, i < xs.length → W.cell? ⟨g, i, none⟩ = some (.int .i64 ((xs[i]?.getD 0 : Nat) : Int))

theorem IntsAt.later {W W' : World} {lo : Nat} {v : Value} {xs : List Nat} (h : IntsAt W lo v xs) (hb : Below W.heap.size W W') : IntsAt W' lo v xs := by
  rcases h with h | ⟨g, cap, h1, h2, h3⟩
  · exact Or.inl h
  · exact Or.inr ⟨g, cap, h1, h2, fun i hi => cell_later hb (h3 i hi)⟩

theorem IntsAt.of_own {W : World} {lo : Nat} {v : Value} {xs : List Nat} (h : W.ownsRow lo 3 1 v xs.length (ints xs)) : IntsAt W lo v xs := by
  have h' := h
  obtain ⟨h0, h1 | ⟨g, cap, cur, hv, hg, hh, h2⟩⟩ := h
  · exact Or.inl ⟨h1.1, List.eq_nil_of_length_eq_zero h1.2⟩
  · refine Or.inr ⟨g, cap, hv, hg, fun i hi => ?_⟩
    subst hv
    have := h'.cellAt i (by omega)
    rw [this, ints_at hi]

/-- The moves that make b of a. -/
def waysTo (n a b k : Nat) : List Nat := (List.range k).filter (fun j => mvN n a j == b)

theorem waysTo_succ (n a b k : Nat) : waysTo n a b (k + 1) = waysTo n a b k ++ if mvN n a k = b then [k] else [] := by
  unfold waysTo
  rw [List.range_succ, List.filter_append]
  congr 1
  by_cases h : mvN n a k = b <;> simp [h]

theorem waysTo_length (n a b k : Nat) : (waysTo n a b k).length ≤ k := by
  unfold waysTo
  exact Nat.le_trans (List.length_filter_le _ _) (by simp)

theorem move_nat (n c k : Nat) (hn : 2 ≤ n) (hn2 : n ≤ 16) (hc : c < 2 ^ n) (hk : k < n) (w : World) :
    Calls Tryd.prog 42 #[.int .i64 n, .int .i64 c, .int .i64 k] w fun e w' => e = .returned (.int .i64 (mvN n c k : Nat)) ∧ ∃ m, w' = w.drewN m := by
  have := move_any n c k hn hn2 hc w
  have e : ((k : Int) % n).toNat = k := by rw [Int.emod_eq_of_lt (by omega) (by omega)]; rfl
  rwa [e] at this

theorem info_int : (Tryd.prog.info? 3).map (fun i => (i.zero, i.size, i.bytes)) = some (some (.int .i64 0), 1, 8) := by kernel_rfl

theorem mulN_lt16 {n c : Nat} {m : Int} (h1 : 2 ≤ n) : mulN n c m < 2 ^ n := orL_lt _ _ _ (fun t _ => by
  have a1 : 0 ≤ ((t : Int) * m) % n := Int.emod_nonneg _ (by omega)
  have a2 : ((t : Int) * m) % n < n := Int.emod_lt_of_pos _ (by omega)
  omega)

end Go.Proofs.YtlmfmfbnbbooaabDoor.Ch
