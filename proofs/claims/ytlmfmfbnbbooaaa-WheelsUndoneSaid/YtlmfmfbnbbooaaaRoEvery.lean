/-
  The reference's steps; whether every step comes; awake.
-/
import Derived.Test.YtlmfmfbnbbooaaaRoSteps
import Derived.Deep.RegionHeld3
import Derived.Deep.AppendLies
namespace Go.Proofs.Ytlmfmfbnbbooaaa
open Go.ChangeShapes Go.WideShapes Go.ChangeAt Go.RowKit
set_option maxRecDepth 100000

theorem stS_below {w W : World} {H : Nat} {p q : Addr} {a b : Value} (hH : w.heap.size = H) (h1 : w.cell? p = some a) (h2 : w.cell? q = some b) (h : Below H w W) :
    W.cell? p = some a ∧ W.cell? q = some b ∧ Below H w W := by
  subst hH
  exact ⟨cell_later h h1, cell_later h h2, h⟩

theorem part_every {n : Nat} {ys : List Nat} (h : 0 < n) : partB n (natI (stepsL n ys)) = everyB n ys := by
  unfold partB everyB
  rw [Bool.eq_iff_iff, decide_eq_true_eq, decide_eq_true_eq, natI_nodup]
  refine ⟨fun h => h.2, fun hd => ⟨fun x hx => ?_, hd⟩⟩
  obtain ⟨y, hy, rfl⟩ := List.mem_map.1 hx
  have := stepsL_lt h ys y hy
  omega

theorem dup_every {n : Nat} {ys : List Nat} {k : Nat} (hk : k < (stepsL n ys).length) (h : (stepsL n ys)[k]?.getD 0 ∈ (stepsL n ys).take k) : everyB n ys = false := by
  unfold everyB
  refine decide_eq_false (fun hd => ?_)
  generalize stepsL n ys = l at *
  rw [← List.take_append_drop k l, List.nodup_append] at hd
  rw [List.getElem?_eq_getElem hk] at h
  have hm : l[k] ∈ l.drop k := by rw [List.drop_eq_getElem_cons hk]; exact List.mem_cons_self
  exact hd.2.2 _ h _ hm rfl

theorem row_0132 : IsRow 4 [0, 1, 3, 2] := ⟨rfl, by decide, by decide, by decide, by decide⟩
theorem steps_0132 : natI (stepsL 4 [0, 1, 3, 2]) = [1, 2, 3] := by decide

end Go.Proofs.Ytlmfmfbnbbooaaa
