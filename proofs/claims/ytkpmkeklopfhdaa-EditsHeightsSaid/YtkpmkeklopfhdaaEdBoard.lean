/-
  The board in memory: thirteen times thirteen places of six cells.
-/
import Derived.Test.YtkpmkeklopfhdaaEdWords
import Derived.Great.BuildSlice
import Derived.Great.Walk
namespace Go.Proofs.Ytkpmkeklopfhdaa
open Go.ChangeShapes Go.WideShapes Go.ChangeAt Go.RowKit
set_option maxRecDepth 100000

def plF (p : Pl) : Nat → Value
  | 0 => .int .i64 p.c
  | 1 => .int .i64 p.w
  | 2 => .int .i64 p.k
  | 3 => .int .i64 p.b
  | 4 => .int .i64 p.i
  | _ => .int .i64 p.j
def boardL (K : Nat → Nat → Pl) : List Value := (List.range 1014).map fun x => plF (K (x / 78) (x % 78 / 6)) (x % 6)
theorem boardL_length (K : Nat → Nat → Pl) : (boardL K).length = 1014 := by unfold boardL; rw [List.length_map, List.length_range]
theorem boardL_get (K : Nat → Nat → Pl) {x : Nat} (h : x < 1014) : (boardL K)[x]? = some (plF (K (x / 78) (x % 78 / 6)) (x % 6)) := by
  unfold boardL; rw [List.getElem?_map, List.getElem?_range h]; rfl
theorem boardL_at (K : Nat → Nat → Pl) {i j f : Nat} (hi : i < 13) (hj : j < 13) (hf : f < 6) : (boardL K)[i * 78 + j * 6 + f]? = some (plF (K i j) f) := by
  rw [boardL_get K (by omega), show (i * 78 + j * 6 + f) / 78 = i by omega, show (i * 78 + j * 6 + f) % 78 / 6 = j by omega, show (i * 78 + j * 6 + f) % 6 = f by omega]
theorem set6 {l : List Value} {o : Nat} (h : o + 5 < l.length) (a0 a1 a2 a3 a4 a5 : Value) (m : Nat) :
    ((((((l.set o a0).set (o + 1) a1).set (o + 2) a2).set (o + 3) a3).set (o + 4) a4).set (o + 5) a5)[m]? =
      if m = o then some a0 else if m = o + 1 then some a1 else if m = o + 2 then some a2 else if m = o + 3 then some a3 else if m = o + 4 then some a4 else if m = o + 5 then some a5 else l[m]? := by
  simp only [List.getElem?_set, List.length_set]
  (repeat' split) <;> first | rfl | omega
theorem boardL_set (K : Nat → Nat → Pl) {i j : Nat} (hi : i < 13) (hj : j < 13) (p : Pl) :
    (((((((boardL K).set (i * 78 + j * 6) (.int .i64 p.c)).set (i * 78 + j * 6 + 1) (.int .i64 p.w)).set (i * 78 + j * 6 + 2) (.int .i64 p.k)).set (i * 78 + j * 6 + 3) (.int .i64 p.b)).set (i * 78 + j * 6 + 4) (.int .i64 p.i)).set (i * 78 + j * 6 + 5) (.int .i64 p.j)) = boardL (updK K i j p) := by
  apply List.ext_getElem?
  intro m
  rw [set6 (by rw [boardL_length]; omega)]
  by_cases hm : m < 1014
  · rw [boardL_get _ hm, boardL_get _ hm]
    have hu : updK K i j p (m / 78) (m % 78 / 6) = if m / 78 = i ∧ m % 78 / 6 = j then p else K (m / 78) (m % 78 / 6) := rfl
    rw [hu]
    by_cases h0 : m / 78 = i ∧ m % 78 / 6 = j
    · rw [if_pos h0]
      have : m % 6 < 6 := Nat.mod_lt _ (by omega)
      rcases (show m % 6 = 0 ∨ m % 6 = 1 ∨ m % 6 = 2 ∨ m % 6 = 3 ∨ m % 6 = 4 ∨ m % 6 = 5 by omega) with h | h | h | h | h | h <;> rw [h]
      · rw [if_pos (by omega)]; rfl
      · rw [if_neg (by omega), if_pos (by omega)]; rfl
      · rw [if_neg (by omega), if_neg (by omega), if_pos (by omega)]; rfl
      · rw [if_neg (by omega), if_neg (by omega), if_neg (by omega), if_pos (by omega)]; rfl
      · rw [if_neg (by omega), if_neg (by omega), if_neg (by omega), if_neg (by omega), if_pos (by omega)]; rfl
      · rw [if_neg (by omega), if_neg (by omega), if_neg (by omega), if_neg (by omega), if_neg (by omega), if_pos (by omega)]; rfl
    · rw [if_neg h0, if_neg (by omega), if_neg (by omega), if_neg (by omega), if_neg (by omega), if_neg (by omega), if_neg (by omega)]
  · rw [if_neg (by omega), if_neg (by omega), if_neg (by omega), if_neg (by omega), if_neg (by omega), if_neg (by omega), List.getElem?_eq_none (by rw [boardL_length]; omega), List.getElem?_eq_none (by rw [boardL_length]; omega)]

theorem board_start : (boardL zeroK).set 1 (.int .i64 1) = boardL startK := by kernel_rfl

theorem run_alloc_board (W : World) : (Instr.alloc 96 true (.tuple #[])).run Try.prog W = .ok (.pointer (some ⟨W.heap.size, 0, none⟩)) (W.alloc (.cells (boardL zeroK).toArray 96)) := by
  simp only [Instr.alloc, Sem.run_bind, Try.zeroValue96, Result.andThen_ok]
  rfl
theorem info_board : (Try.prog.info? 96).map (·.size) = some 1014 := by kernel_rfl
theorem info_boardL (K : Nat → Nat → Pl) : (Try.prog.info? 96).map (·.size) = some (boardL K).toArray.size := by rw [List.size_toArray, boardL_length]; exact info_board
theorem boardL_one (K : Nat → Nat → Pl) : (boardL K).toArray.all (·.oneCell') = true := by
  rw [List.all_toArray, List.all_eq_true]
  intro v hv
  unfold boardL at hv
  obtain ⟨x, _, rfl⟩ := List.mem_map.1 hv
  have : ∀ (p : Pl) (n : Nat), (plF p n).oneCell' = true := fun p n => by
    rcases n with _ | _ | _ | _ | _ | n <;> rfl
  exact this _ _

/-- A place of the board, taken out of the value. -/
theorem ix_board (K : Nat → Nat → Pl) {i : Nat} (hi : i < 13) (W : World) : (Instr.index 96 (.agg (boardL K).toArray) (.int .i64 (i : Int))).run Try.prog W = .ok (.agg (List.take 78 (List.drop (i * 78) (boardL K))).toArray) W := by
  simp [Instr.index, run_underlying Try.underlying96, asIntOf, go_sem, part]
  intro h; omega
theorem row_cells (K : Nat → Nat → Pl) {i j : Nat} (hi : i < 13) (hj : j < 13) : List.take 6 (List.drop (j * 6) (List.take 78 (List.drop (i * 78) (boardL K)))) = (plC (K i j)).toList := by
  apply List.ext_getElem?
  intro m
  rw [List.getElem?_take, List.getElem?_drop, List.getElem?_take, List.getElem?_drop]
  by_cases hm : m < 6
  · rw [if_pos hm, if_pos (by omega), show i * 78 + (j * 6 + m) = i * 78 + j * 6 + m by omega, boardL_at K hi hj hm]
    rcases (show m = 0 ∨ m = 1 ∨ m = 2 ∨ m = 3 ∨ m = 4 ∨ m = 5 by omega) with h | h | h | h | h | h <;> subst h <;> rfl
  · rw [if_neg hm, List.getElem?_eq_none]
    show 6 ≤ m
    omega
theorem ix_row (K : Nat → Nat → Pl) {i j : Nat} (hi : i < 13) (hj : j < 13) (W : World) : (Instr.index 94 (.agg (List.take 78 (List.drop (i * 78) (boardL K))).toArray) (.int .i64 (j : Int))).run Try.prog W = .ok (.agg (plC (K i j))) W := by
  have h := row_cells K hi hj
  have hb : (List.take 78 (List.drop (i * 78) (boardL K))).length = 78 := by rw [List.length_take, List.length_drop, boardL_length]; omega
  generalize List.take 78 (List.drop (i * 78) (boardL K)) = R at h hb ⊢
  have e : plC (K i j) = (List.take 6 (List.drop (j * 6) R)).toArray := by rw [h]
  rw [e]
  simp [Instr.index, run_underlying Try.underlying94, asIntOf, go_sem, part]
  intro h; omega
theorem fd_cost (p : Pl) (W : World) : (Instr.field 93 (.agg (plC p)) 0).run Try.prog W = .ok (.int .i64 p.c) W := by
  simp [Instr.field, run_underlying Try.underlying93, go_sem, part, asAgg]
theorem fd_ways (p : Pl) (W : World) : (Instr.field 93 (.agg (plC p)) 1).run Try.prog W = .ok (.int .i64 p.w) W := by
  simp [Instr.field, run_underlying Try.underlying93, go_sem, part, asAgg]
end Go.Proofs.Ytkpmkeklopfhdaa
