/-
  Wheels moved; what undoes a number; wheels multiplied place by place; the wheel with a spectrum.
-/
import Derived.Test.YthnenhfdojpobaaDoorWhOps
namespace Go.Proofs.YthnenhfdojpobaaDoor
open Go.ChangeShapes Go.WideShapes Go.ChangeAt Go.RowKit
set_option maxRecDepth 100000

/-! ### moved -/
def mvpF (n t k : Nat) (f : Nat → Nat) (x : Nat) : Nat := if x < n ∧ (x + (n - t)) % n < k then f ((x + (n - t)) % n) else 0
theorem mv_to {n t k : Nat} (ht : t < n) (hk : k < n) : ((k + t) % n + (n - t)) % n = k := by
  rw [Nat.mod_add_mod, show k + t + (n - t) = k + n from by omega, Nat.add_mod_right, Nat.mod_eq_of_lt hk]
theorem mv_from {n t x : Nat} (ht : t < n) (hx : x < n) : ((x + (n - t)) % n + t) % n = x := by
  rw [Nat.mod_add_mod, show x + (n - t) + t = x + n from by omega, Nat.add_mod_right, Nat.mod_eq_of_lt hx]
theorem mvpF_zero (n t : Nat) (f : Nat → Nat) : mvpF n t 0 f = zeroF := by funext x; simp [mvpF, zeroF]
theorem mvpF_succ {n t k : Nat} (ht : t < n) (hk : k < n) (f : Nat → Nat) : (fun x => if x = (k + t) % n then f k else mvpF n t k f x) = mvpF n t (k + 1) f := by
  funext x
  unfold mvpF
  by_cases e : x = (k + t) % n
  · subst e
    have h1 := Nat.mod_lt (k + t) (show 0 < n by omega)
    rw [if_pos rfl, mv_to ht hk, if_pos ⟨h1, by omega⟩]
  · rw [if_neg e]
    by_cases hx : x < n
    · have h2 : (x + (n - t)) % n ≠ k := fun h2 => e (by rw [← h2, mv_from ht hx])
      by_cases h3 : (x + (n - t)) % n < k
      · rw [if_pos ⟨hx, h3⟩, if_pos ⟨hx, by omega⟩]
      · rw [if_neg (fun h => h3 h.2), if_neg (fun h => by have := h.2; omega)]
    · rw [if_neg (fun h => hx h.1), if_neg (fun h => hx h.1)]
theorem mvpF_all (n t : Nat) (f : Nat → Nat) : mvpF n t n f = mvF n t f := by
  funext x
  unfold mvpF mvF
  by_cases hx : x < n
  · rw [if_pos ⟨hx, Nat.mod_lt _ (by omega)⟩, if_pos hx]
  · rw [if_neg (fun h => hx h.1), if_neg hx]

/-- The array of a wheel, as a value. -/
def arC (f : Nat → Nat) : Array Value := (ints (tabN 16 f)).toArray
theorem arC_at {x : Nat} (h : x < 16) (f : Nat → Nat) : (arC f)[x]? = some (.int .i64 ((f x : Nat) : Int)) := by
  unfold arC
  rw [List.getElem?_toArray, ints_at (by rw [tabN_length]; exact h), tabN_at h]
theorem run_index_16 (cs : Array Value) (i : Nat) (hi : i < 16) (a : Int) (h : cs[i]? = some (.int .i64 a)) (w : World) : (Instr.index 41 (.agg cs) (.int .i64 i)).run Tryd.prog w = .ok (.int .i64 a) w := by
  simp [Instr.index, run_underlying Tryd.underlying41, asIntOf, go_sem, part, h]
  intro h; omega
theorem run_load_arr {W : World} {b n : Nat} {f : Nat → Nat} (h : Row W b 43 (whC n f)) :
    (Instr.loadAt 41 (.pointer (some ⟨b, 3, none⟩))).run Tryd.prog W = .ok (.agg (arC f)) W := by
  have hl : (loadCells ⟨b, 3, none⟩ (ints (tabN 16 f)).length).run Tryd.prog W = .ok (ints (tabN 16 f)).toArray W :=
    run_loadCells_list (P := Tryd.prog) W ⟨b, 3, none⟩ (ints (tabN 16 f)) (fun j v hv => by
      have hadd : (⟨b, 3, none⟩ : Addr).add j = ⟨b, 3 + j, none⟩ := by unfold Addr.add; split <;> simp_all
      have hj : j < 16 := by
        apply Nat.lt_of_not_le; intro hle
        rw [List.getElem?_eq_none (by rw [ints_length, tabN_length]; exact hle)] at hv; cases hv
      rw [ints_at (by rw [tabN_length]; exact hj), tabN_at hj] at hv
      rw [hadd, h.cell, whC_at hj, hv])
  have hl' : (loadCells ⟨b, 3, none⟩ 16).run Tryd.prog W = .ok (arC f) W := by
    have e : (ints (tabN 16 f)).length = 16 := by rw [ints_length, tabN_length]
    rw [e] at hl
    exact hl
  simp only [Instr.loadAt, Instr.sureAddr, Sem.run_bind, Sem.run_pure, Result.andThen_ok, loadVar, Tryd.isAgg41, Tryd.sizeOf41, if_true, hl']
/-- A wheel's array is read. -/
theorem wpList_inarr {ops : Array Oper} {o1 o2 : Oper} {rest : List Oper} {a : Act} {w : World} {Q : Exit → Act → World → Prop} (n : Nat) (f : Nat → Nat) (x d1 d2 : Tmp)
    (h1 : o1.op = .fieldAddr 43 (.tmp x) 1) (g1 : o1.guard = none) (e1 : o1.dst = some d1)
    (h2 : o2.op = .load 41 (.tmp d1)) (g2 : o2.guard = none) (e2 : o2.dst = some d2)
    (g : Nat) (hx : a.eval (.tmp x) = .pointer (some ⟨g, 0, none⟩)) (hd : ∀ v, (a.put (some d1) v).eval (.tmp d1) = v)
    (hg : Row w g 43 (whC n f))
    (h : wpList Tryd.prog ops Q rest ((a.put (some d1) (.pointer (some ⟨g, 3, none⟩))).put (some d2) (.agg (arC f))) w) :
    wpList Tryd.prog ops Q (o1 :: o2 :: rest) a w := by
  refine Great.wpList_runTo g1 _ e1 (.pointer (some ⟨g, 3, none⟩)) w ?_ ?_
  · simp only [execOp, h1, hx]
    simp [Instr.fieldAt, Instr.sureAddr, Sem.run_bind, run_underlying Tryd.underlying43, go_sem, fieldPlace]
  refine Great.wpList_runTo g2 _ e2 (.agg (arC f)) w ?_ h
  simp only [execOp, h2, hd, Sem.run_bind, run_load_arr hg, Result.andThen_ok]
  rfl

/-- One wheel that is written, and the result's place. -/
def Own1 (w0 : World) (b n : Nat) (f : Nat → Nat) (z : Nat) (W : World) : Prop := WAt w0 b n f W ∧ W.heap[z]? = some (.cells zeroC 43 (0, 0))
theorem Own1.later {w0 : World} {b n : Nat} {f : Nat → Nat} {z : Nat} {W W' : World} (h : Own1 w0 b n f z W) (k : Below W.heap.size W W') : Own1 w0 b n f z W' := ⟨h.1.later k, heap_later h.2 k⟩
theorem Own1.set {w0 : World} {b n : Nat} {f : Nat → Nat} {z : Nat} {W : World} (h : Own1 w0 b n f z W) (h1 : w0.heap.size ≤ b) (h3 : z ≠ b) {x : Nat} (hx : x < 16) (v : Nat) :
    Own1 w0 b n (fun k => if k = x then v else f k) z (W.setCell ⟨b, 3 + x, none⟩ (.int .i64 (v : Int))) :=
  ⟨h.1.set h1 hx v, (heap_setCell_other W ⟨b, 3 + x, none⟩ z _ h3).trans h.2⟩
/-- The first places have their new numbers. -/
def mixW (k : Nat) (f g : Nat → Nat) (x : Nat) : Nat := if x < k then f x else g x
theorem mixW_zero (f g : Nat → Nat) : mixW 0 f g = g := by funext x; simp [mixW]
theorem mixW_at (k : Nat) (f g : Nat → Nat) : mixW k f g k = g k := by simp [mixW]
theorem mixW_succ (k : Nat) (f g : Nat → Nat) : (fun x => if x = k then f k else mixW k f g x) = mixW (k + 1) f g := by
  funext x; unfold mixW
  by_cases e : x = k
  · subst e; simp
  · by_cases h : x < k
    · rw [if_neg e, if_pos h, if_pos (by omega)]
    · rw [if_neg e, if_neg h, if_neg (by omega)]
theorem mixW_all {k : Nat} {f g : Nat → Nat} (h : ∀ x, k ≤ x → f x = g x) : mixW k f g = f := by
  funext x; unfold mixW; split
  · rfl
  · exact (h x (by omega)).symm

end Go.Proofs.YthnenhfdojpobaaDoor
