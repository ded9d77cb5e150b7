/-
  A whole row of cells in memory, as one fact.
-/
import Derived.Test.YthnenhfdojpobaaDoorKeep
import Derived.RangeFuncBox
import Derived.RangeFuncNested
import Derived.Deep.OwnRows
namespace Go.Proofs.YthnenhfdojpobaaDoor
open Go.RowKit

/-- Block b holds just these cells; none of them is frozen. -/
def Row (W : World) (b : Nat) (t : TypeId) (vs : List Value) : Prop := W.heap[b]? = some (.cells vs.toArray t (0, 0))

theorem Row.lt {W : World} {b : Nat} {t : TypeId} {vs : List Value} (h : Row W b t vs) : b < W.heap.size := (Array.getElem?_eq_some_iff.1 h).1
theorem Row.cell {W : World} {b : Nat} {t : TypeId} {vs : List Value} (h : Row W b t vs) (i : Nat) : W.cell? ⟨b, i, none⟩ = vs[i]? := by
  unfold Row at h
  simp [World.cell?, h]
theorem Row.frozen {W : World} {b : Nat} {t : TypeId} {vs : List Value} (h : Row W b t vs) (i : Nat) : W.frozen? ⟨b, i, none⟩ = false := by
  unfold Row at h
  simp [World.frozen?, h]
theorem Row.set {W : World} {b : Nat} {t : TypeId} {vs : List Value} (h : Row W b t vs) (i : Nat) (v : Value) : Row (W.setCell ⟨b, i, none⟩ v) b t (vs.set i v) := by
  unfold Row at h ⊢
  simp only [World.setCell, Array.getElem?_modify, h, if_true, Option.map_some, Option.isSome_none, Bool.false_eq_true, if_false, List.setIfInBounds_toArray]
theorem Row.other {W : World} {b b' i : Nat} {t : TypeId} {vs : List Value} (h : Row W b t vs) (hne : b ≠ b') (v : Value) : Row (W.setCell ⟨b', i, none⟩ v) b t vs :=
  (Below.heap_setCell W ⟨b', i, none⟩ v b hne).trans h
theorem Row.alloc {W : World} {b : Nat} {t : TypeId} {vs : List Value} (h : Row W b t vs) (o : Obj) : Row (W.alloc o) b t vs := (Below.heap_alloc W o b h.lt).trans h
theorem Row.drew {W : World} {b : Nat} {t : TypeId} {vs : List Value} (h : Row W b t vs) : Row W.drew b t vs := h
theorem Row.drewN {W : World} {b : Nat} {t : TypeId} {vs : List Value} (h : Row W b t vs) (n : Nat) : Row (W.drewN n) b t vs := h
theorem Row.below {W W' : World} {B b : Nat} {t : TypeId} {vs : List Value} (h : Row W b t vs) (hb : Below B W W') (hB : b < B) : Row W' b t vs := (hb.block b hB).trans h
theorem Row.later {W W' : World} {b : Nat} {t : TypeId} {vs : List Value} (h : Row W b t vs) (hb : Below W.heap.size W W') : Row W' b t vs := (hb.block b h.lt).trans h
theorem Row.kept {W W' : World} {row : Option Nat} {b : Nat} {t : TypeId} {vs : List Value} (h : Row W b t vs) (hg : W.grownBy W' row) (hrow : ∀ r, row = some r → ∃ o : Obj, W.heap[r]? = some o ∧ o.isCells = false) : Row W' b t vs := by
  refine (hg.block b h.lt (fun e => ?_)).trans h
  obtain ⟨o, ho, hc⟩ := hrow b e.symm
  unfold Row at h
  rw [h] at ho
  cases ho
  cases hc
theorem Row.grown {W W' : World} {row : Option Nat} {b : Nat} {t : TypeId} {vs : List Value} (h : Row W b t vs) (hg : W.grownBy W' row) (hne : some b ≠ row) : Row W' b t vs := (hg.block b h.lt hne).trans h
theorem Row.new (W : World) (t : TypeId) (vs : List Value) : Row (W.alloc (.cells vs.toArray t)) W.heap.size t vs := World.alloc_heap_new W _
theorem row_own {β : Type} (B : Nat) (t : TypeId) (f : β → List Value) : Own (fun s W => Row W B t (f s)) := fun _ _ _ _ hs hg hr => hs.kept hg hr
theorem Row.box {W : World} {b : Nat} {t : TypeId} {v : Value} (h : Row W b t [v]) : Boxed W b t v := h
theorem Row.ofBox {W : World} {b : Nat} {t : TypeId} {v : Value} (h : Boxed W b t v) : Row W b t [v] := h

theorem _root_.Go.Boxed.other2 {W : World} {B B' : Nat} {t : TypeId} {v : Value} (h : Boxed W B t v) (hne : B ≠ B') (i : Nat) (u : Value) : Boxed (W.setCell ⟨B', i, none⟩ u) B t v :=
  (Below.heap_setCell W ⟨B', i, none⟩ u B hne).trans h

/-- Integers as cells. -/
def ints (xs : List Nat) : List Value := xs.map fun (x : Nat) => Value.int .i64 (x : Int)
theorem ints_length (xs : List Nat) : (ints xs).length = xs.length := by simp [ints]
theorem ints_at {xs : List Nat} {i : Nat} (h : i < xs.length) : (ints xs)[i]? = some (.int .i64 ((xs[i]?.getD 0 : Nat) : Int)) := by
  simp [ints, h]
theorem ints_set (xs : List Nat) (i v : Nat) : (ints xs).set i (.int .i64 (v : Int)) = ints (xs.set i v) := by
  simp [ints, List.map_set]

theorem madeCells_ints (k : Nat) : madeCells #[Value.int .i64 0] k = (ints (List.replicate k 0)).toArray := by
  apply Array.ext
  · rw [size_madeCells]; simp [ints]
  · intro i h1 h2
    simp [madeCells, ints, Nat.mod_one]
end Go.Proofs.YthnenhfdojpobaaDoor
