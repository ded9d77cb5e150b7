/-
  What a round keeps: the blocks of a set lie as they lay. (An iterator's captured variables may be younger than the variables that the loop's body writes: 'all below a number' does not say it.)
-/
import Derived.Test.YthnenhfdojpobaaDoorLeafA
import Derived.RangeFuncNested
namespace Go.Proofs.YthnenhfdojpobaaDoor
open Go.RowKit

structure KeptOn (S : Nat → Prop) (w w' : World) : Prop where
  size : w.heap.size ≤ w'.heap.size
  block : ∀ k, S k → w'.heap[k]? = w.heap[k]?

theorem KeptOn.refl (S : Nat → Prop) (w : World) : KeptOn S w w := ⟨Nat.le_refl _, fun _ _ => rfl⟩
theorem KeptOn.trans {S : Nat → Prop} {a b c : World} (h : KeptOn S a b) (k : KeptOn S b c) : KeptOn S a c :=
  ⟨Nat.le_trans h.size k.size, fun i hi => (k.block i hi).trans (h.block i hi)⟩
theorem KeptOn.drew {S : Nat → Prop} {a w : World} (h : KeptOn S a w) : KeptOn S a w.drew := ⟨h.size, h.block⟩
theorem KeptOn.drewN {S : Nat → Prop} {a w : World} (h : KeptOn S a w) (n : Nat) : KeptOn S a (w.drewN n) := ⟨h.size, h.block⟩
theorem KeptOn.grown {S : Nat → Prop} {a w w' : World} {row : Option Nat} (h : KeptOn S a w) (hg : w.grownBy w' row) (hS : ∀ k, S k → k < w.heap.size) (hr : ∀ k, row = some k → ¬ S k) : KeptOn S a w' :=
  h.trans ⟨hg.size, fun k hk => hg.block k (hS k hk) (fun e => hr k e.symm hk)⟩
theorem KeptOn.setCell {S : Nat → Prop} {a w : World} (h : KeptOn S a w) {p : Addr} (hp : ¬ S p.block) (u : Value) : KeptOn S a (w.setCell p u) :=
  h.trans ⟨by simp [World.setCell], fun k hk => Below.heap_setCell _ _ _ _ (fun e => hp (e ▸ hk))⟩
theorem KeptOn.below {S : Nat → Prop} {B : Nat} {a w w' : World} (h : KeptOn S a w) (hb : Below B w w') (hS : ∀ k, S k → k < B) : KeptOn S a w' :=
  h.trans ⟨hb.size, fun k hk => hb.block k (hS k hk)⟩
theorem KeptOn.cell {S : Nat → Prop} {w w' : World} (h : KeptOn S w w') {p : Addr} (hp : S p.block) : w'.cell? p = w.cell? p := World.cell?_of_block (w := w) (h.block p.block hp)
theorem KeptOn.frozen {S : Nat → Prop} {w w' : World} (h : KeptOn S w w') {p : Addr} (hp : S p.block) : w'.frozen? p = w.frozen? p := World.frozen?_of_block (w := w) (h.block p.block hp)
theorem keptOn_t {S : Nat → Prop} {A B C : World} (h : KeptOn S A B) (k : KeptOn S B C) : KeptOn S A C := h.trans k
theorem keptOn_b {S : Nat → Prop} {w : World} (hS : ∀ k, S k → k < w.heap.size) (W : World) (l : Nat) (o o' : Obj) (hl : w.heap.size ≤ l) (_h : W.heap[l]? = some o) (_ : o.isCells = false) (_ : o.isWalk = false) : KeptOn S W (W.putObj l o') :=
  ⟨(grownBy_putObj' W l o').size, fun k hk => World.putObj_heap_other (fun e => by have := hS k hk; omega)⟩

theorem below_next {w w1 w2 : World} (h : Below w.heap.size w w1) (k : Below w1.heap.size w1 w2) : Below w.heap.size w w2 := h.trans (k.mono h.size)

theorem cell_set_same {W : World} {a : Addr} {v u : Value} (h : W.cell? a = some v) : (W.setCell a u).cell? a = some u := World.cell?_setCell_same' _ _ _ (by rw [h]; rfl)
theorem cell_set_other {W : World} {a b : Addr} {v u : Value} (h : W.cell? b = some v) (hne : b.block ≠ a.block) : (W.setCell a u).cell? b = some v :=
  (World.cell?_of_block (w := W) (Below.heap_setCell W a u b.block hne)).trans h
theorem frozen_set {W : World} {a b : Addr} {u : Value} (h : W.frozen? b = false) : (W.setCell a u).frozen? b = false := by rw [World.frozen?_setCell]; exact h
end Go.Proofs.YthnenhfdojpobaaDoor
