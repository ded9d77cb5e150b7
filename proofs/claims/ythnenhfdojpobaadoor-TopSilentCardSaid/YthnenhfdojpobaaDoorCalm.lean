/-
  A region that draws its order, whose callees may make memory of their own: all worlds that lie upon this one are one class.
-/
import Derived.Test.YthnenhfdojpobaaDoorLeafA
import Derived.LoopIn
namespace Go.Proofs.YthnenhfdojpobaaDoor
open Go.RowKit

theorem region_calm {P : Program} {id : Nat} {Q : Exit → Act → World → Prop} {a : Act} {w : World} {l : List Oper} (hm : P.follows .mixedOrders = true) (hB : Region.lexB .any l.toArray = true)
    (h : ∀ (S : Type) (_ : Nonempty S) (f : S → World), (∀ s, Below w.heap.size w (f s)) → (∀ W, Below w.heap.size w W → ∃ s, W = f s) → wpQuiet P l.toArray (fun w' => ∃ s, w' = f s) (fun a' => ∀ w', (∃ s, w' = f s) → Q .normal a' w') l a) :
    (Code.region id l.toArray true).wp P Q a w :=
  wp_region_quiet (C := fun w' => ∃ s : {W : World // Below w.heap.size w W}, w' = s.val) hm hB ⟨⟨w.drew, (Below.refl _ w).drew⟩, rfl⟩ (by
    have := h {W : World // Below w.heap.size w W} ⟨⟨w.drew, (Below.refl _ w).drew⟩⟩ Subtype.val (fun s => s.property) (fun W hW => ⟨⟨W, hW⟩, rfl⟩)
    simpa using this)

/-- A callee's contract, told of the class. -/
theorem calm_call {P : Program} {S : Type} {f : S → World} {w : World} {k : Nat} {args : Array Value} {v : Value} (hS1 : ∀ s, Below w.heap.size w (f s)) (hS2 : ∀ W, Below w.heap.size w W → ∃ s, W = f s)
    (h : ∀ s, Calls P k args (f s) fun e w' => e = .returned v ∧ Below (f s).heap.size (f s) w') : ∀ s, Calls P k args (f s) (fun e w' => e = .returned v ∧ ∃ s', w' = f s') :=
  fun s => (h s).mono fun e w' h => ⟨h.1, hS2 _ ((hS1 s).trans (h.2.mono (hS1 s).size))⟩
theorem calm_call0 {P : Program} {S : Type} {f : S → World} {k : Nat} {args : Array Value} {v : Value}
    (h : ∀ s, Calls P k args (f s) fun e w' => e = .returned v ∧ f s = w') : ∀ s, Calls P k args (f s) (fun e w' => e = .returned v ∧ ∃ s', w' = f s') :=
  fun s => (h s).mono fun e w' h => ⟨h.1, s, h.2.symm⟩
end Go.Proofs.YthnenhfdojpobaaDoor
