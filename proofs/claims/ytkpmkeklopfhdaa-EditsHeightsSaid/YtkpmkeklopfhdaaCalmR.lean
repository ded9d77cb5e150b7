/-
  In a round: a region that draws its order, whose callees make memory of their own.
-/
import Derived.Test.YtkpmkeklopfhdaaCalmTail
import Derived.Test.YtkpmkeklopfhdaaMem
namespace Go.Proofs.Ytkpmkeklopfhdaa
open Go Go.RowKit

/-- In a round: a drawn region whose callees make memory, its last operations apart. -/
theorem region_calmR {P : Program} {n id l0 : Nat} {Q : Exit → Act → World → Prop} {a : Act} {w : World} {l : List Oper} (m : Nat) (hm : P.follows .mixedOrders = true) (hB : Region.lexTailB .any l.toArray m = true) (hN : noDefer l = true)
    (h : ∀ (S : Type) (_ : Nonempty S) (f : S → World), (∀ s, Below w.heap.size w (f s)) → (∀ W, Below w.heap.size w W → ∃ s, W = f s) →
      wpQuiet P l.toArray (fun w' => ∃ s, w' = f s) (fun a' => ∀ w', (∃ s, w' = f s) → wpListIn (Fence.wide.inRound l0) n P l.toArray Q (l.drop m) a' w') (l.take m) a) : (Code.region id l.toArray true).wpIn (Fence.wide.inRound l0) n P Q a w :=
  wpIn_region_quiet_tail (ro := some l0) (C := fun w' => ∃ s : {W : World // Below w.heap.size w W}, w' = s.val) m hm hB hN ⟨⟨w.drew, (Below.refl _ w).drew⟩, rfl⟩
    (h {W : World // Below w.heap.size w W} ⟨⟨w.drew, (Below.refl _ w).drew⟩⟩ Subtype.val (fun s => s.property) (fun W hW => ⟨⟨W, hW⟩, rfl⟩))

theorem boxed_later {W W' : World} {B : Nat} {t : TypeId} {v : Value} (h : Boxed W B t v) (hb : Below W.heap.size W W') : Boxed W' B t v :=
  h.kept (row := none) ⟨hb.os, hb.tape, hb.output, hb.size, fun i hi _ => hb.block i hi⟩ (by simp)
theorem owns_later {W W' : World} {lo k : Nat} {e : TypeId} {v : Value} {xs : List Value} (h : W.ownsRow lo e 1 v k xs) (hb : Below W.heap.size W W') : W'.ownsRow lo e 1 v k xs :=
  h.kept (row := none) ⟨hb.os, hb.tape, hb.output, hb.size, fun i hi _ => hb.block i hi⟩ (by cases v.ownBlock <;> simp)

end Go.Proofs.Ytkpmkeklopfhdaa
