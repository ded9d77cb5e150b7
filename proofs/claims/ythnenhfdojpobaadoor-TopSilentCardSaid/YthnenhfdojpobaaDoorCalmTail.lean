/-
  A region that draws its order: all but the last operations read and call, the callees making memory of their own; the last ones come in one order.
-/
import Derived.Test.YthnenhfdojpobaaDoorCalm
import Derived.Test.YthnenhfdojpobaaDoorRoundQ
namespace Go.Proofs.YthnenhfdojpobaaDoor
open Go Go.RowKit

section
variable {P : Program} {ops : Array Oper} {md : Region.Mode} {C : World → Prop}

theorem wpAny_of_headQ {m g : Nat} {L : Array Bool → Act → Prop} {Q : Exit → Act → World → Prop}
    (hL : ∀ listed a w, C w → L listed a → wpAny P md ops Q g listed a w) (f : Nat) :
    ∀ (listed : Array Bool) (a : Act) (w : World), C w → headQ P md ops C m L f listed a → wpAny P md ops Q (f + g) listed a w := by
  induction f with
  | zero => intro listed a w hC h; rw [Nat.zero_add]; exact hL _ _ _ hC h
  | succ f ih =>
    intro listed a w hC h
    rw [Nat.succ_add]
    refine ⟨fun h0 => (h.1 h0).elim, fun i hi => ?_⟩
    exact wpOp_of_qOp hC (fun a' w' hC' h' => ih _ a' w' hC' h') (h.2 i hi).2

theorem wp_region_quiet_tail {id : Nat} {Q : Exit → Act → World → Prop} {a : Act} {w : World} {l : List Oper} (m : Nat) (hm : P.follows .mixedOrders = true) (hB : Region.lexTailB .any l.toArray m = true)
    (hC : C w.drew) (h : wpQuiet P l.toArray C (fun a' => ∀ w', C w' → wpList P l.toArray Q (l.drop m) a' w') (l.take m) a) : (Code.region id l.toArray true).wp P Q a w := by
  simp only [Region.lexTailB, Bool.and_eq_true, decide_eq_true_eq] at hB
  obtain ⟨⟨⟨⟨h1, h2⟩, h3⟩, h4⟩, h5⟩ := hB
  have hml : m < l.length := by simpa using h2
  have e1 : (l.take m).length = m := by rw [List.length_take]; omega
  have e2 : (l.drop m).length = l.toArray.size - m := by simp
  have inv : HeadInv .any l.toArray m (Array.replicate l.toArray.size false) :=
    { size := by simp
      closed := fun j oj _ hl => by rw [getD_replicate_false] at hl; cases hl
      tail := fun t _ ht => getD_in (by simpa using ht) (getD_replicate_false _ _) }
  have key := headQ_lex (P := P) (C := C) (md := .any) (g := l.toArray.size - m) (Lq := fun a' => ∀ w', C w' → wpList P l.toArray Q (l.drop m) a' w') h1 h3 h4 h2 (l.take m) 0 _ a
    (fun j hj => by rw [e1] at hj; simp [hj]) (by simpa using e1) inv (by rw [e1]; exact h5) h
  refine wp_region_any hm ?_
  have fin := wpAny_of_headQ (md := .any) (Q := Q) (g := l.toArray.size - m) (fun listed a' w' hC' hL => by
    have := wpAny_of_seq (md := .any) (P := P) (ops := l.toArray) (Q' := Q) (l.drop m) m listed a' w' (fun j => by simp [List.getElem?_drop]) (by rw [e2]; exact hL.1) (hL.2 w' hC')
    rwa [e2] at this) _ _ _ w.drew hC key
  rw [e1] at fin
  have e3 : m + (l.toArray.size - m) = l.toArray.size := by omega
  rw [e3] at fin
  exact fin
end

theorem region_calm_tail {P : Program} {id : Nat} {Q : Exit → Act → World → Prop} {a : Act} {w : World} {l : List Oper} (m : Nat) (hm : P.follows .mixedOrders = true) (hB : Region.lexTailB .any l.toArray m = true)
    (h : ∀ (S : Type) (_ : Nonempty S) (f : S → World), (∀ s, Below w.heap.size w (f s)) → (∀ W, Below w.heap.size w W → ∃ s, W = f s) →
      wpQuiet P l.toArray (fun w' => ∃ s, w' = f s) (fun a' => ∀ w', (∃ s, w' = f s) → wpList P l.toArray Q (l.drop m) a' w') (l.take m) a) :
    (Code.region id l.toArray true).wp P Q a w :=
  wp_region_quiet_tail (C := fun w' => ∃ s : {W : World // Below w.heap.size w W}, w' = s.val) m hm hB ⟨⟨w.drew, (Below.refl _ w).drew⟩, rfl⟩ (by
    have := h {W : World // Below w.heap.size w W} ⟨⟨w.drew, (Below.refl _ w).drew⟩⟩ Subtype.val (fun s => s.property) (fun W hW => ⟨⟨W, hW⟩, rfl⟩)
    simpa using this)
end Go.Proofs.YthnenhfdojpobaaDoor
