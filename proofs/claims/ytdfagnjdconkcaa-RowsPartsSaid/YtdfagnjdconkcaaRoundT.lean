/-
  A drawn region within a round, as if it stood outside: its orders may be gone through with the laws for fences without a round.
-/
import Derived.Test.YtdfagnjdconkcaaRound
import Derived.BigRegionIn
namespace Go.Proofs.Ytdfagnjdconkcaa
open Go Go.RowKit

section
variable {P : Program} {ops : Array Oper} {md : Region.Mode} {l0 n : Nat} {Q : Exit → Act → World → Prop}

theorem wpIn_ro {o : Oper} {a : Act} {w : World} {K : Act → World → Prop} (hd : ∀ c, o.op ≠ .defer c) (h : o.wpIn Fence.wide n P a w K Q) : o.wpIn (Fence.wide.inRound l0) n P a w K Q := by
  refine ⟨fun _ _ => trivial, ?_⟩
  have h2 := h.2
  rw [Oper.semAt_eq _ _ _ hd] at h2 ⊢
  generalize (execOp a.eval o).run P w = r at h2 ⊢
  cases r with
  | halt x w' => cases x <;> exact h2
  | ok x w' => cases x <;> exact h2

theorem wpAnyIn_ro (hd : ∀ (i : Nat) (o : Oper) (c : Call), ops[i]? = some o → o.op ≠ .defer c) (f : Nat) : ∀ (listed : Array Bool) (a : Act) (w : World),
    wpAnyIn Fence.wide n P md ops Q f listed a w → wpAnyIn (Fence.wide.inRound l0) n P md ops Q f listed a w := by
  induction f with
  | zero => intro listed a w h; exact h
  | succ f ih =>
    intro listed a w h
    refine ⟨h.1, fun i hi => ?_⟩
    have h2 := wpOpIn_mono (K' := wpAnyIn (Fence.wide.inRound l0) n P md ops Q f (listed.setIfInBounds i true)) (fun a' w' h' => ih _ a' w' h') (h.2 i hi)
    unfold wpOpIn at h2 ⊢
    cases ho : ops[i]? with
    | none => rw [ho] at h2; exact h2
    | some o =>
      rw [ho] at h2
      simp only at h2 ⊢
      split
      · rename_i hw
        rw [if_pos hw] at h2
        exact wpIn_ro (fun c => hd i o c ho) h2
      · rename_i hw
        rw [if_neg hw] at h2
        exact ⟨fun _ _ => trivial, h2.2⟩

theorem region_ro {id : Nat} {a : Act} {w : World} {l : List Oper} (hm : P.follows .mixedOrders = true) (hN : noDefer l = true)
    (h : wpAnyIn Fence.wide n P .any l.toArray Q l.toArray.size (Array.replicate l.toArray.size false) a w.drew) : (Code.region id l.toArray true).wpIn (Fence.wide.inRound l0) n P Q a w :=
  wpIn_region_any hm (wpAnyIn_ro (noDefer_spec hN) _ _ _ _ h)
end
end Go.Proofs.Ytdfagnjdconkcaa
