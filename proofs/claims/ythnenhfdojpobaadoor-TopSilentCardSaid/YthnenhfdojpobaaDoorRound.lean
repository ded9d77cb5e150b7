/-
  A region whose operations, all but the last ones, read and call quietly, within a round of a loop over an iterator: one walk of the lexical order serves every order. (The library has it outside of rounds.)
-/
import Derived.StillTailTactics
import Derived.OrdersIn
import Derived.RangeFuncCalls
import Derived.TacticsIn
namespace Go.Proofs.YthnenhfdojpobaaDoor
open Go Go.RowKit

/-- The wide fence within a round, or without one. -/
def wideR (ro : Option Nat) : Fence := { Fence.wide with round := ro }

theorem callsIn_wideR {ro : Option Nat} {n : Nat} {P : Program} {f : FuncId} {args : Array Value} {w : World} {R : Ending → World → Prop} (h : Calls P f args w R) : CallsIn (wideR ro) n P f args w R :=
  (callsIn_wide (n := n)).2 h

section
variable {P : Program} {ops : Array Oper} {md : Region.Mode} {w : World} {ro : Option Nat} {n : Nat}

theorem wpIn_of_stillR {o : Oper} {a : Act} {K : Act → Prop} {K' : Act → World → Prop} {Q : Exit → Act → World → Prop} (hd : ∀ c, o.op ≠ .defer c)
    (h : ∀ a, K a → K' a w) (hh : o.still P a w K) : o.wpIn (wideR ro) n P a w K' Q := by
  refine ⟨fun _ _ => trivial, ?_⟩
  rw [Oper.semAt_eq _ _ _ hd]
  unfold Oper.still at hh
  generalize (execOp a.eval o).run P w = r at hh ⊢
  cases r with
  | halt x w' => exact hh.elim
  | ok x w' =>
    cases x with
    | value v => obtain ⟨rfl, h2⟩ := hh; exact h _ h2
    | skip => obtain ⟨rfl, h2⟩ := hh; exact h _ h2
    | enter f args =>
      obtain ⟨rfl, v, hc, hn⟩ := hh
      refine ⟨fun h => (by cases h), callsIn_wideR (hc.mono ?_)⟩
      rintro e w'' ⟨rfl, rfl⟩
      exact h _ hn
    | _ => exact hh.elim

theorem wpOpIn_of_stOpR {i : Nat} {a : Act} {K : Act → Prop} {K' : Act → World → Prop} {Q : Exit → Act → World → Prop} (hd : ∀ (o : Oper) (c : Call), ops[i]? = some o → o.op ≠ .defer c)
    (h : ∀ a, K a → K' a w) (hh : stOp P ops w i K a) : wpOpIn (wideR ro) n P ops Q i K' a w := by
  cases ho : ops[i]? with
  | none =>
    simp only [stOp, ho] at hh
    simp only [wpOpIn, ho]
    exact h _ hh
  | some o =>
    simp only [stOp, ho] at hh
    simp only [wpOpIn, ho]
    by_cases hw : Region.wanted o (yielded ops a.tmps) = true
    · simp only [hw, if_true] at hh ⊢
      exact wpIn_of_stillR (fun c => hd o c ho) h hh
    · simp only [hw] at hh ⊢
      exact ⟨fun _ _ => trivial, h _ hh⟩

theorem wpAnyIn_of_headR {m g : Nat} {L : Array Bool → Act → Prop} {Q : Exit → Act → World → Prop} (hd : ∀ (i : Nat) (o : Oper) (c : Call), ops[i]? = some o → o.op ≠ .defer c)
    (hL : ∀ listed a, L listed a → wpAnyIn (wideR ro) n P md ops Q g listed a w) (f : Nat) :
    ∀ (listed : Array Bool) (a : Act), wpAnyL P md ops w m L f listed a → wpAnyIn (wideR ro) n P md ops Q (f + g) listed a w := by
  induction f with
  | zero => intro listed a h; rw [Nat.zero_add]; exact hL _ _ h
  | succ f ih =>
    intro listed a h
    rw [Nat.succ_add]
    refine ⟨fun h0 => (h.1 h0).elim, fun i hi => ?_⟩
    exact wpOpIn_of_stOpR (hd i) (fun a' h' => ih _ a' h') (h.2 i hi).2

theorem wpAnyIn_of_seqR {F : Fence} {Q : Exit → Act → World → Prop} (l : List Oper) : ∀ (k : Nat) (listed : Array Bool) (a : Act) (w : World), (∀ j, l[j]? = ops[k + j]?) →
    Region.seqB md ops l.length k listed = true → wpListIn F n P ops Q l a w → wpAnyIn F n P md ops Q l.length listed a w := by
  induction l with
  | nil =>
    intro k listed a w _ hB h
    exact ⟨by simpa [Region.seqB] using hB, h⟩
  | cons o l ih =>
    intro k listed a w hl hB h
    simp only [List.length_cons, Region.seqB, Bool.and_eq_true, decide_eq_true_eq] at hB
    obtain ⟨hr, hB⟩ := hB
    have h0 : ops[k]? = some o := by have := hl 0; simpa using this.symm
    refine ⟨fun h1 => (by rw [h1] at hr; cases hr), fun i hi => ?_⟩
    rw [hr, List.mem_singleton] at hi
    subst hi
    refine wpOpIn_mono (K := wpListIn F n P ops Q l) (fun a' w' h' => ih (i + 1) _ a' w' (fun j => ?_) hB h') ?_
    · have := hl (j + 1)
      rw [List.getElem?_cons_succ] at this
      rw [this]; congr 1; omega
    · simp only [wpOpIn, h0]; exact h

/-- No operation of the list is a 'defer'. -/
def noDefer (l : List Oper) : Bool := l.all fun o => match o.op with | .defer _ => false | _ => true

theorem noDefer_spec {l : List Oper} (h : noDefer l = true) (i : Nat) (o : Oper) (c : Call) (ho : l.toArray[i]? = some o) : o.op ≠ .defer c := by
  intro hc
  have hm : o ∈ l := by rw [List.getElem?_toArray] at ho; exact List.mem_of_getElem? ho
  have := List.all_eq_true.1 h o hm
  rw [hc] at this
  cases this

theorem wpIn_region_still_tail {id : Nat} {Q : Exit → Act → World → Prop} {a : Act} {l : List Oper} (m : Nat) (hm : P.follows .mixedOrders = true) (hB : Region.lexTailB .any l.toArray m = true) (hN : noDefer l = true)
    (h : wpStill P l.toArray w.drew (fun a' => wpListIn (wideR ro) n P l.toArray Q (l.drop m) a' w.drew) (l.take m) a) : (Code.region id l.toArray true).wpIn (wideR ro) n P Q a w := by
  simp only [Region.lexTailB, Bool.and_eq_true, decide_eq_true_eq] at hB
  obtain ⟨⟨⟨⟨h1, h2⟩, h3⟩, h4⟩, h5⟩ := hB
  have hml : m < l.length := by simpa using h2
  have hd := noDefer_spec hN
  have e1 : (l.take m).length = m := by rw [List.length_take]; omega
  have e2 : (l.drop m).length = l.toArray.size - m := by simp
  have inv : HeadInv .any l.toArray m (Array.replicate l.toArray.size false) :=
    { size := by simp
      closed := fun j oj _ hl => by rw [getD_replicate_false] at hl; cases hl
      tail := fun t _ ht => getD_in (by simpa using ht) (getD_replicate_false _ _) }
  have key := wpAnyL_lex (P := P) (w := w.drew) (md := .any) (g := l.toArray.size - m) (Lq := fun a' => wpListIn (wideR ro) n P l.toArray Q (l.drop m) a' w.drew) h1 h3 h4 h2 (l.take m) 0 _ a
    (fun j hj => by rw [e1] at hj; simp [hj]) (by simpa using e1) inv (by rw [e1]; exact h5) h
  refine wpIn_region_any hm ?_
  have fin := wpAnyIn_of_headR (md := .any) (n := n) (ro := ro) (Q := Q) (g := l.toArray.size - m) hd (fun listed a' hL => by
    have := wpAnyIn_of_seqR (md := .any) (F := wideR ro) (n := n) (P := P) (ops := l.toArray) (Q := Q) (l.drop m) m listed a' w.drew (fun j => by simp [List.getElem?_drop]) (by rw [e2]; exact hL.1) hL.2
    rwa [e2] at this) _ _ _ key
  rw [e1] at fin
  have e3 : m + (l.toArray.size - m) = l.toArray.size := by omega
  rw [e3] at fin
  exact fin

/-- The same, in the walk's own words for a round. -/
theorem region_tail {id l0 : Nat} {Q : Exit → Act → World → Prop} {a : Act} {l : List Oper} (m : Nat) (hm : P.follows .mixedOrders = true) (hB : Region.lexTailB .any l.toArray m = true) (hN : noDefer l = true)
    (h : wpStill P l.toArray w.drew (fun a' => wpListIn (Fence.wide.inRound l0) n P l.toArray Q (l.drop m) a' w.drew) (l.take m) a) : (Code.region id l.toArray true).wpIn (Fence.wide.inRound l0) n P Q a w :=
  wpIn_region_still_tail (ro := some l0) m hm hB hN h
end
end Go.Proofs.YthnenhfdojpobaaDoor
