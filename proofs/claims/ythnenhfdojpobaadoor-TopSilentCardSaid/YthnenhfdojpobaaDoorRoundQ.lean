/-
  A region whose operations, all but the last ones, read and call, drawing at most, within a round of a loop over an iterator: one walk of the lexical order serves every order; what the last ones do is asked in every world that some draws lead to.
-/
import Derived.Test.YthnenhfdojpobaaDoorRound
import Derived.Deep.Quiet
import Derived.Deep.QuietTactic
import Derived.BigQuiet
namespace Go.Proofs.YthnenhfdojpobaaDoor
open Go Go.RowKit

section
variable {P : Program} {ops : Array Oper} {md : Region.Mode} {C : World → Prop} {ro : Option Nat} {n : Nat}

/-- The head's operations (numbers below m) come up in whatever order; then L. -/
def headQ (P : Program) (md : Region.Mode) (ops : Array Oper) (C : World → Prop) (m : Nat) (L : Array Bool → Act → Prop) : Nat → Array Bool → Act → Prop
  | 0, listed, a => L listed a
  | f + 1, listed, a => Region.ready md ops listed ≠ [] ∧ ∀ i, i ∈ Region.ready md ops listed → i < m ∧ qOp P ops C i (headQ P md ops C m L f (listed.setIfInBounds i true)) a

/-- One of the head may be taken first. -/
theorem headQ_first {m i : Nat} {oi : Oper} {v : Value} {L : Array Bool → Act → Prop} (hi : ops[i]? = some oi) (hsel : ∀ (j : Nat) (o : Oper) cs b, ops[j]? = some o → o.op ≠ .select cs b)
    (hs : Region.sinkB md ops m = true) (hc : Region.chainB md ops m = true) (hm : m < ops.size) (him : i < m) (hL : ∀ listed a, L listed a → ∀ j, j ∈ Region.ready md ops listed → m ≤ j) (f : Nat) :
    ∀ (listed : Array Bool) (a : Act), HeadInv md ops m listed →
      (∀ j oj, ops[j]? = some oj → j ≠ i → listed.getD j true = false → (∀ e ∈ oj.after, Region.binds md e = true → e.on ≠ i) → oi.apart ops oj = true) →
      i ∈ Region.ready md ops listed → YieldsIn P ops C oi v a → headQ P md ops C m L f (listed.setIfInBounds i true) (a.put oi.dst v) → headQ P md ops C m L (f + 1) listed a := by
  induction f with
  | zero =>
    intro listed a inv _ hr hy h
    have low : ∀ j, j ∈ Region.ready md ops listed → j < m := fun j hj => Nat.lt_of_not_le fun hle => tail_waits hs hc hm inv _ i rfl him (mem_ready.1 hr).1 j hle hj
    refine ⟨List.ne_nil_of_mem hr, fun j hj => ⟨low j hj, ?_⟩⟩
    by_cases e : j = i
    · subst e
      exact YieldsIn.qOp hi hy h
    · exact absurd (hL _ _ h j (ready_mono hj e)) (Nat.not_le.2 (low j hj))
  | succ f ih =>
    intro listed a inv hfree hr hy h
    have low : ∀ j, j ∈ Region.ready md ops listed → j < m := fun j hj => Nat.lt_of_not_le fun hle => tail_waits hs hc hm inv _ i rfl him (mem_ready.1 hr).1 j hle hj
    refine ⟨List.ne_nil_of_mem hr, fun j hj => ⟨low j hj, ?_⟩⟩
    by_cases e : j = i
    · subst e
      exact YieldsIn.qOp hi hy h
    · obtain ⟨hjun, oj, hoj, hall⟩ := mem_ready.1 hj
      have apartj := hfree j oj hoj e hjun (fun x hx hb hon => by
        have h2 := hall x hx hb
        rw [hon, getD_both (mem_ready.1 hr).1] at h2
        cases h2)
      have hq := qOp_put hoj apartj (fun cs b => hsel i oi cs b hi) (fun cs b => hsel j oj cs b hoj) hy (h.2 j (ready_mono hj e)).2
      refine qOp_mono (fun a' h3 => ih (listed.setIfInBounds j true) a' (inv.set hj (low j hj)) (fun k ok hok hki hun hno => hfree k ok hok hki ?_ hno) (ready_mono hr (Ne.symm e)) h3.1 ?_) hq
      · by_cases hjk : j = k
        · subst hjk; exact hjun
        · rwa [getD_set_ne true hjk] at hun
      · rw [Array.setIfInBounds_comm _ _ e]
        exact h3.2

theorem headQ_lex {m g : Nat} {Lq : Act → Prop} (hsel : Region.noSelect ops = true) (hs : Region.sinkB md ops m = true) (hc : Region.chainB md ops m = true) (hm : m < ops.size) (l : List Oper) :
    ∀ (k : Nat) (listed : Array Bool) (a : Act), (∀ j, j < l.length → l[j]? = ops[k + j]?) → k + l.length = m → HeadInv md ops m listed → Region.lexHead md ops g l.length k listed = true →
    wpQuiet P ops C Lq l a → headQ P md ops C m (fun listed' a' => Region.seqB md ops g m listed' = true ∧ Lq a') l.length listed a := by
  induction l with
  | nil =>
    intro k listed a _ hk _ hB h
    obtain rfl : k = m := by simpa using hk
    exact ⟨by simpa [Region.lexHead] using hB, h⟩
  | cons o l ih =>
    intro k listed a hl hk inv hB h
    have h0 : ops[k]? = some o := by simpa using (hl 0 (by simp)).symm
    simp only [List.length_cons, Region.lexHead, Bool.and_eq_true] at hB
    have hkm : k < m := by simp only [List.length_cons] at hk; omega
    have hr : k ∈ Region.ready md ops listed := by simpa using hB.1.1
    obtain ⟨v, hy, hK⟩ := yieldsIn_of_qOp h0 (show qOp P ops C k (wpQuiet P ops C Lq l) a by unfold qOp; simp only [h0]; exact h)
    refine headQ_first h0 (Region.noSelect_spec hsel) hs hc hm hkm (fun listed' a' hL => seqB_ready hL.1) l.length listed a inv (Region.free_spec h0 hB.1.2) hr hy ?_
    exact ih (k + 1) _ _ (fun j hj => by have := hl (j + 1) (by simp; omega); simpa [Nat.add_assoc, Nat.add_comm 1 j] using this) (by simp only [List.length_cons] at hk; omega) (inv.set hr hkm) hB.2 hK

theorem wpIn_of_quietR {o : Oper} {a : Act} {w : World} {K : Act → Prop} {K' : Act → World → Prop} {Q : Exit → Act → World → Prop} (hd : ∀ c, o.op ≠ .defer c) (hC : C w)
    (h : ∀ a w', C w' → K a → K' a w') (hh : o.quiet P a C K) : o.wpIn (wideR ro) n P a w K' Q := by
  obtain ⟨v, h1, h2⟩ := hh
  have h3 := h1 w hC
  refine ⟨fun _ _ => trivial, ?_⟩
  rw [Oper.semAt_eq _ _ _ hd]
  unfold Oper.quietAt at h3
  generalize (execOp a.eval o).run P w = r at h3 ⊢
  cases r with
  | halt x w' => exact h3.elim
  | ok x w' =>
    cases x with
    | value u => obtain ⟨rfl, rfl⟩ := h3; exact h _ _ hC h2
    | skip => obtain ⟨rfl, rfl⟩ := h3; exact h _ _ hC h2
    | enter f args =>
      obtain ⟨rfl, hc⟩ := h3
      refine ⟨fun h => (by cases h), callsIn_wideR (hc.mono ?_)⟩
      rintro e w'' ⟨rfl, hw⟩
      exact h _ _ hw h2
    | _ => exact h3.elim

theorem wpOpIn_of_qOpR {i : Nat} {a : Act} {w : World} {K : Act → Prop} {K' : Act → World → Prop} {Q : Exit → Act → World → Prop} (hd : ∀ (o : Oper) (c : Call), ops[i]? = some o → o.op ≠ .defer c) (hC : C w)
    (h : ∀ a w', C w' → K a → K' a w') (hh : qOp P ops C i K a) : wpOpIn (wideR ro) n P ops Q i K' a w := by
  cases ho : ops[i]? with
  | none =>
    simp only [qOp, ho] at hh
    simp only [wpOpIn, ho]
    exact h _ _ hC hh
  | some o =>
    simp only [qOp, ho] at hh
    simp only [wpOpIn, ho]
    by_cases hw : Region.wanted o (yielded ops a.tmps) = true
    · simp only [hw, if_true] at hh ⊢
      exact wpIn_of_quietR (fun c => hd o c ho) hC h hh
    · simp only [hw] at hh ⊢
      exact ⟨fun _ _ => trivial, h _ _ hC hh⟩

theorem wpAnyIn_of_headQ {m g : Nat} {L : Array Bool → Act → Prop} {Q : Exit → Act → World → Prop} (hd : ∀ (i : Nat) (o : Oper) (c : Call), ops[i]? = some o → o.op ≠ .defer c)
    (hL : ∀ listed a w, C w → L listed a → wpAnyIn (wideR ro) n P md ops Q g listed a w) (f : Nat) :
    ∀ (listed : Array Bool) (a : Act) (w : World), C w → headQ P md ops C m L f listed a → wpAnyIn (wideR ro) n P md ops Q (f + g) listed a w := by
  induction f with
  | zero => intro listed a w hC h; rw [Nat.zero_add]; exact hL _ _ _ hC h
  | succ f ih =>
    intro listed a w hC h
    rw [Nat.succ_add]
    refine ⟨fun h0 => (h.1 h0).elim, fun i hi => ?_⟩
    exact wpOpIn_of_qOpR (hd i) hC (fun a' w' hC' h' => ih _ a' w' hC' h') (h.2 i hi).2

theorem wpIn_region_quiet_tail {id : Nat} {Q : Exit → Act → World → Prop} {a : Act} {w : World} {l : List Oper} (m : Nat) (hm : P.follows .mixedOrders = true) (hB : Region.lexTailB .any l.toArray m = true) (hN : noDefer l = true)
    (hC : C w.drew) (h : wpQuiet P l.toArray C (fun a' => ∀ w', C w' → wpListIn (wideR ro) n P l.toArray Q (l.drop m) a' w') (l.take m) a) : (Code.region id l.toArray true).wpIn (wideR ro) n P Q a w := by
  simp only [Region.lexTailB, Bool.and_eq_true, decide_eq_true_eq] at hB
  obtain ⟨⟨⟨⟨h1, h2⟩, h3⟩, h4⟩, h5⟩ := hB
  have hml : m < l.length := by simpa using h2
  have hd := noDefer_spec hN
  have e1 : (l.take m).length = m := by rw [List.length_take]; omega
  have e2 : (l.drop m).length = l.toArray.size - m := by simp
  have inv : HeadInv .any l.toArray m (Array.replicate l.toArray.size false) :=
    { size := by simp
      closed := fun j oj _ hl => by rw [getD_replicate_false] at hl; cases hl
      tail := fun t _ ht => getD_in (by simpa using ht) (getD_replicate_false _ _) }
  have key := headQ_lex (P := P) (C := C) (md := .any) (g := l.toArray.size - m) (Lq := fun a' => ∀ w', C w' → wpListIn (wideR ro) n P l.toArray Q (l.drop m) a' w') h1 h3 h4 h2 (l.take m) 0 _ a
    (fun j hj => by rw [e1] at hj; simp [hj]) (by simpa using e1) inv (by rw [e1]; exact h5) h
  refine wpIn_region_any hm ?_
  have fin := wpAnyIn_of_headQ (md := .any) (n := n) (ro := ro) (Q := Q) (g := l.toArray.size - m) hd (fun listed a' w' hC' hL => by
    have := wpAnyIn_of_seqR (md := .any) (F := wideR ro) (n := n) (P := P) (ops := l.toArray) (Q := Q) (l.drop m) m listed a' w' (fun j => by simp [List.getElem?_drop]) (by rw [e2]; exact hL.1) (hL.2 w' hC')
    rwa [e2] at this) _ _ _ w.drew hC key
  rw [e1] at fin
  have e3 : m + (l.toArray.size - m) = l.toArray.size := by omega
  rw [e3] at fin
  exact fin

/-- In the walk's own words for a round, the worlds being those that some draws lead to. -/
theorem region_quiet_tail {id l0 : Nat} {Q : Exit → Act → World → Prop} {a : Act} {w : World} {l : List Oper} (m : Nat) (hm : P.follows .mixedOrders = true) (hB : Region.lexTailB .any l.toArray m = true) (hN : noDefer l = true)
    (h : wpQuiet P l.toArray (fun w' => ∃ k, w' = w.drewN k) (fun a' => ∀ w', (∃ k, w' = w.drewN k) → wpListIn (Fence.wide.inRound l0) n P l.toArray Q (l.drop m) a' w') (l.take m) a) : (Code.region id l.toArray true).wpIn (Fence.wide.inRound l0) n P Q a w :=
  wpIn_region_quiet_tail (ro := some l0) (C := fun w' => ∃ k, w' = w.drewN k) m hm hB hN ⟨1, rfl⟩ h
end
end Go.Proofs.YthnenhfdojpobaaDoor
