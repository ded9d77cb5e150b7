/-
  What a range over the leadings keeps: two results in boxes; what has been handed out and is kept.
-/
import Derived.Test.YtkpiakoijkflmaaVoLdsSeq
import Derived.Test.YtkpiakoijkflmaaVoLdsHead
namespace Go.Proofs.Ytkpiakoijkflmaa
open Go.RowKit Go.Shelf Go.ChangeShapes Go.WideShapes Go.ChangeAt
set_option maxRecDepth 100000

theorem own_cellsL {W : World} {base g : Nat} {e : TypeId} {size n : Nat} {v : Value} {xs : List Value} (h : W.ownsRow base e size v n xs) (hg : v.ownBlock = some g) : ∃ cur, W.heap[g]? = some (.cells cur e (0, 0)) := by
  rcases h.2 with ⟨rfl, _⟩ | ⟨g', cap, cur, rfl, _, hh, _⟩
  · cases hg
  · simp only [Value.ownBlock, Option.some.injEq] at hg
    subst hg
    exact ⟨cur, hh⟩
theorem own_row_other {W : World} {b : Nat} {t : TypeId} {vs : List Value} {base g : Nat} {e : TypeId} {size n : Nat} {v : Value} {xs : List Value} (hr : Row W b t vs) (h : W.ownsRow base e size v n xs) (hg : v.ownBlock = some g) (ht : t ≠ e) : b ≠ g := by
  obtain ⟨cur, hc⟩ := own_cellsL h hg
  rintro rfl
  unfold Row at hr
  rw [hr] at hc
  simp only [Option.some.injEq, Obj.cells.injEq] at hc
  exact ht hc.2.1
theorem Row.lone {W W' : World} {row : Option Nat} {b : Nat} {t : TypeId} {vs : List Value} (h : Row W b t vs) (hg : W.grownBy W' row) (hne : ∀ r, row = some r → b ≠ r) : Row W' b t vs :=
  (hg.block b h.lt (fun e => hne b e.symm rfl)).trans h

abbrev LX : Type := List Nat × Value
/-- The round's facts: what has been handed out so far. -/
def LdI (ok : List (List Nat) → Prop) (H : Nat) (w : World) (R1 R2 : Nat) (pre : List LX) (Z : Nat → Prop) (W : World) : Prop :=
  ok (pre.map Prod.fst) ∧ (Row W R1 22 [.slice none 0 0] ∧ Row W R2 23 [.int .i64 0]) ∧ (∀ k, Z k → R2 < k) ∧ Below H w W ∧ R2 < W.heap.size
/-- Behind a return: the last one is the result. -/
def LdX (ok : List (List Nat) → Prop) (H : Nat) (w : World) (R1 R2 : Nat) (pre : List LX) (Z : Nat → Prop) (W : World) : Prop :=
  (∃ p x, pre = p ++ [x] ∧ ok (pre.map Prod.fst) ∧ Row W R1 22 [x.2] ∧ Row W R2 23 [.int .i64 0] ∧ W.ownsRow 0 3 1 x.2 x.1.length (ivals (natI x.1)) ∧ ∀ g, x.2.ownBlock = some g → ¬ Z g) ∧ (∀ k, Z k → R2 < k) ∧ Below H w W ∧ R2 < W.heap.size

theorem own_grown {W W' : World} {row : Option Nat} {base : Nat} {e : TypeId} {size n : Nat} {v : Value} {xs : List Value} (h : W.ownsRow base e size v n xs) (hg : W.grownBy W' row) (hr : ∀ r, row = some r → ∃ o : Obj, W.heap[r]? = some o ∧ o.isCells = false) : W'.ownsRow base e size v n xs := by
  refine h.kept hg ?_
  cases ho : v.ownBlock with
  | none => exact Or.inl rfl
  | some g =>
    refine Or.inr (fun e => ?_)
    obtain ⟨o, ho2, hc⟩ := hr g e.symm
    obtain ⟨cur, h3⟩ := own_cellsL h ho
    rw [h3] at ho2; cases ho2; cases hc
theorem grow_setL (W : World) (r i : Nat) (u : Value) : W.grownBy (W.setCell ⟨r, i, none⟩ u) (some r) :=
  ⟨rfl, rfl, rfl, by simp [World.setCell], fun k _ hne => Below.heap_setCell W ⟨r, i, none⟩ u k (fun e => hne (by rw [e]))⟩
theorem own_apart {W W' : World} {row : Option Nat} {base : Nat} {e : TypeId} {size n : Nat} {v : Value} {xs : List Value} (h : W.ownsRow base e size v n xs) (hg : W.grownBy W' row) (hr : ∀ g, v.ownBlock = some g → some g ≠ row) : W'.ownsRow base e size v n xs := by
  refine h.kept hg ?_
  cases ho : v.ownBlock with
  | none => exact Or.inl rfl
  | some g => exact Or.inr (hr g ho)

theorem LdI.sep {ok : List (List Nat) → Prop} {H B R1 R2 : Nat} {w : World} (hH : H = w.heap.size) (h12 : R1 < R2) (h1 : H ≤ R1) (hB : R2 < B) : SepO B (LdI ok H w R1 R2) :=
  { grow := fun s Z W W' row ⟨h0, ⟨h1, h2⟩, h3, h4, h5⟩ hg hr => ⟨h0, ⟨h1.kept hg (fun r e => (hr r e).2), h2.kept hg (fun r e => (hr r e).2)⟩, h3, h4.grown hg (by have := h4.size; omega) (fun k e => by have := (hr k e).1; omega), Nat.lt_of_lt_of_le h5 hg.size⟩
    priv := fun s Z W r i u ⟨h0, ⟨h1, h2⟩, h3, h4, h5⟩ hz => by
      have h6 := h3 r hz
      exact ⟨h0, ⟨h1.other (by omega) u, h2.other (by omega) u⟩, h3, h4.setCell (p := ⟨r, i, none⟩) (show H ≤ r by omega) u, by simpa [World.setCell] using h5⟩
    take := fun s Z W o ⟨h0, ⟨h1, h2⟩, h3, h4, h5⟩ => ⟨h0, ⟨h1.alloc o, h2.alloc o⟩, fun k hk => by
      rcases hk with hk | rfl
      · exact h3 k hk
      · exact h5, h4.alloc (by have := h4.size; omega) o, by rw [World.size_alloc]; omega⟩
    draw := fun s Z W ⟨h0, ⟨h1, h2⟩, h3, h4, h5⟩ => ⟨h0, ⟨h1, h2⟩, h3, h4.drew, h5⟩
    own := fun s Z W W' row N ⟨h0, ⟨h1, h2⟩, h3, h4, h5⟩ hg hr hN => by
      have h6 : ∀ r, row = some r → R2 < r := fun r e => h3 r (hr r e)
      refine ⟨h0, ⟨h1.lone hg (fun r e => by have := h6 r e; omega), h2.lone hg (fun r e => by have := h6 r e; omega)⟩, fun k hk => ?_, h4.grown hg (by have := h4.size; omega) (fun k e => by have := h6 k e; omega), Nat.lt_of_lt_of_le h5 hg.size⟩
      rcases hk with hk | ⟨hk, _⟩
      · exact h3 k hk
      · have := hN k hk; omega }

theorem LdX.sep {ok : List (List Nat) → Prop} {H B R1 R2 : Nat} {w : World} (hH : H = w.heap.size) (h12 : R1 < R2) (h1 : H ≤ R1) (hB : R2 < B) : SepO B (LdX ok H w R1 R2) :=
  { grow := fun s Z W W' row ⟨⟨p, x, e0, e1, h1, h2, h6, h7⟩, h3, h4, h5⟩ hg hr => ⟨⟨p, x, e0, e1, h1.kept hg (fun r e => (hr r e).2), h2.kept hg (fun r e => (hr r e).2), own_grown h6 hg (fun r e => (hr r e).2), h7⟩, h3, h4.grown hg (by have := h4.size; omega) (fun k e => by have := (hr k e).1; omega), Nat.lt_of_lt_of_le h5 hg.size⟩
    priv := fun s Z W r i u ⟨⟨p, x, e0, e1, h1, h2, h6, h7⟩, h3, h4, h5⟩ hz => by
      have h8 := h3 r hz
      exact ⟨⟨p, x, e0, e1, h1.other (by omega) u, h2.other (by omega) u, own_apart h6 (grow_setL W r i u) (fun g hg e => by cases e; exact h7 _ hg hz), h7⟩, h3, h4.setCell (p := ⟨r, i, none⟩) (show H ≤ r by omega) u, by simpa [World.setCell] using h5⟩
    take := fun s Z W o ⟨⟨p, x, e0, e1, h1, h2, h6, h7⟩, h3, h4, h5⟩ => ⟨⟨p, x, e0, e1, h1.alloc o, h2.alloc o, h6.alloc o, fun g hg hk => by
      rcases hk with hk | e
      · exact h7 g hg hk
      · have := (h6.lt _ hg).2; omega⟩, fun k hk => by
      rcases hk with hk | rfl
      · exact h3 k hk
      · exact h5, h4.alloc (by have := h4.size; omega) o, by rw [World.size_alloc]; omega⟩
    draw := fun s Z W ⟨⟨p, x, e0, e1, h1, h2, h6, h7⟩, h3, h4, h5⟩ => ⟨⟨p, x, e0, e1, h1, h2, h6, h7⟩, h3, h4.drew, h5⟩
    own := fun s Z W W' row N ⟨⟨p, x, e0, e1, h1, h2, h6, h7⟩, h3, h4, h5⟩ hg hr hN => by
      have h8 : ∀ r, row = some r → R2 < r := fun r e => h3 r (hr r e)
      refine ⟨⟨p, x, e0, e1, h1.lone hg (fun r e => by have := h8 r e; omega), h2.lone hg (fun r e => by have := h8 r e; omega), own_apart h6 hg (fun g hg2 e => h7 g hg2 (hr g e.symm)), fun g hg2 hk => ?_⟩, fun k hk => ?_, h4.grown hg (by have := h4.size; omega) (fun k e => by have := h8 k e; omega), Nat.lt_of_lt_of_le h5 hg.size⟩
      · rcases hk with hk | ⟨hk, _⟩
        · exact h7 g hg2 hk
        · have h9 := hN g hk
          have := (h6.lt _ hg2).2
          omega
      · rcases hk with hk | ⟨hk, _⟩
        · exact h3 k hk
        · have := hN k hk; omega }

theorem VL_put (x : LX) (Z : Nat → Prop) (W : World) (l : Nat) (o o' : Obj) (h : VL x Z W) (ho : W.heap[l]? = some o) (hc : o.isCells = false) : VL x Z (W.putObj l o') :=
  ⟨own_grown h.1 (grownBy_putObj' W l o') (fun r e => by cases e; exact ⟨o, ho, hc⟩), h.2⟩
theorem VLP_put {P : List Nat → Prop} (x : LX) (Z : Nat → Prop) (W : World) (l : Nat) (o o' : Obj) (h : VLP P x Z W) (ho : W.heap[l]? = some o) (hc : o.isCells = false) : VLP P x Z (W.putObj l o') :=
  ⟨VL_put x Z W l o o' h.1 ho hc, h.2⟩
theorem keepsOthers_belowL {W W' : World} (h : Below W.heap.size W W') : KeepsOthers W W' := ⟨h.size, fun k o hk _ => (h.block k (Array.getElem?_eq_some_iff.1 hk).1).trans hk⟩
theorem LdR.sep {ok : List (List Nat) → Prop} {H B R1 R2 : Nat} {w : World} (hH : H = w.heap.size) (h12 : R1 < R2) (h1 : H ≤ R1) (hB : R2 < B) (c : Code) : SepO B (fun pre Z W => c = .ret ∧ LdX ok H w R1 R2 pre Z W) :=
  let hx := LdX.sep (ok := ok) hH h12 h1 hB
  { grow := fun s Z W W' row h hg hr => ⟨h.1, hx.grow s Z W W' row h.2 hg hr⟩
    priv := fun s Z W r i u h hz => ⟨h.1, hx.priv s Z W r i u h.2 hz⟩
    take := fun s Z W o h => ⟨h.1, hx.take s Z W o h.2⟩
    draw := fun s Z W h => ⟨h.1, hx.draw s Z W h.2⟩
    own := fun s Z W W' row N h hg hr hN => ⟨h.1, hx.own s Z W W' row N h.2 hg hr hN⟩ }
theorem leadings_enters : ∀ args w, (callFunc 93 args).run Try.prog w = .ok (.enter 93 args) w := fun args w => enters_of Try.func93 (by kernel_rfl) rfl args w
end Go.Proofs.Ytkpiakoijkflmaa
