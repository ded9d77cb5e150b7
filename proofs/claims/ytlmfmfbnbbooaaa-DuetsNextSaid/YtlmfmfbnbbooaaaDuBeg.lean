/-
  The iterator over all beginnings that keep the rules: what holds within a range over the longer ones.
-/
import Derived.Test.YtlmfmfbnbbooaaaDuIter
namespace Go.Proofs.Ytlmfmfbnbbooaaa
open Go.RowKit Go.Shelf Go.ChangeShapes Go.WideShapes Go.ChangeAt
set_option maxRecDepth 100000

/-- What holds between the rounds of the range within extend: the outer invariant K, of the outer iterator's blocks and the inner one's. -/
def BHold (K : List DX → (Nat → Prop) → World → Prop) (Z : Nat → Prop) (H B0 : Nat) (S : Nat → Prop) (W : World) (ok : List DX → List DX → Prop) (pre : List DX) (pre' : List DX) (Z' : Nat → Prop) (V : World) : Prop :=
  ∃ (add : List DX) (ZB : Nat → Prop), ((∀ k, Z k → ZB k) ∧ (∀ k, H ≤ k → k < H + 3 → ZB k) ∧ (∀ k, ZB k → k < V.heap.size ∧ (Z k ∨ H ≤ k))) ∧ K (pre ++ add) (fun k => ZB k ∨ Z' k) V ∧ ok pre' add ∧
    (KeepsFrom B0 W V ∧ KeptOn Z W V ∧ KeptOn S W V) ∧ Row V H 4 [.bool false] ∧ (∀ k, Z' k → H + 3 ≤ k ∧ k < V.heap.size) ∧ H + 3 ≤ V.heap.size

theorem keepsFrom_grown {B : Nat} {W V V' : World} {row : Option Nat} (h : KeepsFrom B W V) (hg : V.grownBy V' row) (hr : ∀ r, row = some r → W.heap.size ≤ r) : KeepsFrom B W V' :=
  ⟨Nat.le_trans h.size hg.size, fun k o hk ho hc => by
    have h1 := h.same k o hk ho hc
    have h2 := (Array.getElem?_eq_some_iff.1 ho).1
    exact (hg.block k (Array.getElem?_eq_some_iff.1 h1).1 (fun e => by have := hr k e.symm; omega)).trans h1⟩
theorem keepsFrom_mono {B B' : Nat} {W V : World} (h : KeepsFrom B W V) (hB : B ≤ B') : KeepsFrom B' W V := ⟨h.size, fun k o hk ho hc => h.same k o (by omega) ho hc⟩
theorem keepsFrom_below {B : Nat} {W V : World} (h : Below W.heap.size W V) : KeepsFrom B W V := ⟨h.size, fun k o _ ho _ => (h.block k (Array.getElem?_eq_some_iff.1 ho).1).trans ho⟩
theorem keptOn_mono {S S' : Nat → Prop} {W W' : World} (h : KeptOn S W W') (hs : ∀ k, S' k → S k) : KeptOn S' W W' := ⟨h.size, fun k hk => h.block k (hs k hk)⟩
theorem alloc_grown (V : World) (o : Obj) : V.grownBy (V.alloc o) none := ⟨rfl, rfl, rfl, by rw [World.size_alloc]; exact Nat.le_succ _, fun k hk _ => Below.heap_alloc V o k hk⟩
theorem set_grown (W : World) (r i : Nat) (u : Value) : W.grownBy (W.setCell ⟨r, i, none⟩ u) (some r) :=
  ⟨rfl, rfl, rfl, by simp [World.setCell], fun k _ hne => Below.heap_setCell W ⟨r, i, none⟩ u k (fun e => hne (by rw [e]))⟩
theorem Row.alone {W W' : World} {row : Option Nat} {b : Nat} {t : TypeId} {vs : List Value} (h : Row W b t vs) (hg : W.grownBy W' row) (hne : ∀ r, row = some r → b ≠ r) : Row W' b t vs :=
  (hg.block b h.lt (fun e => hne b e.symm rfl)).trans h

theorem BHold.step {K : List DX → (Nat → Prop) → World → Prop} {Z S : Nat → Prop} {H B0 : Nat} {W : World} {ok : List DX → List DX → Prop} {pre pre' : List DX} {Z' Z'' : Nat → Prop} {V V' : World} {row : Option Nat}
    (hW : W.heap.size = H) (hZ : ∀ k, Z k → k < H) (hS : ∀ k, S k → k < H) (h : BHold K Z H B0 S W ok pre pre' Z' V) (hg : V.grownBy V' row) (hr : ∀ r, row = some r → H + 3 ≤ r) (hz : ∀ k, Z'' k → H + 3 ≤ k ∧ k < V'.heap.size)
    (hK : ∀ (s : List DX) (A : Nat → Prop), K s (fun k => A k ∨ Z' k) V → (∀ k, A k → k < V.heap.size) → K s (fun k => A k ∨ Z'' k) V') : BHold K Z H B0 S W ok pre pre' Z'' V' := by
  obtain ⟨add, ZB, ⟨z1, z2, z3⟩, h1, h2, ⟨h3, h4, h5⟩, h6, h7, h8⟩ := h
  refine ⟨add, ZB, ⟨z1, z2, fun k hk => ⟨Nat.lt_of_lt_of_le (z3 k hk).1 hg.size, (z3 k hk).2⟩⟩, hK _ _ h1 (fun k hk => (z3 k hk).1), h2, ⟨keepsFrom_grown h3 hg (fun r e => by have := hr r e; omega), ?_, ?_⟩, h6.alone hg (fun r e => by have := hr r e; omega), hz, Nat.le_trans h8 hg.size⟩
  · exact h4.grown hg (fun k hk => by have := hZ k hk; omega) (fun k e hk => by have := hr k e; have := hZ k hk; omega)
  · exact h5.grown hg (fun k hk => by have := hS k hk; omega) (fun k e hk => by have := hr k e; have := hS k hk; omega)

theorem BHold.sep {K : List DX → (Nat → Prop) → World → Prop} {Z S : Nat → Prop} {H B0 : Nat} {W : World} {ok : List DX → List DX → Prop} {pre : List DX} (hK : SepO B0 K) (hW : W.heap.size = H) (hB : B0 ≤ H) (hZ : ∀ k, Z k → k < H) (hS : ∀ k, S k → k < H) : SepO (H + 3) (BHold K Z H B0 S W ok pre) :=
  { grow := fun s Z' V V' row h hg hr => by
      have h7 := h
      obtain ⟨_, _, _, _, _, _, _, hz, _⟩ := h7
      exact h.step hW hZ hS hg (fun r e => (hr r e).1) (fun k hk => ⟨(hz k hk).1, Nat.lt_of_lt_of_le (hz k hk).2 hg.size⟩) (fun s A hk hA => hK.grow s _ V V' row hk hg (fun r e => ⟨by have := (hr r e).1; omega, (hr r e).2⟩))
    priv := fun s Z' V r i u h hz' => by
      have h7 := h
      obtain ⟨_, _, _, _, _, _, _, hz, _⟩ := h7
      exact h.step hW hZ hS (set_grown V r i u) (fun r' e => by cases e; exact (hz r hz').1) (fun k hk => ⟨(hz k hk).1, by have := (hz k hk).2; simpa [World.setCell] using this⟩) (fun s A hk hA => hK.priv s _ V r i u hk (.inr hz'))
    take := fun s Z' V o h => by
      have h7 := h
      obtain ⟨_, _, _, _, _, _, _, hz, hsz⟩ := h7
      refine h.step hW hZ hS (alloc_grown V o) (fun r e => by cases e) (fun k hk => ?_) (fun s A hk hA => ?_)
      · rw [World.size_alloc]
        rcases hk with hk | rfl
        · have := hz k hk; omega
        · omega
      · have := hK.take s _ V o hk
        rwa [show (fun k => (A k ∨ Z' k) ∨ k = V.heap.size) = (fun k => A k ∨ (Z' k ∨ k = V.heap.size)) from pred_ext fun k => or_assoc] at this
    draw := fun s Z' V ⟨add, ZB, z, h1, h2, ⟨h3, h4, h5⟩, h6, h7, h8⟩ => ⟨add, ZB, z, hK.draw _ _ V h1, h2, ⟨⟨h3.size, h3.same⟩, h4.drew, h5.drew⟩, h6, h7, h8⟩
    own := fun s Z' V V' row N h hg hr hN => by
      have h7 := h
      obtain ⟨_, _, _, _, _, _, _, hz, hsz⟩ := h7
      refine h.step hW hZ hS hg (fun r e => (hz r (hr r e)).1) (fun k hk => ?_) (fun s A hk hA => ?_)
      · have hgs := hg.size
        rcases hk with hk | ⟨hk, hk2⟩
        · have := hz k hk; omega
        · have := hN k hk; omega
      · have := hK.own s _ V V' row N hk hg (fun r e => .inr (hr r e)) hN
        rwa [show (fun k => (A k ∨ Z' k) ∨ (N k ∧ k < V'.heap.size)) = (fun k => A k ∨ (Z' k ∨ (N k ∧ k < V'.heap.size))) from pred_ext fun k => or_assoc] at this }

/-- How extend ends. -/
def BEnds (J Jx : List DX → (Nat → Prop) → World → Prop) (pre : List DX) (Z : Nat → Prop) (W : World) (all : List (List Int)) (e : Ending) (W' : World) : Prop :=
  ∃ (Z' : Nat → Prop) (add : List DX), ((∀ k, Z k → Z' k) ∧ (∀ k, Z' k → k < W'.heap.size) ∧ (∀ k, Z' k → Z k ∨ W.heap.size ≤ k)) ∧
    ((e = .returned (.bool true) ∧ add.map Prod.fst = all ∧ J (pre ++ add) Z' W') ∨ (e = .returned (.bool false) ∧ (∃ q, all = add.map Prod.fst ++ q) ∧ Jx (pre ++ add) Z' W'))

def extF (gB yB eB : Nat) : Value := .func (.func 123) #[] #[.pointer (some ⟨gB, 0, none⟩), .pointer (some ⟨yB, 0, none⟩), .pointer (some ⟨eB, 0, none⟩)]
/-- The contract of extend, so many notes before the end. -/
def ExtAt (gs : List Int) (gv : Value) (gB yB eB l B0 N : Nat) (P : List Int → Prop) (S : Nat → Prop) (J Jx : List DX → (Nat → Prop) → World → Prop) (f : Nat) : Prop :=
  ∀ (b : List Int) (bv : Value) (pre : List DX) (Z : Nat → Prop) (W : World), b.length + f = gs.length → notesB b = true → pre.length + 22 ^ f ≤ N → (∀ m ∈ begL gs f b, P m) → B0 ≤ W.heap.size →
    W.cell? ⟨yB, 0, none⟩ = some (.func (.yield l) #[] #[]) → W.cell? ⟨eB, 0, none⟩ = some (extF gB yB eB) → W.cell? ⟨gB, 0, none⟩ = some gv → IntsV W gv gs → IntsV W bv b →
    (∀ a m c, bv = .slice (some a) m c → Z a.block) → Z yB → Z eB → (∀ k, Z k → k < W.heap.size) → J pre Z W →
    Calls Try.prog 123 #[bv, .pointer (some ⟨gB, 0, none⟩), .pointer (some ⟨yB, 0, none⟩), .pointer (some ⟨eB, 0, none⟩)] W fun e W' =>
      KeepsFrom B0 W W' ∧ KeptOn Z W W' ∧ KeptOn S W W' ∧ BEnds J Jx pre Z W (begL gs f b) e W'

theorem longer_enters : ∀ args w, (callFunc 121 args).run Try.prog w = .ok (.enter 121 args) w := fun args w => enters_of Try.func121 (by kernel_rfl) rfl args w
end Go.Proofs.Ytlmfmfbnbbooaaa
