/-
  The reference's Size: the tables of all walks.
-/
import Derived.Test.YtibkhjbcagihbaaTrOrderRef
namespace Go.Proofs.Ytibkhjbcagihbaa
open Go.ChangeShapes Go.WideShapes Go.ChangeAt Go.RowKit Go.Shelf
set_option maxRecDepth 100000

theorem info_slice : (Try.prog.info? 40).map (fun i => (i.zero, i.size, i.bytes)) = some (some (.slice none 0 0), 1, 24) := by kernel_rfl

/-- The tables' slices. -/
def slcL (N : Nat) (gs : List Nat) : List Value := gs.map (fun g => Value.slice (some ⟨g, 0, none⟩) N N)
theorem slc_at {N : Nat} {gs : List Nat} {j g : Nat} (h : gs[j]? = some g) : (slcL N gs)[j]? = some (.slice (some ⟨g, 0, none⟩) N N) := by
  unfold slcL; rw [List.getElem?_map, h]; rfl

/-- What a walk does with each triad, as a table. -/
def walkT (n a b : Nat) (l : List Nat) : List Nat := tabL n (fun t => walkN n a b t l)

structure ASt (n a b : Nat) (w wr : World) (H lo : Nat) (v : Value) (L : St) (gs : List Nat) : Prop where
  box : wr.heap[H]? = some (rcells n a b)
  q : wr.ownsRow lo 40 1 v L.length (slcL (2 * n) gs)
  tabs : ∀ (i : Nat) (p : Nat × List Nat), L[i]? = some p → ∃ g, gs[i]? = some g ∧ Row wr g 3 (ints (walkT n a b p.2))
  glen : gs.length = L.length
  sep : ∀ g ∈ gs, g < wr.heap.size ∧ v.ownBlock ≠ some g ∧ H < g
  below : Below w.heap.size w wr
  h1 : w.heap.size ≤ H
  h2 : H < lo

theorem ASt.cells {n a b : Nat} {w wr : World} {H lo : Nat} {v : Value} {L : St} {gs : List Nat} (h : ASt n a b w wr H lo v L gs) : wr.cell? ⟨H, 0, none⟩ = some (.int .i64 n) ∧ wr.cell? ⟨H, 1, none⟩ = some (.int .i64 a) ∧ wr.cell? ⟨H, 2, none⟩ = some (.int .i64 b) := by
  refine ⟨?_, ?_, ?_⟩ <;> simp [World.cell?, h.box]

theorem ASt.later {n a b : Nat} {w wr w' : World} {H lo : Nat} {v : Value} {L : St} {gs : List Nat} (h : ASt n a b w wr H lo v L gs) (hb : Below wr.heap.size wr w') : ASt n a b w w' H lo v L gs :=
  { h with
    box := (hb.block _ (Array.getElem?_eq_some_iff.1 h.box).1).trans h.box
    q := h.q.kept (row := none) ⟨hb.os, hb.tape, hb.output, hb.size, fun i hi _ => hb.block i hi⟩ (by cases v.ownBlock <;> simp)
    tabs := fun i p hp => by
      obtain ⟨g, hg, hr⟩ := h.tabs i p hp
      exact ⟨g, hg, hr.later hb⟩
    sep := fun g hg => ⟨Nat.lt_of_lt_of_le (h.sep g hg).1 hb.size, (h.sep g hg).2⟩
    below := h.below.trans (hb.mono h.below.size) }

/-- A store into a block that is none of these. -/
theorem ASt.apart {n a b : Nat} {w wr : World} {H lo : Nat} {v : Value} {L : St} {gs : List Nat} (h : ASt n a b w wr H lo v L gs) {g : Nat} (hg : g ∉ gs) (hH : H < g) (hv : v.ownBlock ≠ some g) (i : Nat) (u : Value) :
    ASt n a b w (wr.setCell ⟨g, i, none⟩ u) H lo v L gs :=
  { h with
    box := (Below.heap_setCell wr ⟨g, i, none⟩ _ H (by simp; omega)).trans h.box
    q := h.q.kept (row := some g) ⟨rfl, rfl, rfl, by simp [World.setCell], fun k _ hne => Below.heap_setCell wr ⟨g, i, none⟩ u k (fun e => hne (by rw [e]))⟩ (Or.inr hv)
    tabs := fun j p hp => by
      obtain ⟨g', hg', hr⟩ := h.tabs j p hp
      exact ⟨g', hg', hr.other (fun e => hg (by rw [← e]; exact List.mem_of_getElem? hg')) u⟩
    sep := fun g' hg' => ⟨by have := (h.sep g' hg').1; simpa [World.setCell] using this, (h.sep g' hg').2⟩
    below := h.below.setCell (p := ⟨g, i, none⟩) (by have := h.h1; show w.heap.size ≤ g; omega) u }

/-- A table more. -/
theorem ASt.push {n a b : Nat} {w wr w' : World} {H lo : Nat} {v v' : Value} {L : St} {gs : List Nat} (h : ASt n a b w wr H lo v L gs) (p : Nat × List Nat) {g : Nat} (hH : H < g) (hv : v.ownBlock ≠ some g)
    (hr : Row wr g 3 (ints (walkT n a b p.2))) (o : Obj)
    (hown : w'.ownsRow lo 40 1 v' (L.length + 1) (slcL (2 * n) gs ++ [.slice (some ⟨g, 0, none⟩) (2 * n) (2 * n)])) (hg : (wr.alloc o).grownBy w' v.ownBlock)
    (hob : v'.ownBlock = v.ownBlock ∨ v'.ownBlock = some (wr.alloc o).heap.size) : ASt n a b w w' H lo v' (L ++ [p]) (gs ++ [g]) := by
  have hlt : ∀ k, v.ownBlock = some k → lo ≤ k := fun k e => (h.q.lt k e).1
  have k1 := h.h1
  have k2 := h.h2
  have hbx := (Array.getElem?_eq_some_iff.1 h.box).1
  have hsz := hg.size
  rw [World.size_alloc] at hsz
  have hne : ∀ k, k < wr.heap.size → v.ownBlock ≠ some k → v'.ownBlock ≠ some k := by
    intro k hk hk2
    rcases hob with e | e
    · rw [e]; exact hk2
    · rw [e, World.size_alloc]; intro e2; have := Option.some.inj e2; omega
  refine ⟨?_, ?_, ?_, ?_, ?_, ?_, k1, k2⟩
  · refine (hg.block H (by rw [World.size_alloc]; omega) (fun e => by have := hlt _ e.symm; omega)).trans ?_
    exact (Below.heap_alloc _ _ _ hbx).trans h.box
  · rw [List.length_append]
    unfold slcL at hown ⊢
    rw [List.map_append]
    exact hown
  · intro i q hq
    by_cases hi : i < L.length
    · rw [List.getElem?_append_left hi] at hq
      obtain ⟨g', hg', hr'⟩ := h.tabs i q hq
      refine ⟨g', by rw [List.getElem?_append_left (by rw [h.glen]; exact hi)]; exact hg', (hr'.alloc o).grown hg ?_⟩
      intro e
      exact (h.sep g' (List.mem_of_getElem? hg')).2.1 e.symm
    · have hi2 := (List.getElem?_eq_some_iff.1 hq).1
      rw [List.length_append, List.length_singleton] at hi2
      obtain rfl : i = L.length := by omega
      rw [List.getElem?_append_right (Nat.le_refl _), Nat.sub_self] at hq
      simp at hq; subst hq
      refine ⟨g, by rw [List.getElem?_append_right (by rw [h.glen]; exact Nat.le_refl _), h.glen, Nat.sub_self]; rfl, (hr.alloc o).grown hg (fun e => hv e.symm)⟩
  · rw [List.length_append, List.length_append, h.glen]; rfl
  · intro g' hg'
    rcases List.mem_append.1 hg' with hm | hm
    · obtain ⟨s1, s2, s3⟩ := h.sep g' hm
      exact ⟨by omega, hne g' s1 s2, s3⟩
    · rw [List.mem_singleton] at hm; subst hm
      exact ⟨by have := hr.lt; omega, hne g' hr.lt hv, hH⟩
  · exact (h.below.alloc h.below.size o).grown hg (by have := h.below.size; rw [World.size_alloc]; omega) (fun j hj => by have := hlt j hj; omega)

/-- The first table. -/
theorem ASt.start {n a b : Nat} {w wr : World} {H : Nat} (h : TSt n a b w wr H (H + 1) (fun t => t)) :
    ASt n a b w (wr.alloc (.cells #[.slice (some ⟨H + 1, 0, none⟩) (2 * n) (2 * n)] 40)) H (H + 2) (.slice (some ⟨wr.heap.size, 0, none⟩) 1 1) [(0, [])] [H + 1] := by
  have hl := h.tab.lt
  refine ⟨(Below.heap_alloc _ _ H (by omega)).trans h.box, ?_, ?_, rfl, ?_, h.below.alloc h.below.size _, h.h1, by omega⟩
  · exact World.ownsRow_lit (base := H + 2) (e := 40) (size := 1) wr #[.slice (some ⟨H + 1, 0, none⟩) (2 * n) (2 * n)] 1 (by omega) (by unfold maxLen; omega) rfl
  · intro i p hp
    cases i with
    | zero =>
      simp at hp; subst hp
      exact ⟨H + 1, rfl, h.tab.alloc _⟩
    | succ i => simp at hp
  · intro g hg
    rw [List.mem_singleton] at hg; subst hg
    refine ⟨by rw [World.size_alloc]; omega, ?_, by omega⟩
    intro e
    have := Option.some.inj e
    have e2 : wr.heap.size = H + 1 := this
    omega

/-- Two tables are the same exactly if they begin alike. -/
theorem walkT_same {n a b : Nat} (hk : KOk n a b) (l m : List Nat) : (∀ t, t < 2 * n → walkN n a b t l = walkN n a b t m) ↔ walkN n a b 0 l = walkN n a b 0 m := by
  have hn := hk.pos
  constructor
  · intro h; exact h 0 (by omega)
  · intro h t ht; exact walk_same hk (t := 0) (by omega) h t ht
def sameTo (n a b : Nat) (l m : List Nat) (k : Nat) : Bool := (List.range k).all (fun t => walkN n a b t l == walkN n a b t m)
theorem sameTo_succ (n a b : Nat) (l m : List Nat) (k : Nat) : sameTo n a b l m (k + 1) = (sameTo n a b l m k && (walkN n a b k l == walkN n a b k m)) := by
  unfold sameTo; rw [List.range_succ, List.all_append]; simp
theorem sameTo_all {n a b : Nat} (hk : KOk n a b) (l m : List Nat) : sameTo n a b l m (2 * n) = (walkN n a b 0 l == walkN n a b 0 m) := by
  rw [Bool.eq_iff_iff, beq_iff_eq, ← walkT_same hk]
  unfold sameTo
  rw [List.all_eq_true]
  constructor
  · intro h t ht; have := h t (List.mem_range.2 ht); rwa [beq_iff_eq] at this
  · intro h t ht; rw [beq_iff_eq]; exact h t (List.mem_range.1 ht)
def oldTo (L : St) (t j : Nat) : Bool := (L.take j).any (fun p => p.1 == t)
theorem oldTo_succ {L : St} {j : Nat} {p : Nat × List Nat} (h : L[j]? = some p) (t : Nat) : oldTo L t (j + 1) = (oldTo L t j || p.1 == t) := by
  unfold oldTo
  rw [List.take_add_one, h, Option.toList_some, List.any_append]; simp
theorem oldTo_all {L : St} {j : Nat} (h : L.length ≤ j) (t : Nat) : oldTo L t j = hasK L t := by
  unfold oldTo hasK; rw [List.take_of_length_le h]
end Go.Proofs.Ytibkhjbcagihbaa
