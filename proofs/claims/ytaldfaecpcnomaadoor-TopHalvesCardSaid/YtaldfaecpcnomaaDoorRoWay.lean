/-
  way, Way: how one row, or a part of one, becomes another one.
-/
import Derived.Test.YtaldfaecpcnomaaDoorRoIter
import Derived.Test.YtaldfaecpcnomaaDoorSepA
import Derived.Test.YtaldfaecpcnomaaDoorRoFollowLaw
namespace Go.Proofs.YtaldfaecpcnomaaDoor
open Go.ChangeShapes Go.WideShapes Go.ChangeAt Go.RowKit Go.Shelf
attribute [local go_sem] Oper.semAt_some
set_option maxRecDepth 100000

/-- The number of the first form that is another list. -/
def wayT (n : Nat) (ys bs : List Nat) : Option Nat := (List.range (4 * n)).find? (fun t => decide (formL n (t / n) (t % n) ys = bs))
def wayV (n : Nat) : Option Nat → Value
  | none => .tuple #[.agg #[.int .i64 0, .int .i64 0], .int .i64 4]
  | some t => .tuple #[.agg #[.int .i64 ((t / n : Nat) : Int), .int .i64 ((t % n : Nat) : Int)], .int .i64 0]

theorem forms_enters : ∀ args w, (callFunc 25 args).run Tryd.prog w = .ok (.enter 25 args) w := fun args w => enters_of Tryd.func25 (by kernel_rfl) rfl args w

/-- What holds between the rounds: no form so far is the other list; the boxes. -/
def WayI (n : Nat) (ys bs : List Nat) (bv : Value) (H : Nat) (w : World) (pre : List FX) (Z : Nat → Prop) (W : World) : Prop :=
  (∀ x ∈ pre, formL n x.1 x.2.1 ys ≠ bs) ∧ (Row W (H + 1) 38 [.int .i64 0, .int .i64 0] ∧ Row W (H + 1 + 1) 25 [.int .i64 0] ∧ Row W H 22 [bv]) ∧ (∀ k, Z k → H + 5 ≤ k) ∧ Below H w W ∧ H + 5 ≤ W.heap.size
/-- What holds where it ends early. -/
def WayX (n : Nat) (ys bs : List Nat) (H : Nat) (w : World) (pre : List FX) (Z : Nat → Prop) (W : World) : Prop :=
  (∃ p x, pre = p ++ [x] ∧ (∀ y ∈ p, formL n y.1 y.2.1 ys ≠ bs) ∧ formL n x.1 x.2.1 ys = bs ∧ Row W (H + 1) 38 [.int .i64 (x.1 : Int), .int .i64 (x.2.1 : Int)] ∧ Row W (H + 1 + 1) 25 [.int .i64 0]) ∧ (∀ k, Z k → H + 5 ≤ k) ∧ Below H w W ∧ H + 5 ≤ W.heap.size

theorem WayI.sep {n : Nat} {ys bs : List Nat} {bv : Value} {H B : Nat} {w : World} (hH : H = w.heap.size) (hB : H + 5 ≤ B) : Sep B (WayI n ys bs bv H w) :=
  { grow := fun s Z W W' row ⟨h0, ⟨h1, h2, h2'⟩, h3, h4, h5⟩ hg hr => ⟨h0, ⟨h1.kept hg (fun r e => (hr r e).2), h2.kept hg (fun r e => (hr r e).2), h2'.kept hg (fun r e => (hr r e).2)⟩, h3, h4.grown hg (by omega) (fun k e => by have := (hr k e).1; omega), Nat.le_trans h5 hg.size⟩
    priv := fun s Z W r i u ⟨h0, ⟨h1, h2, h2'⟩, h3, h4, h5⟩ hz => by
      have h6 := h3 r hz
      exact ⟨h0, ⟨h1.other (by omega) u, h2.other (by omega) u, h2'.other (by omega) u⟩, h3, h4.setCell (p := ⟨r, i, none⟩) (show H ≤ r by omega) u, by simpa [World.setCell] using h5⟩
    take := fun s Z W o ⟨h0, ⟨h1, h2, h2'⟩, h3, h4, h5⟩ => ⟨h0, ⟨h1.alloc o, h2.alloc o, h2'.alloc o⟩, fun k hk => by
      rcases hk with hk | rfl
      · exact h3 k hk
      · exact h5, h4.alloc (by omega) o, by rw [World.size_alloc]; omega⟩
    draw := fun s Z W ⟨h0, ⟨h1, h2, h2'⟩, h3, h4, h5⟩ => ⟨h0, ⟨h1, h2, h2'⟩, h3, h4.drew, h5⟩ }
theorem keepsOthers_below {W W' : World} (h : Below W.heap.size W W') : KeepsOthers W W' := ⟨h.size, fun k o hk _ => (h.block k (Array.getElem?_eq_some_iff.1 hk).1).trans hk⟩
theorem cell_put {W : World} {a : Addr} {v : Value} {l : Nat} {o : Obj} (o' : Obj) (h : W.cell? a = some v) (ho : W.heap[l]? = some o) (hc : o.isCells = false) : (W.putObj l o').cell? a = some v :=
  cell_kept h (grownBy_putObj' W l o') (fun r e => by cases e; exact ⟨_, ho, hc⟩)

theorem WayX.sep {n : Nat} {ys bs : List Nat} {H B : Nat} {w : World} (hH : H = w.heap.size) (hB : H + 5 ≤ B) : Sep B (WayX n ys bs H w) :=
  { grow := fun s Z W W' row ⟨⟨p, x, e1, e2, e3, h1, h2⟩, h3, h4, h5⟩ hg hr => ⟨⟨p, x, e1, e2, e3, h1.kept hg (fun r e => (hr r e).2), h2.kept hg (fun r e => (hr r e).2)⟩, h3, h4.grown hg (by omega) (fun k e => by have := (hr k e).1; omega), Nat.le_trans h5 hg.size⟩
    priv := fun s Z W r i u ⟨⟨p, x, e1, e2, e3, h1, h2⟩, h3, h4, h5⟩ hz => by
      have h6 := h3 r hz
      exact ⟨⟨p, x, e1, e2, e3, h1.other (by omega) u, h2.other (by omega) u⟩, h3, h4.setCell (p := ⟨r, i, none⟩) (show H ≤ r by omega) u, by simpa [World.setCell] using h5⟩
    take := fun s Z W o ⟨⟨p, x, e1, e2, e3, h1, h2⟩, h3, h4, h5⟩ => ⟨⟨p, x, e1, e2, e3, h1.alloc o, h2.alloc o⟩, fun k hk => by
      rcases hk with hk | rfl
      · exact h3 k hk
      · exact h5, h4.alloc (by omega) o, by rw [World.size_alloc]; omega⟩
    draw := fun s Z W ⟨⟨p, x, e1, e2, e3, h1, h2⟩, h3, h4, h5⟩ => ⟨⟨p, x, e1, e2, e3, h1, h2⟩, h3, h4.drew, h5⟩ }

theorem way_some {n : Nat} {ys bs : List Nat} {pre p : List FX} {x : FX} {m : Nat} (e1 : pre = p ++ [x]) (e2 : ∀ y ∈ p, formL n y.1 y.2.1 ys ≠ bs) (e3 : formL n x.1 x.2.1 ys = bs) (hpre : pre.map nm = namesL n (m + 1)) (hm : m < 4 * n) :
    ∃ t, wayT n ys bs = some t ∧ t / n = x.1 ∧ t % n = x.2.1 := by
  subst e1
  rw [List.map_append, namesL_succ] at hpre
  have hl : (p.map nm).length = (namesL n m).length := by
    have := congrArg List.length hpre
    simpa using this
  obtain ⟨hp, hx⟩ := List.append_inj hpre hl
  have hx' : nm x = nmT n m := by simpa using hx
  have x1 : m / n = x.1 := (congrArg Prod.fst hx').symm
  have x2 : m % n = x.2.1 := (congrArg Prod.snd hx').symm
  refine ⟨m, ?_, x1, x2⟩
  unfold wayT
  rw [List.find?_eq_some_iff_append]
  refine ⟨by rw [decide_eq_true_eq, x1, x2]; exact e3, List.range m, (List.range (4 * n - (m + 1))).map (fun i => m + 1 + i), ?_, ?_⟩
  · rw [← List.singleton_append, ← List.append_assoc, ← List.range_succ, ← List.range_add]
    congr 1
    omega
  · intro t ht
    rw [List.mem_range] at ht
    have hmem : nmT n t ∈ p.map nm := by rw [hp]; exact List.mem_map.2 ⟨t, List.mem_range.2 ht, rfl⟩
    obtain ⟨y, hy, e⟩ := List.mem_map.1 hmem
    have y1 : y.1 = t / n := congrArg Prod.fst e
    have y2 : y.2.1 = t % n := congrArg Prod.snd e
    have := e2 y hy
    rw [y1, y2] at this
    simpa using this

end Go.Proofs.YtaldfaecpcnomaaDoor
