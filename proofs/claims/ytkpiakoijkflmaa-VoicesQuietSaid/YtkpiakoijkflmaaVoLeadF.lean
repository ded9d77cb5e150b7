/-
  The leadings with the least cost are those of all leadings, in the same order; the first of them is the first of the cheapest. Plain mathematics.
-/
import Derived.Test.YtkpiakoijkflmaaVoLds
import Derived.Test.YtkpiakoijkflmaaVoCostR
import Derived.Test.YtkpiakoijkflmaaVoLdsSeq
namespace Go.Proofs.Ytkpiakoijkflmaa

section
theorem flatMap_filter' {α β : Type} (q : α → Bool) (g : α → List β) : ∀ l : List α, (l.filter q).flatMap g = l.flatMap fun a => if q a then g a else []
  | [] => rfl
  | a :: l => by
    rw [List.filter_cons, List.flatMap_cons, ← flatMap_filter' q g l]
    by_cases h : q a = true
    · rw [if_pos h, if_pos h, List.flatMap_cons]
    · rw [if_neg h, if_neg h, List.nil_append]
theorem flatMap_congr' {α β : Type} {f g : α → List β} : ∀ {l : List α}, (∀ a ∈ l, f a = g a) → l.flatMap f = l.flatMap g
  | [], _ => rfl
  | a :: l, h => by rw [List.flatMap_cons, List.flatMap_cons, h a (by simp), flatMap_congr' (l := l) (fun b hb => h b (by simp [hb]))]
theorem leadL_pre {k : Nat} : ∀ {f : Nat} {c l : List Nat}, l ∈ leadL k f c → ∃ m, l = c ++ m
  | 0, c, l, h => ⟨[], by simpa [leadL] using h⟩
  | f + 1, c, l, h => by
    obtain ⟨x, _, hx⟩ := List.mem_flatMap.1 h
    by_cases e : x ∈ c
    · simp [e] at hx
    · simp only [e, if_false] at hx
      obtain ⟨m, rfl⟩ := leadL_pre hx
      exact ⟨x :: m, by simp⟩

theorem lds_filter {n : Nat} {bs : List Nat} : ∀ (us : List Nat) (T : Nat) (cur : List Nat), (∀ p, T.testBit p = decide (p ∈ cur)) → (∀ y ∈ cur, y < bs.length) → cur.Nodup →
    lds n bs us T cur = (leadL bs.length us.length cur).filter (fun l => decide (prT n bs us (l.drop cur.length) = costT n bs us T))
  | [], T, cur, _, _, _ => by simp [lds, leadL, prT, costT]
  | x :: us, T, cur, hT, hlt, hnd => by
    rw [lds_cons, List.length_cons]
    unfold ldsTo freeP leadL
    rw [flatMap_filter', List.filter_flatMap]
    refine flatMap_congr' fun p hp => ?_
    rw [List.mem_range] at hp
    by_cases hc : p ∈ cur
    · have ht : T.testBit p = true := by rw [hT]; exact decide_eq_true hc
      simp [ht, hc]
    · have ht : T.testBit p = false := by rw [hT]; exact decide_eq_false hc
      rw [ht, if_pos (show (!false) = true from rfl), if_neg hc]
      have hT' : ∀ q, (T ||| 1 <<< p).testBit q = decide (q ∈ cur ++ [p]) := fun q => by
        rw [Nat.testBit_or, hT, testBit_one_shl]
        by_cases e : p = q
        · subst e; simp
        · have e' : ¬ q = p := fun h => e h.symm
          simp [e, e']
      have hnd' : (cur ++ [p]).Nodup := by rw [List.nodup_append]; exact ⟨hnd, by simp, fun a ha b hb e => by rw [List.mem_singleton] at hb; subst hb; subst e; exact hc ha⟩
      have hlt' : ∀ y ∈ cur ++ [p], y < bs.length := fun y hy => by
        rcases List.mem_append.1 hy with h | h
        · exact hlt y h
        · rw [List.mem_singleton] at h; omega
      have hmin : costT n bs (x :: us) T ≤ dsN n x (bs[p]?.getD 0) + costT n bs us (T ||| 1 <<< p) := by
        rw [costT_cons]
        have hm : dsN n x (bs[p]?.getD 0) + costT n bs us (T ||| 1 <<< p) ∈ tryL n bs x us T bs.length := List.mem_map.2 ⟨p, freeP_mem.2 ⟨hp, ht⟩, rfl⟩
        cases e : minS (tryL n bs x us T bs.length) with
        | none => simp
        | some m => exact (minS_some e).2 _ hm
      have hpr : ∀ l ∈ leadL bs.length us.length (cur ++ [p]), prT n bs (x :: us) (l.drop cur.length) = dsN n x (bs[p]?.getD 0) + prT n bs us (l.drop (cur ++ [p]).length) ∧ costT n bs us (T ||| 1 <<< p) ≤ prT n bs us (l.drop (cur ++ [p]).length) := fun l hl => by
        obtain ⟨m, rfl⟩ := leadL_pre hl
        obtain ⟨h1, h2, h3⟩ := leadL_mem hlt' hnd' hl
        have e1 : ((cur ++ [p]) ++ m).drop (cur ++ [p]).length = m := List.drop_left
        have e2 : ((cur ++ [p]) ++ m).drop cur.length = p :: m := by rw [List.append_assoc, List.drop_left]; rfl
        rw [e1, e2]
        refine ⟨rfl, cost_le ?_ ⟨(List.nodup_append.1 h3).2.1, fun q hq => ⟨h2 q (List.mem_append.2 (.inr hq)), ?_⟩⟩⟩
        · rw [List.length_append] at h1; omega
        · rw [hT']
          refine decide_eq_false (fun h => ?_)
          exact (List.nodup_append.1 h3).2.2 q h q hq rfl
      unfold ldsAt
      by_cases hcost : dsN n x (bs[p]?.getD 0) + costT n bs us (T ||| 1 <<< p) = costT n bs (x :: us) T
      · rw [if_pos hcost, lds_filter us _ _ hT' hlt' hnd']
        refine List.filter_congr fun l hl => ?_
        obtain ⟨h1, _⟩ := hpr l hl
        rw [h1, ← hcost, decide_eq_decide]
        omega
      · rw [if_neg hcost, eq_comm, List.filter_eq_nil_iff]
        intro l hl
        obtain ⟨h1, h2⟩ := hpr l hl
        rw [h1, decide_eq_true_eq]
        omega

theorem best_head {pr : List Nat → Nat} (ls : List (List Nat)) : ∀ b, bestL pr ls = some b → (ls.filter (fun l => decide (pr l = pr b))).head? = some b := by
  refine snoc_ind (P := fun ls => ∀ b, bestL pr ls = some b → (ls.filter (fun l => decide (pr l = pr b))).head? = some b) (by simp [bestL]) (fun l x ih b h => ?_) ls
  rw [bestL_snoc] at h
  cases e : bestL pr l with
  | none =>
    rw [e] at h
    have h' : x = b := by simpa using h
    have := (bestL_none pr l).1 e
    subst this h'
    simp
  | some k =>
    rw [e] at h
    obtain ⟨h1, h2⟩ := bestL_some _ _ k e
    rw [List.filter_append]
    by_cases hx : pr x < pr k
    · have : x = b := by simpa [hx] using h
      subst this
      have hn : l.filter (fun y => decide (pr y = pr x)) = [] := by
        rw [List.filter_eq_nil_iff]
        intro y hy
        have := h2 y hy
        rw [decide_eq_true_eq]; omega
      rw [hn]
      simp
    · have : k = b := by simpa [hx] using h
      subst this
      rw [List.head?_append, ih k e]
      rfl
theorem leads_filter (n : Nat) (us bs : List Nat) (hl : us.length = bs.length) : lds n bs us 0 [] = (leadL us.length us.length []).filter (fun l => decide (prT n bs us l = costN n us bs)) := by
  rw [lds_filter us 0 [] (fun p => by simp) (by simp) List.nodup_nil, hl]
  rfl
theorem leads_head {n : Nat} {us bs : List Nat} (hv : Vc n us bs) : ∃ l, (lds n bs us 0 []).head? = some l ∧ bestL (prT n bs us) (leadL us.length us.length []) = some l ∧ l.length = us.length ∧ Fits us.length 0 l ∧ prT n bs us l = costN n us bs := by
  obtain ⟨l, h1, h2, h3, h4⟩ := lead_best hv
  refine ⟨l, ?_, h1, h2, h3, h4⟩
  rw [leads_filter n us bs hv.len, ← h4]
  exact best_head _ l h1
end

section
/-
  What a range over the leadings keeps: two results in boxes; what has been handed out and is kept.
-/
open Go.RowKit Go.Shelf Go.ChangeShapes Go.WideShapes Go.ChangeAt
set_option maxRecDepth 100000

theorem own_cellsL {W : World} {base g : Nat} {e : TypeId} {size n : Nat} {v : Value} {xs : List Value} (h : W.ownsRow base e size v n xs) (hg : v.ownBlock = some g) : ∃ cur, W.heap[g]? = some (.cells cur e (0, 0)) := by
  rcases h.2 with ⟨rfl, _⟩ | ⟨g', cap, cur, rfl, _, hh, _⟩
  · cases hg
  · simp only [Value.ownBlock, Option.some.injEq] at hg
    subst hg
    exact ⟨cur, hh⟩
theorem own_row_other {W : World} {b : Nat} {t : TypeId} {vs : List Value} {base g : Nat} {e : TypeId} {size n : Nat} {v : Value} {xs : List Value} (hr : Row W b t vs) (h : W.ownsRow base e size v n xs) (hg : v.ownBlock = some g) (ht : t ≠ e) : b ≠ g := by
  obtain ⟨cur, hc⟩ := own_cellsL h hg
  rintro rfl
  unfold Row at hr
  rw [hr] at hc
  simp only [Option.some.injEq, Obj.cells.injEq] at hc
  exact ht hc.2.1
theorem Row.lone {W W' : World} {row : Option Nat} {b : Nat} {t : TypeId} {vs : List Value} (h : Row W b t vs) (hg : W.grownBy W' row) (hne : ∀ r, row = some r → b ≠ r) : Row W' b t vs :=
  (hg.block b h.lt (fun e => hne b e.symm rfl)).trans h

abbrev LX : Type := List Nat × Value
/-- The round's facts: what has been handed out so far. -/
def LdI (ok : List (List Nat) → Prop) (H : Nat) (w : World) (R1 R2 : Nat) (pre : List LX) (Z : Nat → Prop) (W : World) : Prop :=
  ok (pre.map Prod.fst) ∧ (Row W R1 22 [.slice none 0 0] ∧ Row W R2 23 [.int .i64 0]) ∧ (∀ k, Z k → R2 < k) ∧ Below H w W ∧ R2 < W.heap.size
/-- Behind a return: the last one is the result. -/
def LdX (ok : List (List Nat) → Prop) (H : Nat) (w : World) (R1 R2 : Nat) (pre : List LX) (Z : Nat → Prop) (W : World) : Prop :=
  (∃ p x, pre = p ++ [x] ∧ ok (pre.map Prod.fst) ∧ Row W R1 22 [x.2] ∧ Row W R2 23 [.int .i64 0] ∧ W.ownsRow 0 3 1 x.2 x.1.length (ivals (natI x.1)) ∧ ∀ g, x.2.ownBlock = some g → ¬ Z g) ∧ (∀ k, Z k → R2 < k) ∧ Below H w W ∧ R2 < W.heap.size

theorem own_grown {W W' : World} {row : Option Nat} {base : Nat} {e : TypeId} {size n : Nat} {v : Value} {xs : List Value} (h : W.ownsRow base e size v n xs) (hg : W.grownBy W' row) (hr : ∀ r, row = some r → ∃ o : Obj, W.heap[r]? = some o ∧ o.isCells = false) : W'.ownsRow base e size v n xs := by
  refine h.kept hg ?_
  cases ho : v.ownBlock with
  | none => exact Or.inl rfl
  | some g =>
    refine Or.inr (fun e => ?_)
    obtain ⟨o, ho2, hc⟩ := hr g e.symm
    obtain ⟨cur, h3⟩ := own_cellsL h ho
    rw [h3] at ho2; cases ho2; cases hc
theorem grow_setL (W : World) (r i : Nat) (u : Value) : W.grownBy (W.setCell ⟨r, i, none⟩ u) (some r) :=
  ⟨rfl, rfl, rfl, by simp [World.setCell], fun k _ hne => Below.heap_setCell W ⟨r, i, none⟩ u k (fun e => hne (by rw [e]))⟩
theorem own_apart {W W' : World} {row : Option Nat} {base : Nat} {e : TypeId} {size n : Nat} {v : Value} {xs : List Value} (h : W.ownsRow base e size v n xs) (hg : W.grownBy W' row) (hr : ∀ g, v.ownBlock = some g → some g ≠ row) : W'.ownsRow base e size v n xs := by
  refine h.kept hg ?_
  cases ho : v.ownBlock with
  | none => exact Or.inl rfl
  | some g => exact Or.inr (hr g ho)

theorem LdI.sep {ok : List (List Nat) → Prop} {H B R1 R2 : Nat} {w : World} (hH : H = w.heap.size) (h12 : R1 < R2) (h1 : H ≤ R1) (hB : R2 < B) : SepO B (LdI ok H w R1 R2) :=
  { grow := fun s Z W W' row ⟨h0, ⟨h1, h2⟩, h3, h4, h5⟩ hg hr => ⟨h0, ⟨h1.kept hg (fun r e => (hr r e).2), h2.kept hg (fun r e => (hr r e).2)⟩, h3, h4.grown hg (by have := h4.size; omega) (fun k e => by have := (hr k e).1; omega), Nat.lt_of_lt_of_le h5 hg.size⟩
    priv := fun s Z W r i u ⟨h0, ⟨h1, h2⟩, h3, h4, h5⟩ hz => by
      have h6 := h3 r hz
      exact ⟨h0, ⟨h1.other (by omega) u, h2.other (by omega) u⟩, h3, h4.setCell (p := ⟨r, i, none⟩) (show H ≤ r by omega) u, by simpa [World.setCell] using h5⟩
    take := fun s Z W o ⟨h0, ⟨h1, h2⟩, h3, h4, h5⟩ => ⟨h0, ⟨h1.alloc o, h2.alloc o⟩, fun k hk => by
      rcases hk with hk | rfl
      · exact h3 k hk
      · exact h5, h4.alloc (by have := h4.size; omega) o, by rw [World.size_alloc]; omega⟩
    draw := fun s Z W ⟨h0, ⟨h1, h2⟩, h3, h4, h5⟩ => ⟨h0, ⟨h1, h2⟩, h3, h4.drew, h5⟩
    own := fun s Z W W' row N ⟨h0, ⟨h1, h2⟩, h3, h4, h5⟩ hg hr hN => by
      have h6 : ∀ r, row = some r → R2 < r := fun r e => h3 r (hr r e)
      refine ⟨h0, ⟨h1.lone hg (fun r e => by have := h6 r e; omega), h2.lone hg (fun r e => by have := h6 r e; omega)⟩, fun k hk => ?_, h4.grown hg (by have := h4.size; omega) (fun k e => by have := h6 k e; omega), Nat.lt_of_lt_of_le h5 hg.size⟩
      rcases hk with hk | ⟨hk, _⟩
      · exact h3 k hk
      · have := hN k hk; omega }

theorem LdX.sep {ok : List (List Nat) → Prop} {H B R1 R2 : Nat} {w : World} (hH : H = w.heap.size) (h12 : R1 < R2) (h1 : H ≤ R1) (hB : R2 < B) : SepO B (LdX ok H w R1 R2) :=
  { grow := fun s Z W W' row ⟨⟨p, x, e0, e1, h1, h2, h6, h7⟩, h3, h4, h5⟩ hg hr => ⟨⟨p, x, e0, e1, h1.kept hg (fun r e => (hr r e).2), h2.kept hg (fun r e => (hr r e).2), own_grown h6 hg (fun r e => (hr r e).2), h7⟩, h3, h4.grown hg (by have := h4.size; omega) (fun k e => by have := (hr k e).1; omega), Nat.lt_of_lt_of_le h5 hg.size⟩
    priv := fun s Z W r i u ⟨⟨p, x, e0, e1, h1, h2, h6, h7⟩, h3, h4, h5⟩ hz => by
      have h8 := h3 r hz
      exact ⟨⟨p, x, e0, e1, h1.other (by omega) u, h2.other (by omega) u, own_apart h6 (grow_setL W r i u) (fun g hg e => by cases e; exact h7 _ hg hz), h7⟩, h3, h4.setCell (p := ⟨r, i, none⟩) (show H ≤ r by omega) u, by simpa [World.setCell] using h5⟩
    take := fun s Z W o ⟨⟨p, x, e0, e1, h1, h2, h6, h7⟩, h3, h4, h5⟩ => ⟨⟨p, x, e0, e1, h1.alloc o, h2.alloc o, h6.alloc o, fun g hg hk => by
      rcases hk with hk | e
      · exact h7 g hg hk
      · have := (h6.lt _ hg).2; omega⟩, fun k hk => by
      rcases hk with hk | rfl
      · exact h3 k hk
      · exact h5, h4.alloc (by have := h4.size; omega) o, by rw [World.size_alloc]; omega⟩
    draw := fun s Z W ⟨⟨p, x, e0, e1, h1, h2, h6, h7⟩, h3, h4, h5⟩ => ⟨⟨p, x, e0, e1, h1, h2, h6, h7⟩, h3, h4.drew, h5⟩
    own := fun s Z W W' row N ⟨⟨p, x, e0, e1, h1, h2, h6, h7⟩, h3, h4, h5⟩ hg hr hN => by
      have h8 : ∀ r, row = some r → R2 < r := fun r e => h3 r (hr r e)
      refine ⟨⟨p, x, e0, e1, h1.lone hg (fun r e => by have := h8 r e; omega), h2.lone hg (fun r e => by have := h8 r e; omega), own_apart h6 hg (fun g hg2 e => h7 g hg2 (hr g e.symm)), fun g hg2 hk => ?_⟩, fun k hk => ?_, h4.grown hg (by have := h4.size; omega) (fun k e => by have := h8 k e; omega), Nat.lt_of_lt_of_le h5 hg.size⟩
      · rcases hk with hk | ⟨hk, _⟩
        · exact h7 g hg2 hk
        · have h9 := hN g hk
          have := (h6.lt _ hg2).2
          omega
      · rcases hk with hk | ⟨hk, _⟩
        · exact h3 k hk
        · have := hN k hk; omega }

theorem VL_put (x : LX) (Z : Nat → Prop) (W : World) (l : Nat) (o o' : Obj) (h : VL x Z W) (ho : W.heap[l]? = some o) (hc : o.isCells = false) : VL x Z (W.putObj l o') :=
  ⟨own_grown h.1 (grownBy_putObj' W l o') (fun r e => by cases e; exact ⟨o, ho, hc⟩), h.2⟩
theorem VLP_put {P : List Nat → Prop} (x : LX) (Z : Nat → Prop) (W : World) (l : Nat) (o o' : Obj) (h : VLP P x Z W) (ho : W.heap[l]? = some o) (hc : o.isCells = false) : VLP P x Z (W.putObj l o') :=
  ⟨VL_put x Z W l o o' h.1 ho hc, h.2⟩
theorem keepsOthers_belowL {W W' : World} (h : Below W.heap.size W W') : KeepsOthers W W' := ⟨h.size, fun k o hk _ => (h.block k (Array.getElem?_eq_some_iff.1 hk).1).trans hk⟩
theorem LdR.sep {ok : List (List Nat) → Prop} {H B R1 R2 : Nat} {w : World} (hH : H = w.heap.size) (h12 : R1 < R2) (h1 : H ≤ R1) (hB : R2 < B) (c : Code) : SepO B (fun pre Z W => c = .ret ∧ LdX ok H w R1 R2 pre Z W) :=
  let hx := LdX.sep (ok := ok) hH h12 h1 hB
  { grow := fun s Z W W' row h hg hr => ⟨h.1, hx.grow s Z W W' row h.2 hg hr⟩
    priv := fun s Z W r i u h hz => ⟨h.1, hx.priv s Z W r i u h.2 hz⟩
    take := fun s Z W o h => ⟨h.1, hx.take s Z W o h.2⟩
    draw := fun s Z W h => ⟨h.1, hx.draw s Z W h.2⟩
    own := fun s Z W W' row N h hg hr hN => ⟨h.1, hx.own s Z W W' row N h.2 hg hr hN⟩ }
theorem leadings_enters : ∀ args w, (callFunc 93 args).run Try.prog w = .ok (.enter 93 args) w := fun args w => enters_of Try.func93 (by kernel_rfl) rfl args w
end

section
/-
  Lead: its contract.
-/
open Go.RowKit Go.Shelf Go.ChangeShapes Go.WideShapes Go.ChangeAt
attribute [local go_sem] Oper.semAt_some
set_option maxRecDepth 100000

theorem lead_results (tmps : Array Value) (w : World) (g h : Nat) (a b : Value) (hp : tmps.getD 6 undef = .pointer (some ⟨g, 0, none⟩)) (hq : tmps.getD 7 undef = .pointer (some ⟨h, 0, none⟩))
    (h1 : Row w g 22 [a]) (h2 : Row w h 23 [b]) : (results Try.f18 tmps).run Try.prog w = .ok (.tuple #[a, b]) w := by
  have c0 : w.cell? ⟨g, 0, none⟩ = some a := h1.cell 0
  have c2 : w.cell? ⟨h, 0, none⟩ = some b := h2.cell 0
  have hp' : tmps[6]?.getD undef = .pointer (some ⟨g, 0, none⟩) := by simpa using hp
  have hq' : tmps[7]?.getD undef = .pointer (some ⟨h, 0, none⟩) := by simpa using hq
  simp [results, Try.f18, go_sem, hp', hq', c0, c2]

set_option maxHeartbeats 4000000 in
theorem Lead_ok (n : Nat) (us bs : List Nat) (hv : Vc n us bs) (v u : Value) (w : World) (h : IntsV w v (natI us)) (k : IntsV w u (natI bs)) :
    Calls Try.prog 18 #[.int .i64 n, v, u] w fun e w' => ∃ v' l, e = .returned (.tuple #[v', .int .i64 0]) ∧ bestL (prT n bs us) (leadL us.length us.length []) = some l ∧ IntsV w' v' (natI l) ∧ Below w.heap.size w w' := by
  obtain ⟨l0, hd, hbest, hll, hfit, hpr⟩ := leads_head hv
  have HBest := Lib.hid hbest
  have HHd := Lib.hid hd
  have H1 := Lib.hid h
  have H2 := Lib.hid k
  have HVc := Lib.hid hv
  obtain ⟨ao, cap, rfl, _⟩ := h
  obtain ⟨bo, cap', rfl, _⟩ := k
  have HI := Lib.hid (fun W => leadings_any (n : Int) ao bo (natI us).length (natI bs).length cap cap' W)
  obtain ⟨W2, hW2⟩ : ∃ W2, (w.alloc (.cells #[.slice none 0 0] 22)).alloc (.cells #[.int .i64 0] 23) = W2 := ⟨_, rfl⟩
  have hb2 : Below w.heap.size w W2 := by rw [← hW2]; exact ((Below.refl _ w).alloc (Nat.le_refl _) _).alloc (by simp) _
  have HV := Lib.hid (valid2_any n (natI us) (natI bs) _ _ W2 (by rw [natI_length]; have := hv.l6; unfold maxLen; omega) (by rw [natI_length]; have := hv.symm.l6; unfold maxLen; omega) (H1.out.later hb2) (H2.out.later hb2))
  rw [two_of hv] at HV
  obtain ⟨N, hN⟩ : ∃ N, (leads n us bs).length + 1 = N := ⟨_, rfl⟩
  obtain ⟨H, hH⟩ : ∃ H, w.heap.size = H := ⟨_, rfl⟩
  have hs2 : W2.heap.size = H + 1 + 1 := by rw [← hW2, ← hH]; simp
  have r1 : Row W2 H 22 [.slice none 0 0] := by rw [← hW2, ← hH]; exact (Row.new w _ _).alloc _
  have r2 : Row W2 (H + 1) 23 [.int .i64 0] := by
    rw [← hW2, ← hH]
    have := Row.new (w.alloc (.cells #[.slice none 0 0] 22)) 23 [.int .i64 0]
    rw [World.size_alloc] at this
    exact this
  have hW2' : (w.alloc (.cells #[.slice none 0 0] 22)).alloc (.cells #[.int .i64 0] 23) = W2 := hW2
  refine (callsIn_wide (n := 9)).1 ?_
  refine callsIn_of_wp_marks Try.func18 rfl trivial ?_ rfl
  simp only [Try.ntmps18, List.size_toArray, List.length_cons, List.length_nil, Nat.reduceAdd, Nat.reduceSub, Array.replicate_succ, Array.replicate_zero, List.push_toArray, List.append_toArray, List.nil_append, List.cons_append]
  have HW2 := Lib.hid hW2
  clear hW2 hW2' hv hd hbest hll hfit hpr
  rw [hs2] at HV
  obtain ⟨W3, hW3⟩ : ∃ W3, W2.alloc (.cells #[.slice ao (natI us).length cap, .slice bo (natI bs).length cap'] 22) = W3 := ⟨_, rfl⟩
  have b23 : Below W2.heap.size W2 W3 := by rw [← hW3]; exact (Below.refl _ W2).alloc (Nat.le_refl _) _
  have hs3 : W3.heap.size = H + 1 + 1 + 1 := by rw [← hW3, World.size_alloc, hs2]
  have r1 := r1.later b23
  have r2 := r2.later b23
  have hb3 := below_nx hb2 b23
  rw [hW3] at HV
  have HW3 := Lib.hid hW3
  clear hW3 b23
  obtain ⟨W0, hW0⟩ : ∃ W0, ((W3.alloc (.cells #[.int .i64 n] 3)).alloc (.cells #[.slice ao (natI us).length cap] 22)).alloc (.cells #[.slice bo (natI bs).length cap'] 22) = W0 := ⟨_, rfl⟩
  have hs0 : W0.heap.size = H + 6 := by rw [← hW0]; simp [hs3]
  have b30 : Below W3.heap.size W3 W0 := by rw [← hW0]; exact (((Below.refl _ W3).alloc (Nat.le_refl _) _).alloc (by simp) _).alloc (by simp; omega) _
  have hB0 : Below H w W0 := by rw [← hH]; exact below_nx hb3 b30
  have r1 := r1.later b30
  have r2 := r2.later b30
  have c3 : W0.cell? ⟨H + 1 + 1 + 1, 0, none⟩ = some (.int .i64 n) := by
    rw [← hW0, ← hs3]; exact (((Row.new W3 3 [.int .i64 n]).alloc _).alloc _).cell 0
  have c4 : W0.cell? ⟨H + 1 + 1 + 1 + 1, 0, none⟩ = some (.slice ao (natI us).length cap) := by
    have := Row.new (W3.alloc (.cells #[.int .i64 n] 3)) 22 [.slice ao (natI us).length cap]
    rw [World.size_alloc, hs3] at this
    rw [← hW0]; exact (this.alloc _).cell 0
  have c5 : W0.cell? ⟨H + 1 + 1 + 1 + 1 + 1, 0, none⟩ = some (.slice bo (natI bs).length cap') := by
    have := Row.new ((W3.alloc (.cells #[.int .i64 n] 3)).alloc (.cells #[.slice ao (natI us).length cap] 22)) 22 [.slice bo (natI bs).length cap']
    rw [World.size_alloc, World.size_alloc, hs3] at this
    rw [← hW0]; exact this.cell 0
  have HI3 := HI.out W3
  rw [hW0, hs3] at HI3
  have HI3 := Lib.hid HI3
  have hi1 := H1.out.later (hb3.trans (b30.mono hb3.size))
  have hi2 := H2.out.later (hb3.trans (b30.mono hb3.size))
  have HH := Lib.hid hH
  clear HI hb2 hs2 hs3 hb3 b30 hW0
  gi_wp2_with (refine ⟨trivial, ?_⟩; first | (gi_at_call 60; rw [HW2.out, HW3.out]; refine (callsIn_wide.2 HV.out).mono ?_; rintro e w' ⟨rfl, rfl⟩) | (gi_at_call 62; refine (callsIn_wide.2 HI3.out).mono ?_; rintro e w' ⟨rfl, rfl⟩))
  have hSS : ∀ k, k < H + 6 ∧ k ≠ H ∧ k ≠ H + 1 → k < W0.heap.size := fun k h => by omega
  have hown : ∀ (a : Addr) (m c : Nat) (vv : Value) (ys : List Nat), vv = .slice (some a) m c → IntsV w vv (natI ys) → 0 < ys.length → a.block < H + 6 ∧ a.block ≠ H ∧ a.block ≠ H + 1 := fun a m c vv ys e hi hp => by
    obtain ⟨ao', cap'', e2, _, hc⟩ := hi
    obtain ⟨b, off, e3, hd⟩ := hc (by rw [natI_length]; exact hp)
    have h0 := World.block_lt_of_cell? w _ (hd 0 (by rw [natI_length]; exact hp))
    have h9 := HH.out
    rw [e, e3] at e2
    cases e2
    dsimp only at h0 ⊢
    omega
  refine wpIn_rangeFunc_sepO (α := LX) (by omega) (gf := 93) (lb := #[.pointer (some ⟨H + 1 + 1 + 1, 0, none⟩), .pointer (some ⟨H + 1 + 1 + 1 + 1, 0, none⟩), .pointer (some ⟨H + 1 + 1 + 1 + 1 + 1, 0, none⟩)]) rfl leadings_enters
    (leadings1_seq n us bs HVc.out (H + 1 + 1 + 1) (H + 1 + 1 + 1 + 1) (H + 1 + 1 + 1 + 1 + 1) N (fun k => k < H + 6 ∧ k ≠ H ∧ k ≠ H + 1) _ _ W0 (by omega) hi1 hi2 c3 c4 c5 ⟨by omega, by omega, by omega⟩ ⟨by omega, by omega, by omega⟩ ⟨by omega, by omega, by omega⟩
      (fun a m c e => hown a m c _ us e H1.out (by have := HVc.out.l1; omega)) (fun a m c e => hown a m c _ bs e H2.out (by have := HVc.out.symm.l1; omega)) hSS) VLP_put keptOn_t (keptOn_b hSS) (Below.refl _ _) (fun _ => rfl)
    (LdI (fun ls => ls = []) H w H (H + 1)) (fun c pre Z W => c = .ret ∧ LdX (fun ls => ∃ a, ls = [a]) H w H (H + 1) pre Z W) (LdI.sep HH.out.symm (by omega) (by omega) (by omega)) (fun c => LdR.sep HH.out.symm (by omega) (by omega) (by omega) c)
    ⟨rfl, ⟨r1, r2⟩, fun k h => h.elim, hB0, by omega⟩
    (fun x => { tmps := #[.int .i64 n, .slice ao (natI us).length cap, .slice bo (natI bs).length cap', undef, undef, undef, .pointer (some ⟨H, 0, none⟩), .pointer (some ⟨H + 1, 0, none⟩), x.2, .int .i64 n, .slice ao (natI us).length cap, .slice bo (natI bs).length cap', .slice (some ⟨H + 1 + 1, 0, none⟩) 2 2, .bool true, .bool false, .int .i64 n, .slice ao (natI us).length cap, .slice bo (natI bs).length cap', .func (.func 93) #[] #[.pointer (some ⟨H + 1 + 1 + 1, 0, none⟩), .pointer (some ⟨H + 1 + 1 + 1 + 1, 0, none⟩), .pointer (some ⟨H + 1 + 1 + 1 + 1 + 1, 0, none⟩)], x.2, undef], defers := [] }) ?assign ?body ?done ?stop
  case assign =>
    intro l x W K hK
    simp only [encL]
    gi_wp2
    simpa using hK
  case body =>
    rintro l pre ⟨xl, xv⟩ Z W ⟨h0, ⟨q1, q2⟩, h3, h4, h5⟩ ⟨hV, hMem⟩ hZ hlen
    clear hMem
    obtain ⟨xa, xm, xc, rfl⟩ : ∃ a m c, xv = .slice a m c := by
      rcases hV.1.2 with ⟨e, _⟩ | ⟨g, c, cur, e, _⟩
      · exact ⟨_, _, _, e⟩
      · exact ⟨_, _, _, e⟩
    have k1 := q1.cell 0
    have k2 := q2.cell 0
    have f1 := q1.frozen 0
    have f2 := q2.frozen 0
    have Q1 := Lib.hid q1
    have Q2 := Lib.hid q2
    have H3 := Lib.hid h3
    have H4 := Lib.hid h4
    have H5 := Lib.hid h5
    have H0 := Lib.hid h0
    have HVx := Lib.hid hV
    clear h0 q1 q2 h3 h4 h5 hV
    gi_wp2
    have R1 := (Q1.out.set 0 (.slice xa xm xc)).other (show H ≠ H + 1 by omega) (i := 0) (.int .i64 0)
    have R2 := (Q2.out.other (show H + 1 ≠ H by omega) (i := 0) (.slice xa xm xc)).set 0 (.int .i64 0)
    have hp : pre = [] := by have := H0.out; simpa using this
    have ho := HVx.out.1
    have ho1 := own_apart ho (grow_setL W H 0 (.slice xa xm xc)) (fun g hg e => by cases e; exact own_row_other Q1.out ho hg (by decide) rfl)
    have ho2 := own_apart ho1 (grow_setL _ (H + 1) 0 (.int .i64 0)) (fun g hg e => by cases e; exact own_row_other Q2.out ho hg (by decide) rfl)
    refine ⟨(KeepsOthers.setCell _ ⟨H, 0, none⟩ _).trans (KeepsOthers.setCell _ ⟨H + 1, 0, none⟩ _),
      ((KeptOn.refl Z W).setCell (p := ⟨H, 0, none⟩) (fun h => by have := H3.out _ h; dsimp only at this; omega) _).setCell (p := ⟨H + 1, 0, none⟩) (fun h => by have := H3.out _ h; dsimp only at this; omega) _,
      ((KeptOn.refl _ W).setCell (p := ⟨H, 0, none⟩) (fun h => h.2.1 rfl) _).setCell (p := ⟨H + 1, 0, none⟩) (fun h => h.2.2 rfl) _,
      rfl, ⟨pre, (xl, .slice xa xm xc), rfl, ⟨xl, by rw [hp]; rfl⟩, R1, R2, ho2, HVx.out.2⟩, H3.out, (H4.out.setCell (p := ⟨H, 0, none⟩) (show H ≤ H by omega) _).setCell (p := ⟨H + 1, 0, none⟩) (show H ≤ H + 1 by omega) _, ?_⟩
    have := H5.out
    simpa [World.setCell] using this
  case done =>
    rintro D xs Z W hD hS ⟨h0, _⟩ hK
    exfalso
    have h1 := HHd.out
    rw [show lds n bs us 0 [] = leads n us bs from rfl, ← hS, h0] at h1
    cases h1
  case stop =>
    rintro D c pre Z W hD ⟨q, hq⟩ ⟨rfl, ⟨p, x, e1, ⟨a, e2⟩, h1, h2, h6, h7⟩, h3, h4, h5⟩ hK
    have HL := Lib.hid (show x.1 = l0 by
      have h1 := HHd.out
      rw [show lds n bs us 0 [] = leads n us bs from rfl, hq, e2] at h1
      have e3 : a = l0 := by simpa using h1
      rw [e1, List.map_append] at e2
      have e4 := congrArg List.getLast? e2
      simp at e4
      rw [e4, e3])
    have HR1 := Lib.hid h1
    have HR2 := Lib.hid h2
    have HB := Lib.hid h4
    have HO := Lib.hid h6
    clear e1 e2 h1 h2 h3 h4 h5 h6 h7 hq
    gi_wp2
    refine ⟨by simp, .inl ⟨_, _, rfl, run_takeDeferred hK, ?_⟩⟩
    have R1' := HR1.out.kept (grownBy_putObj' W D (.deferred none)) (fun r e => by cases e; exact ⟨_, hK, rfl⟩)
    have R2' := HR2.out.kept (grownBy_putObj' W D (.deferred none)) (fun r e => by cases e; exact ⟨_, hK, rfl⟩)
    have O' := own_grown HO.out (grownBy_putObj' W D (.deferred none)) (fun r e => by cases e; exact ⟨_, hK, rfl⟩)
    refine ⟨.tuple #[x.2, .int .i64 0], ?_, ⟨x.2, l0, rfl, HBest.out, ?_, ?_⟩⟩
    · exact lead_results _ _ _ _ _ _ rfl rfl R1' R2'
    · have e := HL.out
      rw [e] at O'
      exact IntsV.of_own (by rw [natI_length]; exact O')
    · first | (rw [HH.out]; exact HB.out.trans (belowK_b (w := W0) (by omega) W D _ _ (by omega) hK rfl rfl)) | exact HB.out.trans (belowK_b (w := W0) (by omega) W D _ _ (by omega) hK rfl rfl)

theorem Lead_bad (n : Int) (xs zs : List Int) (hl : xs.length ≤ maxLen) (hm : zs.length ≤ maxLen) (hb : twoB n xs zs = false) (v u : Value) (w : World) (h : IntsV w v xs) (k : IntsV w u zs) :
    Calls Try.prog 18 #[.int .i64 n, v, u] w fun e w' => e = .returned (.tuple #[.slice none 0 0, .int .i64 2]) ∧ Below w.heap.size w w' := by
  obtain ⟨W2, hW2⟩ : ∃ W2, (w.alloc (.cells #[.slice none 0 0] 22)).alloc (.cells #[.int .i64 0] 23) = W2 := ⟨_, rfl⟩
  have hb2 : Below w.heap.size w W2 := by rw [← hW2]; exact ((Below.refl _ w).alloc (Nat.le_refl _) _).alloc (by simp) _
  have HV := Lib.hid (valid2_any n xs zs v u W2 hl hm (h.later hb2) (k.later hb2))
  rw [hb] at HV
  obtain ⟨H, hH⟩ : ∃ H, w.heap.size = H := ⟨_, rfl⟩
  have hs2 : W2.heap.size = H + 1 + 1 := by rw [← hW2, ← hH]; simp
  have r1 : Row W2 H 22 [.slice none 0 0] := by rw [← hW2, ← hH]; exact (Row.new w _ _).alloc _
  have r2 : Row W2 (H + 1) 23 [.int .i64 0] := by
    rw [← hW2, ← hH]
    have := Row.new (w.alloc (.cells #[.slice none 0 0] 22)) 23 [.int .i64 0]
    rw [World.size_alloc] at this
    exact this
  rw [hs2] at HV
  obtain ⟨W3, hW3⟩ : ∃ W3, W2.alloc (.cells #[v, u] 22) = W3 := ⟨_, rfl⟩
  have b23 : Below W2.heap.size W2 W3 := by rw [← hW3]; exact (Below.refl _ W2).alloc (Nat.le_refl _) _
  have r1 := r1.later b23
  have r2 := r2.later b23
  have hb3 := below_nx hb2 b23
  rw [hW3] at HV
  have HB3 := Lib.hid hb3
  have R1 := Lib.hid r1
  have R2 := Lib.hid r2
  have k1 := r1.cell 0
  have k2 := r2.cell 0
  have f1 := r1.frozen 0
  have f2 := r2.frozen 0
  have HH := Lib.hid hH
  rw [← hW2] at hW3
  have HW3 := Lib.hid hW3
  obtain ⟨ao, cap, rfl, _⟩ := h
  obtain ⟨bo, cap', rfl, _⟩ := k
  clear hb hb2 b23 r1 r2 hb3 hW3 hs2 hW2
  go_enter Try.func18, Try.ntmps18
  go_wp2_with fail
  rw [HW3.out]
  refine HV.out.mono ?_
  rintro e w' ⟨rfl, rfl⟩
  go_wp2
  have q1 := (R1.out.set 0 (.slice none 0 0)).other (show H ≠ H + 1 by omega) (i := 0) (.int .i64 2)
  have q2 := (R2.out.other (show H + 1 ≠ H by omega) (i := 0) (.slice none 0 0)).set 0 (.int .i64 2)
  refine bodyPost_ret (lead_results _ _ H (H + 1) _ _ rfl rfl q1 q2) rfl ⟨rfl, ?_⟩
  have hB := HB3.out
  have e := HH.out
  rw [e] at hB
  first | (rw [e]; exact (hB.setCell (p := ⟨H, 0, none⟩) (show H ≤ H by omega) _).setCell (p := ⟨H + 1, 0, none⟩) (show H ≤ H + 1 by omega) _) | exact (hB.setCell (p := ⟨H, 0, none⟩) (show H ≤ H by omega) _).setCell (p := ⟨H + 1, 0, none⟩) (show H ≤ H + 1 by omega) _
end

end Go.Proofs.Ytkpiakoijkflmaa
