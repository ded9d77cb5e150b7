/-
  Tables of one's own: a row of rows of integers in memory, two of them apart.
-/
import Derived.Test.YtkpmkeklopfhdaaEdFns
import Derived.Test.YtkpmkeklopfhdaaEdRefMath
import Derived.Test.YtkpmkeklopfhdaaHeldR
import Derived.Deep.AppendLies
import Derived.Great.BuildSlice
import Derived.Lib.OwnKind
import Derived.OneCell
namespace Go.Proofs.Ytkpmkeklopfhdaa
open Go.ChangeShapes Go.WideShapes Go.ChangeAt Go.RowKit
set_option linter.unusedVariables false
set_option maxRecDepth 100000

/-- A row of m integers. -/
def rowI (m : Nat) (f : Nat → Int) : List Value := (List.range m).map fun j => .int .i64 (f j)
theorem rowI_length (m : Nat) (f : Nat → Int) : (rowI m f).length = m := by simp [rowI]
theorem rowI_at {m j : Nat} (f : Nat → Int) (h : j < m) : (rowI m f)[j]? = some (.int .i64 (f j)) := by simp [rowI, h]
theorem rowI_zero (m : Nat) : (ints (List.replicate m 0)) = rowI m (fun _ => 0) := by
  apply List.ext_getElem
  · simp [ints, rowI]
  · intro i h1 h2; simp [ints, rowI]
theorem rowI_set {m j : Nat} (f : Nat → Int) (x : Int) : (rowI m f).set j (.int .i64 x) = rowI m (fun k => if k = j then x else f k) := by
  apply List.ext_getElem
  · simp [rowI]
  · intro i h1 h2
    simp only [rowI, List.getElem_set, List.getElem_map, List.getElem_range]
    by_cases h : j = i
    · rw [if_pos h, if_pos h.symm]
    · rw [if_neg h, if_neg (fun e => h e.symm)]

/-- The rows of a table, as slices. -/
def slsV (m : Nat) (bs : List Nat) : List Value := bs.map fun b => .slice (some ⟨b, 0, none⟩) m m
theorem slsV_length (m : Nat) (bs : List Nat) : (slsV m bs).length = bs.length := by simp [slsV]
theorem slsV_at {m i : Nat} {bs : List Nat} (h : i < bs.length) : (slsV m bs)[i]? = some (.slice (some ⟨bs.getD i 0, 0, none⟩) m m) := by
  simp [slsV, h, List.getD_eq_getElem?_getD]

/-- A table of one's own. -/
structure TabO (W : World) (lo m : Nat) (v : Value) (bs : List Nat) (f : Nat → Nat → Int) : Prop where
  own : W.ownsRow lo 53 1 v bs.length (slsV m bs)
  row : ∀ i, i < bs.length → Row W (bs.getD i 0) 3 (rowI m (f i))
  low : ∀ b ∈ bs, lo ≤ b
  nod : bs.Nodup

theorem TabO.nil (W : World) (lo m : Nat) (f : Nat → Nat → Int) : TabO W lo m (.slice none 0 0) [] f := ⟨World.ownsRow_nil _ _ _ _, fun i h => by simp at h, fun b h => by simp at h, List.nodup_nil⟩
theorem TabO.congr {W : World} {lo m : Nat} {v : Value} {bs : List Nat} {f g : Nat → Nat → Int} (h : TabO W lo m v bs f) (e : ∀ i j, i < bs.length → j < m → f i j = g i j) : TabO W lo m v bs g := by
  refine ⟨h.own, fun i hi => ?_, h.low, h.nod⟩
  have hr := h.row i hi
  have : rowI m (f i) = rowI m (g i) := by
    apply List.ext_getElem
    · simp [rowI]
    · intro j h1 h2
      simp only [rowI, List.getElem_map, List.getElem_range]
      rw [e i j hi (by simpa [rowI] using h1)]
  rw [← this]; exact hr
theorem TabO.mem_lt {W : World} {lo m : Nat} {v : Value} {bs : List Nat} {f : Nat → Nat → Int} (h : TabO W lo m v bs f) : ∀ b ∈ bs, b < W.heap.size := fun b hb => by
  obtain ⟨i, hi, e⟩ := List.getElem_of_mem hb
  have := (h.row i hi).lt
  rw [List.getD_eq_getElem?_getD, List.getElem?_eq_getElem hi] at this
  rw [← e]; exact this
theorem TabO.kind {W : World} {lo m : Nat} {v : Value} {bs : List Nat} {f : Nat → Nat → Int} (h : TabO W lo m v bs f) : ∀ r, v.ownBlock = some r → ∃ c fz, W.heap[r]? = some (.cells c 53 fz) := Lib.ownsRow_kind h.own
theorem row_kind {W : World} {b : Nat} {vs c : List Value} {fz : Nat × Nat} {cs : Array Value} (h : Row W b 3 vs) (hc : W.heap[b]? = some (.cells cs 53 fz)) : False := by
  unfold Row at h
  rw [h] at hc
  injection hc with hc
  injection hc with _ hc
  exact absurd hc (by decide)
theorem TabO.grown {W W' : World} {row : Option Nat} {lo m : Nat} {v : Value} {bs : List Nat} {f : Nat → Nat → Int} (h : TabO W lo m v bs f) (hg : W.grownBy W' row) (h1 : ∀ r, row = some r → v.ownBlock ≠ some r)
    (h2 : ∀ r, row = some r → ∃ c fz, W.heap[r]? = some (.cells c 53 fz)) : TabO W' lo m v bs f := by
  refine ⟨h.own.kept hg ?_, fun i hi => (h.row i hi).grown hg (fun e => ?_), h.low, h.nod⟩
  · cases hv : v.ownBlock with
    | none => exact Or.inl rfl
    | some b => exact Or.inr (fun e => h1 b e.symm hv)
  · obtain ⟨c, fz, hc⟩ := h2 _ e.symm
    exact row_kind (c := []) (h.row i hi) hc
theorem TabO.alloc {W : World} {lo m : Nat} {v : Value} {bs : List Nat} {f : Nat → Nat → Int} (h : TabO W lo m v bs f) (o : Obj) : TabO (W.alloc o) lo m v bs f :=
  h.grown (World.grownBy_alloc W o none) (fun r e => by cases e) (fun r e => by cases e)
theorem TabO.drew {W : World} {lo m : Nat} {v : Value} {bs : List Nat} {f : Nat → Nat → Int} (h : TabO W lo m v bs f) : TabO W.drew lo m v bs f := ⟨h.own, h.row, h.low, h.nod⟩
theorem TabO.later {W W' : World} {lo m : Nat} {v : Value} {bs : List Nat} {f : Nat → Nat → Int} (h : TabO W lo m v bs f) (hb : Below W.heap.size W W') : TabO W' lo m v bs f :=
  h.grown (row := none) ⟨hb.os, hb.tape, hb.output, hb.size, fun i hi _ => hb.block i hi⟩ (fun r e => by cases e) (fun r e => by cases e)
theorem getD_mem {bs : List Nat} {i : Nat} (h : i < bs.length) : bs.getD i 0 ∈ bs := by
  rw [List.getD_eq_getElem?_getD, List.getElem?_eq_getElem h]; exact List.getElem_mem h
theorem getD_ne {bs : List Nat} (hn : bs.Nodup) {i j : Nat} (hi : i < bs.length) (hj : j < bs.length) (h : i ≠ j) : bs.getD i 0 ≠ bs.getD j 0 := by
  rw [List.getD_eq_getElem?_getD, List.getElem?_eq_getElem hi, List.getD_eq_getElem?_getD, List.getElem?_eq_getElem hj]
  have hp := List.pairwise_iff_getElem.1 hn
  simp only [Option.getD_some]
  rcases Nat.lt_or_gt_of_ne h with h1 | h1
  · exact hp i j hi hj h1
  · exact fun e => hp j i hj hi h1 e.symm
theorem TabO.set {W : World} {lo m : Nat} {v : Value} {bs : List Nat} {f : Nat → Nat → Int} (h : TabO W lo m v bs f) {i j : Nat} (hi : i < bs.length) (x : Int) :
    TabO (W.setCell ⟨bs.getD i 0, j, none⟩ (.int .i64 x)) lo m v bs (fun a b => if a = i ∧ b = j then x else f a b) := by
  refine ⟨ownsRow_setCell_other h.own (fun e => ?_) _, fun k hk => ?_, h.low, h.nod⟩
  · obtain ⟨c, fz, hc⟩ := h.kind _ e
    exact row_kind (c := []) (h.row i hi) hc
  · by_cases e : k = i
    · subst e
      have := (h.row k hk).set j (.int .i64 x)
      rw [rowI_set] at this
      simpa using this
    · have := (h.row k hk).other (i := j) (getD_ne h.nod hk hi e) (.int .i64 x)
      simpa [e] using this
theorem TabO.other {W : World} {lo m : Nat} {v : Value} {bs : List Nat} {f : Nat → Nat → Int} (h : TabO W lo m v bs f) {b j : Nat} (hb : b ∉ bs) {vs : List Value} (hr : Row W b 3 vs) (u : Value) :
    TabO (W.setCell ⟨b, j, none⟩ u) lo m v bs f := by
  refine ⟨ownsRow_setCell_other h.own (fun e => ?_) _, fun k hk => (h.row k hk).other (fun e => hb (by rw [← e]; exact getD_mem hk)) _, h.low, h.nod⟩
  obtain ⟨c, fz, hc⟩ := h.kind _ e
  exact row_kind (c := []) hr hc

theorem TabO.cellAt {W : World} {lo m g n cap : Nat} {bs : List Nat} {f : Nat → Nat → Int} (h : TabO W lo m (.slice (some ⟨g, 0, none⟩) n cap) bs f) (hn : bs.length = n) {x : Nat} (hx : x < n) :
    W.cell? ⟨g, x, none⟩ = some (.slice (some ⟨bs.getD x 0, 0, none⟩) m m) := by
  have ho := h.own
  rw [hn] at ho
  exact (ho.cellAt x (by omega)).trans (slsV_at (by omega))

/-- Two tables apart. -/
structure Two (W : World) (lo m : Nat) (vc : Value) (bc : List Nat) (fc : Nat → Nat → Int) (vw : Value) (bw : List Nat) (fw : Nat → Nat → Int) : Prop where
  c : TabO W lo m vc bc fc
  w : TabO W lo m vw bw fw
  ap : ∀ x ∈ bc, x ∉ bw
  ne : ∀ r, vc.ownBlock = some r → vw.ownBlock ≠ some r

section
variable {W W' : World} {lo m : Nat} {vc vw v' : Value} {bc bw : List Nat} {fc fw : Nat → Nat → Int}
theorem Two.sw (h : Two W lo m vc bc fc vw bw fw) : Two W lo m vw bw fw vc bc fc := ⟨h.w, h.c, fun x h1 h2 => h.ap x h2 h1, fun r h1 h2 => h.ne r h2 h1⟩
theorem Two.alloc (h : Two W lo m vc bc fc vw bw fw) (o : Obj) : Two (W.alloc o) lo m vc bc fc vw bw fw := ⟨h.c.alloc o, h.w.alloc o, h.ap, h.ne⟩
theorem Two.drew (h : Two W lo m vc bc fc vw bw fw) : Two W.drew lo m vc bc fc vw bw fw := ⟨h.c.drew, h.w.drew, h.ap, h.ne⟩
theorem Two.setC (h : Two W lo m vc bc fc vw bw fw) {i j : Nat} (hi : i < bc.length) (x : Int) : Two (W.setCell ⟨bc.getD i 0, j, none⟩ (.int .i64 x)) lo m vc bc (fun a b => if a = i ∧ b = j then x else fc a b) vw bw fw :=
  ⟨h.c.set hi x, h.w.other (h.ap _ (getD_mem hi)) (h.c.row i hi) _, h.ap, h.ne⟩
theorem Two.setW (h : Two W lo m vc bc fc vw bw fw) {i j : Nat} (hi : i < bw.length) (x : Int) : Two (W.setCell ⟨bw.getD i 0, j, none⟩ (.int .i64 x)) lo m vc bc fc vw bw (fun a b => if a = i ∧ b = j then x else fw a b) :=
  (h.sw.setC hi x).sw

/-- A new row of zeros, not yet in a table. -/
structure Gx (W : World) (lo m g : Nat) (bc bw : List Nat) : Prop where
  row : Row W g 3 (rowI m fun _ => 0)
  low : lo ≤ g
  c : g ∉ bc
  w : g ∉ bw
/-- A new row as a slice of one. -/
structure Hx (W : World) (m g h : Nat) (vc vw : Value) : Prop where
  row : Row W h 53 [.slice (some ⟨g, 0, none⟩) m m]
  c : vc.ownBlock ≠ some h
  w : vw.ownBlock ≠ some h
theorem Gx.sw {g : Nat} (h : Gx W lo m g bc bw) : Gx W lo m g bw bc := ⟨h.row, h.low, h.w, h.c⟩
theorem Hx.sw {g k : Nat} (h : Hx W m g k vc vw) : Hx W m g k vw vc := ⟨h.row, h.w, h.c⟩
theorem Gx.alloc {g : Nat} (h : Gx W lo m g bc bw) (o : Obj) : Gx (W.alloc o) lo m g bc bw := ⟨h.row.alloc o, h.low, h.c, h.w⟩
theorem Hx.alloc {g k : Nat} (h : Hx W m g k vc vw) (o : Obj) : Hx (W.alloc o) m g k vc vw := ⟨h.row.alloc o, h.c, h.w⟩
theorem Two.newG (h : Two W lo m vc bc fc vw bw fw) (hl : lo ≤ W.heap.size) : Gx (W.alloc (.cells (rowI m fun _ => 0).toArray 3)) lo m W.heap.size bc bw :=
  ⟨Row.new _ _ _, hl, fun e => Nat.lt_irrefl _ (h.c.mem_lt _ e), fun e => Nat.lt_irrefl _ (h.w.mem_lt _ e)⟩
theorem Two.newH (h : Two W lo m vc bc fc vw bw fw) (g : Nat) : Hx (W.alloc (.cells #[.slice (some ⟨g, 0, none⟩) m m] 53)) m g W.heap.size vc vw :=
  ⟨Row.new _ _ [.slice (some ⟨g, 0, none⟩) m m], fun e => Nat.lt_irrefl _ (h.c.own.lt _ e).2, fun e => Nat.lt_irrefl _ (h.w.own.lt _ e).2⟩

/-- The first table has a row more. -/
theorem Two.app (h : Two W lo m vc bc fc vw bw fw) {g : Nat} (hG : Gx W lo m g bc bw) (hown : W'.ownsRow lo 53 1 v' (bc.length + 1) (slsV m bc ++ [.slice (some ⟨g, 0, none⟩) m m])) (hgr : W.grownBy W' vc.ownBlock)
    (hat : vc.ownBlock = v'.ownBlock ∨ v'.ownBlock = some W.heap.size) : Two W' lo m v' (bc ++ [g]) (fun i j => if i = bc.length then 0 else fc i j) vw bw fw := by
  refine ⟨⟨?_, fun i hi => ?_, fun b hb => ?_, ?_⟩, h.w.grown hgr h.ne h.c.kind, fun x hx => ?_, fun r hr => ?_⟩
  · rw [List.length_append]
    have e : slsV m (bc ++ [g]) = slsV m bc ++ [.slice (some ⟨g, 0, none⟩) m m] := by simp [slsV]
    rw [e]; exact hown
  · have hk : ∀ b vs, Row W b 3 vs → Row W' b 3 vs := fun b vs hr => hr.grown hgr (fun e => by
      obtain ⟨c, fz, hc⟩ := h.c.kind _ e.symm
      exact row_kind (c := []) hr hc)
    rw [List.length_append] at hi
    simp only [List.length_cons, List.length_nil] at hi
    by_cases e : i = bc.length
    · subst e
      have : (bc ++ [g]).getD bc.length 0 = g := by simp [List.getD_eq_getElem?_getD]
      rw [this]
      simp only [if_true]
      exact hk _ _ hG.row
    · have hi2 : i < bc.length := by omega
      have : (bc ++ [g]).getD i 0 = bc.getD i 0 := by simp [List.getD_eq_getElem?_getD, List.getElem?_append, hi2]
      rw [this]
      simp only [if_neg e]
      exact hk _ _ (h.c.row i hi2)
  · rcases List.mem_append.1 hb with hb | hb
    · exact h.c.low b hb
    · rw [List.mem_singleton] at hb; rw [hb]; exact hG.low
  · rw [List.nodup_append]
    refine ⟨h.c.nod, by simp, fun a ha b hb e => ?_⟩
    rw [List.mem_singleton] at hb
    subst hb e
    exact hG.c ha
  · rcases List.mem_append.1 hx with hx | hx
    · exact h.ap x hx
    · rw [List.mem_singleton] at hx; rw [hx]; exact hG.w
  · rcases hat with e | e
    · exact h.ne r (e.trans hr)
    · rw [e] at hr
      injection hr with hr
      intro e2
      have := (h.w.own.lt r e2).2
      omega
theorem Gx.app (h : Two W lo m vc bc fc vw bw fw) {g g2 : Nat} (hG : Gx W lo m g2 bc bw) (hne : g2 ≠ g) (hgr : W.grownBy W' vc.ownBlock) : Gx W' lo m g2 (bc ++ [g]) bw :=
  ⟨hG.row.grown hgr (fun e => by
    obtain ⟨c, fz, hc⟩ := h.c.kind _ e.symm
    exact row_kind (c := []) hG.row hc), hG.low, fun e => by
    rcases List.mem_append.1 e with e | e
    · exact hG.c e
    · rw [List.mem_singleton] at e; exact hne e, hG.w⟩
theorem Hx.app {g2 k2 : Nat} (hH : Hx W m g2 k2 vc vw) (hgr : W.grownBy W' vc.ownBlock) (hat : vc.ownBlock = v'.ownBlock ∨ v'.ownBlock = some W.heap.size) : Hx W' m g2 k2 v' vw :=
  ⟨hH.row.grown hgr (fun e => hH.c e.symm), fun e => by
    rcases hat with h | h
    · exact hH.c (h.trans e)
    · rw [e] at h
      injection h with h
      have := hH.row.lt
      omega, hH.w⟩
theorem Hx.news {g k : Nat} (h : Hx W m g k vc vw) : ∀ j u, [Value.slice (some ⟨g, 0, none⟩) m m][j]? = some u → W.cell? ((⟨k, 0, none⟩ : Addr).add j) = some u := World.news_of_block h.row

theorem at_own {v2 : Value} {g H : Nat} (hv : v2.ownBlock = some g) (h : vc.ownBlock = some g ∨ g = H) : vc.ownBlock = v2.ownBlock ∨ v2.ownBlock = some H := by
  rcases h with h | h
  · exact Or.inl (h.trans hv.symm)
  · exact Or.inr (by rw [hv, h])
end

/-! ### operations of a drawn region -/
theorem run_make_intsE (k : Nat) (hk : k ≤ 65536) (W : World) : (Instr.makeSlice 53 (.int .i64 (k : Int)) (.int .i64 (k : Int))).run Try.prog W = .ok (.slice (some ⟨W.heap.size, 0, none⟩) k k) (W.alloc (.cells (rowI k fun _ => 0).toArray 3)) := by
  rw [← rowI_zero, ← madeCells_ints]
  exact run_make_row' 53 3 (.int .i64 0) 8 Try.underlying53 (by kernel_rfl) rfl .i64 .i64 k (by omega) (by omega) W
theorem wp_make_ints {o : Oper} {a : Act} {w : World} {K : Act → World → Prop} {Q : Exit → Act → World → Prop} (m : Nat) (hm : m ≤ 65536) (x : Operand) (h : o.op = .makeSlice 53 x x) (hx : a.eval x = .int .i64 (m : Int))
    (hK : K (a.put o.dst (.slice (some ⟨w.heap.size, 0, none⟩) m m)) (w.alloc (.cells (rowI m fun _ => 0).toArray 3))) : o.wp Try.prog a w K Q := by
  unfold Oper.wp
  have e : (execOp a.eval o).run Try.prog w = .ok (.value (.slice (some ⟨w.heap.size, 0, none⟩) m m)) (w.alloc (.cells (rowI m fun _ => 0).toArray 3)) := by
    simp only [execOp, h, hx, Sem.run_bind, run_make_intsE m hm, Result.andThen_ok]
    rfl
  rw [e]
  exact hK
theorem info_intsE : (Try.prog.info? 53).map (fun i => (i.zero, i.size, i.bytes)) = some (some (.slice none 0 0), 1, 24) := by kernel_rfl
theorem wp_build_one {o : Oper} {a : Act} {w : World} {K : Act → World → Prop} {Q : Exit → Act → World → Prop} (g m : Nat) (x : Operand) (h : o.op = .buildSlice 47 1 #[(0, x)]) (hx : a.eval x = .slice (some ⟨g, 0, none⟩) m m)
    (hK : K (a.put o.dst (.slice (some ⟨w.heap.size, 0, none⟩) 1 1)) (w.alloc (.cells #[.slice (some ⟨g, 0, none⟩) m m] 53))) : o.wp Try.prog a w K Q := by
  obtain ⟨i0, hi, hz0, hz1, hz2⟩ := info_parts info_intsE
  refine wp_buildSlice 47 53 1 _ h #[.slice (some ⟨g, 0, none⟩) m m] i0 _ Try.underlying47 hi hz0 (by rw [hz1]; decide) (by rw [hz1]; decide) ?_ hK
  simp only [List.map_toArray, List.map_cons, List.map_nil, hx, hz1]
  simp [Instr.fill, Value.cells, show Array.range 1 = #[0] by decide]
/-- A post of a region, stated by what it is to be. -/
theorem wp_via {P : Program} {c : Code} {Q : Exit → Act → World → Prop} {a : Act} {w : World} (R : Act → World → Prop) (h1 : c.wp P (OnlyN fun _ a' w' => R a' w') a w) (h2 : ∀ a' w', R a' w' → Q .normal a' w') : c.wp P Q a w :=
  Code.wp_mono (fun e a' w' h => by cases e <;> first | exact h2 _ _ h | exact (h : False).elim) h1
end Go.Proofs.Ytkpmkeklopfhdaa
