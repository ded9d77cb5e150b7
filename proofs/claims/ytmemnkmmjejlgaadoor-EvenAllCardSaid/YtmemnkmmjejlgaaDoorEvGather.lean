/-
  The sizes of the spans gathered in a slice, sorted, each once.
-/
import Derived.Test.YtmemnkmmjejlgaaDoorEvAlike
import Derived.Test.YtmemnkmmjejlgaaDoorSortMath
import Derived.Test.YtmemnkmmjejlgaaDoorShelf
import Derived.Lib.SlKeysI
import Derived.Maps.OwnIn
namespace Go.Proofs.YtmemnkmmjejlgaaDoor
open Go.RowKit Go.Shelf Go.Sort Go.Maps
attribute [local go_sem] Oper.semAt_some
set_option maxRecDepth 100000

/-- What is gathered: a slice in a box, its row a block of its own. -/
def HoldI (H : Nat) (w : World) (pre : List Nat) (Z : Nat → Prop) (W : World) : Prop :=
  (∃ v, Boxed W H 25 v ∧ W.ownsRow H 3 1 v pre.length (ints pre) ∧ ∀ k, Z k → H < k ∧ some k ≠ v.ownBlock) ∧ Below H w W

theorem HoldI.step {H : Nat} {w W W' : World} {pre : List Nat} {Z : Nat → Prop} {row : Option Nat} (h : HoldI H w pre Z W) (hg : W.grownBy W' row) (hH : H ≤ w.heap.size) (h1 : some H ≠ row) (h2 : ∀ r, row = some r → H ≤ r)
    (h3 : ∀ v g, row = some g → W.ownsRow H 3 1 v pre.length (ints pre) → v.ownBlock = some g → Boxed W H 25 v → False) : HoldI H w pre Z W' := by
  obtain ⟨⟨v, hv, hr, hz⟩, hb⟩ := h
  refine ⟨⟨v, hv.kept hg h1, hr.kept hg ?_, hz⟩, hb.grown hg (Nat.le_trans hH hb.size) h2⟩
  cases ho : v.ownBlock with
  | none => exact Or.inl rfl
  | some g => exact Or.inr (fun e => h3 v g e.symm hr ho hv)

theorem grow_set (W : World) (r i : Nat) (u : Value) : W.grownBy (W.setCell ⟨r, i, none⟩ u) (some r) :=
  ⟨rfl, rfl, rfl, by simp [World.setCell], fun k _ hne => Below.heap_setCell W ⟨r, i, none⟩ u k (fun e => hne (by rw [e]))⟩

theorem own_cells {W : World} {base g : Nat} {e : TypeId} {size n : Nat} {v : Value} {xs : List Value} (h : W.ownsRow base e size v n xs) (hg : v.ownBlock = some g) : ∃ cur, W.heap[g]? = some (.cells cur e (0, 0)) := by
  rcases h.2 with ⟨rfl, _⟩ | ⟨g', cap, cur, rfl, _, hh, _⟩
  · cases hg
  · simp only [Value.ownBlock, Option.some.injEq] at hg
    subst hg
    exact ⟨cur, hh⟩

theorem HoldI.sep {H B : Nat} {w : World} (hH : H ≤ w.heap.size) (hB : H < B) : Sep B (HoldI H w) :=
  { grow := fun s Z W W' row h hg hr => h.step hg hH (fun e => by have := (hr H e.symm).1; omega) (fun r e => by have := (hr r e).1; omega) (fun v g e ho hb _ => by
      obtain ⟨o, ho2, hc⟩ := (hr g e).2
      obtain ⟨cur, h3⟩ := own_cells ho hb
      rw [h3] at ho2; cases ho2; cases hc)
    priv := fun s Z W r i u h hz => by
      obtain ⟨⟨v, hv, hr, hzz⟩, hb⟩ := h
      have hg : W.grownBy (W.setCell ⟨r, i, none⟩ u) (some r) := grow_set W r i u
      obtain ⟨z1, z2⟩ := hzz r hz
      refine ⟨⟨v, hv.kept hg (fun e => by cases e; omega), hr.kept hg ?_, hzz⟩, hb.grown hg (Nat.le_trans hH hb.size) (fun k e => by cases e; omega)⟩
      cases ho : v.ownBlock with
      | none => exact Or.inl rfl
      | some g => exact Or.inr (fun e => by rw [ho] at z2; exact z2 e.symm)
    take := fun s Z W o h => by
      obtain ⟨⟨v, hv, hr, hzz⟩, hb⟩ := h
      refine ⟨⟨v, hv.alloc o, hr.alloc o, fun k hk => ?_⟩, hb.alloc (Nat.le_trans hH hb.size) o⟩
      rcases hk with hk | rfl
      · exact hzz k hk
      · refine ⟨hv.lt, fun e => ?_⟩
        have := (hr.lt _ e.symm).2
        omega
    draw := fun s Z W ⟨⟨v, hv, hr, hzz⟩, hb⟩ => ⟨⟨v, hv, hr, hzz⟩, hb.drew⟩ }

set_option maxHeartbeats 2000000 in
theorem appendS_any (n K j g cap : Nat) (ts : List Nat) (hp : Spn n K j ts) (w : World) (hg : g < w.heap.size) (hc : ∀ i, i < K → w.cell? ⟨g, i, none⟩ = some (.int .i64 ((ts[i]?.getD 0 : Nat) : Int))) :
    Calls Tryd.prog 73 #[.slice none 0 0, .func (.func 52) #[.agg #[.int .i64 n, .slice (some ⟨g, 0, none⟩) K cap, .int .i64 j]] #[]] w fun e w' => ∃ v, e = .returned v ∧ w'.ownsRow w.heap.size 3 1 v (spansL n ts j).length (ints (spansL n ts j)) ∧ Below w.heap.size w w' := by
  obtain ⟨i0, hi, hz0, hz1, hz2⟩ := info_parts info_int
  refine (callsIn_wide (n := 9)).1 ?_
  refine callsIn_of_wp_marks Tryd.func73 rfl trivial ?_ rfl
  simp only [Tryd.ntmps73, List.size_toArray, List.length_cons, List.length_nil, Nat.reduceAdd, Nat.reduceSub, Array.replicate_succ, Array.replicate_zero, List.push_toArray, List.append_toArray, List.nil_append, List.cons_append]
  gi_wp2
  obtain ⟨H, hH⟩ : ∃ H, w.heap.size = H := ⟨_, rfl⟩
  have hH' := Lib.hid hH
  have hHle : H ≤ w.heap.size := by omega
  have b0 : Boxed (w.alloc (Obj.cells #[.slice none 0 0] 25)) H 25 (.slice none 0 0) := by rw [← hH]; exact Boxed.new w _ _
  have hB0 : Below H w (w.alloc (Obj.cells #[.slice none 0 0] 25)) := by rw [← hH]; exact (Below.refl _ w).alloc (Nat.le_refl _) _
  have hS0 : (w.alloc (Obj.cells #[.slice none 0 0] 25)).heap.size = H + 1 := by rw [← hH]; simp
  rw [hH]
  generalize w.alloc (Obj.cells #[.slice none 0 0] 25) = W0 at b0 hB0 hS0 ⊢
  have hBw : Below w.heap.size w W0 := by rw [hH]; exact hB0
  have hc0 : ∀ i, i < K → W0.cell? ⟨g, i, none⟩ = some (.int .i64 ((ts[i]?.getD 0 : Nat) : Int)) := fun i hi => cell_later hBw (hc i hi)
  have hSS : ∀ k, k < H → k < W0.heap.size := fun k h => by omega
  rw [hH] at hg
  clear hH hc
  refine wpIn_rangeFunc_sep1 (by omega) (gf := 52) (fst := #[.agg #[.int .i64 n, .slice (some ⟨g, 0, none⟩) K cap, .int .i64 j]]) (lb := #[]) rfl sizes_enters
    (sizes_seq n K j g cap ts (fun k => k < H) hp W0 hg hSS hc0) keptOn_t (keptOn_b hSS) (Below.refl _ _) (fun _ => rfl)
    (HoldI H w) (fun _ _ _ _ => False) (HoldI.sep hHle (by omega)) (fun _ => ⟨fun _ _ _ _ _ h _ _ => h, fun _ _ _ _ _ _ h _ => h, fun _ _ _ _ h => h, fun _ _ _ h => h⟩)
    ⟨⟨_, b0, World.ownsRow_nil _ _ _ _, fun k h => h.elim⟩, hB0⟩
    (fun x => { tmps := #[.slice none 0 0, .func (.func 52) #[.agg #[.int .i64 n, .slice (some ⟨g, 0, none⟩) K cap, .int .i64 j]] #[], .pointer (some ⟨H, 0, none⟩), undef, .slice none 0 0, .int .i64 x, .func (.func 52) #[.agg #[.int .i64 n, .slice (some ⟨g, 0, none⟩) K cap, .int .i64 j]] #[], .int .i64 x, undef, undef, undef, undef, undef], defers := [] }) ?assign ?body ?done ?stop
  case assign =>
    intro l x W K hK
    gi_wp2
    exact hK
  case body =>
    rintro l pre x Z W ⟨⟨v, hv, hrow, hz⟩, hB⟩ hzb hlt
    have hc0 := hv.cell
    have hBs := hB.size
    have hw0 := Lib.hid hv
    have hr0 := Lib.hid hrow
    have hb0 := Lib.hid hB
    have hZ0 := Lib.hid hz
    clear hv hrow hB hz
    gi_wp2_with (gi_at_builtin; refine wpListIn_append_own_at _ rfl _ _ 25 rfl H 3 i0 (.int .i64 0) 1 8 Tryd.underlying25 hi hz0 hz1 hz2 rfl (by decide) _ _ _ rfl (hr0.out.alloc _) ⟨W.heap.size, 0, none⟩ 1 1 [.int .i64 x] rfl rfl (cell_one_new _ _ _) (by simp [Value.oneCell']) (by unfold maxLen; omega) (by omega) (by simp; omega) ?_; intro v' w1 hown' hgrow _ hob; obtain ⟨g', cap', rfl⟩ := ownsRow_succ hown'; obtain ⟨hv1, hv2, hr2, hk2, hb2⟩ := hw0.out.appended (by decide) hr0.out (by omega) (Nat.le_refl _) hown' hgrow; have hc1 := hv1.cell; have hf1 := hv1.frozen)
    refine ⟨hk2, ⟨hb2.size, fun k hk => ?_⟩, ⟨hb2.size, fun k hk => hb2.block k hk⟩, ⟨_, hv2, ?_, fun k hk => ⟨(hZ0.out k hk).1, ?_⟩⟩, hb0.out.trans hb2⟩
    · obtain ⟨z1, z2⟩ := hZ0.out k hk
      have z3 := (hzb k hk).2
      refine (Below.heap_setCell w1 ⟨H, 0, none⟩ _ k (show k ≠ H by omega)).trans ?_
      exact (hgrow.block k (by simp; omega) z2).trans (Below.heap_alloc W _ k z3)
    · rw [List.length_append]
      unfold ints at hr2 ⊢
      rw [List.map_append]
      exact hr2
    · intro e
      rcases hob with h | h
      · exact (hZ0.out k hk).2 (e.trans h)
      · rw [h] at e
        have := (hzb k hk).2
        simp at e
        omega
  case done =>
    rintro D ys Z W hD hys ⟨⟨v, hv, hrow, _⟩, hB⟩ hK
    have hys' := Lib.hid hys; clear hys
    have hc1 := hv.cell
    have hrow' := Lib.hid hrow
    clear hrow
    gi_wp2
    refine ⟨by simp, .inl ⟨_, _, rfl, run_takeDeferred hK, ?_⟩⟩
    refine ⟨_, results_tmp rfl _ _ _, _, rfl, ?_, by rw [hH'.out]; exact hB.trans (belowK_b (n₀ := H) (w := W0) (by omega) W D _ _ (by omega) hK rfl rfl)⟩
    have h := ownsRow_putObj hrow'.out (.deferred none) hK rfl
    rw [hH'.out, ← hys'.out]
    exact h
  case stop =>
    rintro D c pre Z W _ _ h _
    exact h.elim


theorem collectS_any (n K j g cap : Nat) (ts : List Nat) (hp : Spn n K j ts) (w : World) (hg : g < w.heap.size) (hc : ∀ i, i < K → w.cell? ⟨g, i, none⟩ = some (.int .i64 ((ts[i]?.getD 0 : Nat) : Int))) :
    Calls Tryd.prog 51 #[.func (.func 52) #[.agg #[.int .i64 n, .slice (some ⟨g, 0, none⟩) K cap, .int .i64 j]] #[]] w fun e w' => ∃ v, e = .returned v ∧ w'.ownsRow w.heap.size 3 1 v (spansL n ts j).length (ints (spansL n ts j)) ∧ Below w.heap.size w w' := by
  have H := Lib.hid (appendS_any n K j g cap ts hp w hg hc)
  clear hp hc
  generalize spansL n ts j = xs at H
  go_enter Tryd.func51, Tryd.ntmps51
  go_wp2_with (go_at_call 73; refine H.out.mono ?_; rintro e w' ⟨v, rfl, ho, hb⟩; replace ho := Lib.hid ho)
  go_ret
  exact ⟨_, rfl, (by assumption : Hid _).out, by assumption⟩

theorem ints_enc (xs : List Nat) : ints xs = (xs.map fun (x : Nat) => (x : Int)).map encZ := by
  unfold ints
  rw [List.map_map]
  rfl

theorem holds_grow {W : World} {g : Nat} {d : Array Int} {os : Array Obj} (h : Holds (Value.int .i64) W g 0 d) (hg : g < W.heap.size) : Holds (Value.int .i64) (grow W os) g 0 d := fun j hj =>
  ⟨(World.cell?_of_block (w := W) (heap_grow_old _ _ hg)).trans (h j hj).1, (World.frozen?_of_block (w := W) (heap_grow_old _ _ hg)).trans (h j hj).2⟩

/-- A row of integers that the call has made, in use whole. -/
structure ZRow (lo : Nat) (W : World) (g : Nat) (zs : List Int) : Prop where
  lo : lo ≤ g
  lt : g < W.heap.size
  holds : Holds (Value.int .i64) W g 0 zs.toArray

def zsort (xs : List Nat) : List Int := (xs.map fun (x : Nat) => (x : Int)).mergeSort fun x y => decide (x ≤ y)
theorem zsort_length (xs : List Nat) : (zsort xs).length = xs.length := by simp [zsort]

theorem sortedS_any (n K j g cap : Nat) (ts : List Nat) (hp : Spn n K j ts) (w : World) (hg : g < w.heap.size) (hc : ∀ i, i < K → w.cell? ⟨g, i, none⟩ = some (.int .i64 ((ts[i]?.getD 0 : Nat) : Int))) :
    Calls Tryd.prog 75 #[.func (.func 52) #[.agg #[.int .i64 n, .slice (some ⟨g, 0, none⟩) K cap, .int .i64 j]] #[]] w fun e w' => ∃ g' cap' : Nat, e = .returned (.slice (some ⟨g', 0, none⟩) K cap') ∧ K ≤ cap' ∧ ZRow w.heap.size w' g' (zsort (spansL n ts j)) ∧ Below w.heap.size w w' := by
  have H := Lib.hid (collectS_any n K j g cap ts hp w hg hc)
  have hl : (spansL n ts j).length = K := by rw [spansL_length, hp.len]
  have hpos := hp.pos
  have htop := hp.top
  have hzl : ((spansL n ts j).map fun (x : Nat) => (x : Int)).length = K := by rw [List.length_map, hl]
  have HS := Lib.hid (fun blk cap W h1 h2 => Tryd.slices_Sort_int blk 0 cap ((spansL n ts j).map fun (x : Nat) => (x : Int)) W h1 h2 (by rw [hzl]; omega))
  have hzt : (zsort (spansL n ts j)).length = K := by rw [zsort_length, hl]
  have hz : zsort (spansL n ts j) = ((spansL n ts j).map fun (x : Nat) => (x : Int)).mergeSort fun x y => decide (x ≤ y) := rfl
  rw [ints_enc, hl] at H
  rw [← hz, hzl] at HS
  have HZL := Lib.hid hzl
  have HZT := Lib.hid hzt
  clear hp hc hz hl hzl hzt
  generalize zsort (spansL n ts j) = zt at HS HZT
  generalize ((spansL n ts j).map fun (x : Nat) => (x : Int)) = zs at H HS HZL
  go_enter Tryd.func75, Tryd.ntmps75
  go_wp2_with fail
  refine H.out.mono ?_
  rintro e w1 ⟨v, rfl, ho, hb⟩
  obtain ⟨_, ⟨_, h0⟩ | ⟨g', cap', cur, rfl, hg', hh, h1, h2, h3, h4⟩⟩ := ho
  · omega
  · have hH : Holds (Value.int .i64) w1 g' 0 zs.toArray := holds_of_block_i hh (by rw [HZL.out]; rw [Nat.mul_one] at h4; exact h4)
    have hgl : g' < w1.heap.size := (Array.getElem?_eq_some_iff.1 hh).1
    have hS := Lib.hid (HS.out g' cap' w1 hH hgl)
    have hH' := Lib.hid hH
    clear hH h4 h3
    go_wp2_with fail
    refine hS.out.mono ?_
    rintro e w2 ⟨rfl, m, os, rfl⟩
    have hgr := grownBy_sorted_i (w := w1) (g := g') (n := m) (os := os) zt.toArray
    have hb2 := hb.grown hgr hb.size (fun j hj => by cases hj; exact hg')
    have hz : Holds (Value.int .i64) (grow (putRow (Value.int .i64) (Sort.ahead w1 m) g' 0 zt.toArray) os) g' 0 zt.toArray :=
      holds_grow (holds_putRow _ _ g' 0 zs.toArray zt.toArray (fun j hj => hH'.out j hj) (by simp [HZL.out, HZT.out])) (by simpa [putRow, mapBlock, Sort.ahead] using hgl)
    have hz' := Lib.hid hz
    have hsz : g' < (grow (putRow (Value.int .i64) (Sort.ahead w1 m) g' 0 zt.toArray) os).heap.size := Nat.lt_of_lt_of_le hgl hgr.size
    have hb2' : Below w.heap.size w (grow (putRow (Value.int .i64) (Sort.ahead w1 m) g' 0 zt.toArray) os) := hb2
    clear hz hgr hb2 hH' hS hb hh
    generalize grow (putRow (Value.int .i64) (Sort.ahead w1 m) g' 0 zt.toArray) os = w2 at *
    go_wp2
    go_ret
    exact ⟨g', cap', rfl, h1, ⟨hg', hsz, hz'.out⟩, hb2'⟩

theorem compact_any (zs : List Int) (k g cap lo : Nat) (hk : zs.length = k) (hk2 : k ≤ 4096) (hcap : k ≤ cap) (V w : World) (h : ZRow lo w g zs) (hlo : V.heap.size ≤ lo) (hV : Below V.heap.size V w) :
    Calls Tryd.prog 41 #[.slice (some ⟨g, 0, none⟩) k cap] w fun e w' => e = .returned (.slice (some ⟨g, 0, none⟩) (Lib.compact zs).length cap) ∧
      (∀ i, i < (Lib.compact zs).length → w'.cell? ⟨g, i, none⟩ = some (.int .i64 ((Lib.compact zs)[i]?.getD 0))) ∧ Below V.heap.size V w' := by
  have H := Tryd.slices_Compact_int g 0 cap zs w h.holds (by omega) (by omega)
  rw [hk] at H
  refine H.mono ?_
  rintro e w' ⟨rfl, q, rfl⟩
  have hc := compact_length zs
  have hlen : (Lib.compact zs ++ List.replicate (k - (Lib.compact zs).length) (0 : Int)).toArray.size = zs.toArray.size := by simp; omega
  refine ⟨rfl, fun i hi => ?_, ?_⟩
  · have := cell?_putRow (Value.int .i64) (Sort.ahead w q) g 0 zs.toArray _ (fun j hj => h.holds j hj) hlen i (by rw [hlen]; simp; omega)
    rw [Nat.zero_add] at this
    rw [this]
    congr 2
    simp only [List.getElem!_toArray]
    rw [getElem!_pos _ i (by simp; omega), List.getElem_append_left hi, List.getElem?_eq_getElem hi]
    rfl
  · have hg : w.grownBy (putRow (Value.int .i64) (Sort.ahead w q) g 0 (Lib.compact zs ++ List.replicate (k - (Lib.compact zs).length) (0 : Int)).toArray) (some g) := by
      have := grownBy_sorted_i (w := w) (g := g) (n := q) (os := #[]) (Lib.compact zs ++ List.replicate (k - (Lib.compact zs).length) (0 : Int)).toArray
      rwa [grow_empty] at this
    exact hV.grown hg hV.size (fun j hj => by cases hj; have := h.lo; omega)

/-- All different sizes, rising. -/
def spL (n : Nat) (ts : List Nat) (j : Nat) : List Nat := (List.range n).filter fun x => decide (x ∈ spansL n ts j)

theorem spL_pos {n : Nat} {ts : List Nat} {j : Nat} (hK : 1 ≤ ts.length) (hlt : ∀ x ∈ spansL n ts j, x < n) : 1 ≤ (spL n ts j).length := by
  have h0 : spanN n ts j 0 ∈ spansL n ts j := mem_spansL.2 ⟨0, hK, rfl⟩
  have h1 : spanN n ts j 0 ∈ spL n ts j := by
    unfold spL
    rw [List.mem_filter, List.mem_range]
    exact ⟨hlt _ h0, decide_eq_true h0⟩
  exact List.length_pos_of_mem h1

theorem different_any (n K j g cap : Nat) (ts : List Nat) (hp : Spn n K j ts) (hlt : ∀ x ∈ spansL n ts j, x < n) (w : World) (hg : g < w.heap.size) (hc : ∀ i, i < K → w.cell? ⟨g, i, none⟩ = some (.int .i64 ((ts[i]?.getD 0 : Nat) : Int))) :
    Calls Tryd.prog 54 #[.agg #[.int .i64 n, .slice (some ⟨g, 0, none⟩) K cap, .int .i64 j]] w fun e w' => ∃ v, e = .returned v ∧ ListAt w' w.heap.size v (spL n ts j) ∧ Below w.heap.size w w' := by
  obtain ⟨W, hW⟩ : ∃ W, w.alloc (.cells #[.int .i64 n, .slice (some ⟨g, 0, none⟩) K cap, .int .i64 j] 50) = W := ⟨_, rfl⟩
  have hBW : Below w.heap.size w W := by rw [← hW]; exact below_two _ _
  have HS := Lib.hid (sortedS_any n K j g cap ts hp W (by have := hBW.size; omega) (fun i hi => cell_later hBW (hc i hi)))
  have hl : (zsort (spansL n ts j)).length = K := by rw [zsort_length, spansL_length, hp.len]
  have htop := hp.top
  have HC := Lib.hid (fun g cap U V k1 k2 k3 k4 => compact_any (zsort (spansL n ts j)) K g cap W.heap.size hl (by omega) k1 V U k2 k3 k4)
  have hzc : Lib.compact (zsort (spansL n ts j)) = (spL n ts j).map fun (x : Nat) => (x : Int) := class_list n (spansL n ts j) hlt
  have hlen : (spL n ts j).length ≤ K := by
    have := compact_length (zsort (spansL n ts j))
    rw [hzc, List.length_map, hl] at this
    exact this
  have HW := Lib.hid hW
  have HZC := Lib.hid hzc
  clear hp hc hW hzc hl hlt
  generalize zsort (spansL n ts j) = zs at HS HC HZC
  generalize spL n ts j = L at HZC hlen
  go_enter Tryd.func54, Tryd.ntmps54
  go_wp2_with fail
  rw [HW.out]
  refine HS.out.mono ?_
  rintro e w2 ⟨g', cap', rfl, hcap, hz, hb⟩
  have hC := Lib.hid (HC.out g' cap' w2 W hcap hz (Nat.le_refl _) hb)
  have hg' := hz.lo
  clear hz hb
  go_wp2_with fail
  refine hC.out.mono ?_
  rintro e w3 ⟨rfl, hcell, hb3⟩
  rw [HZC.out] at hcell ⊢
  rw [List.length_map] at hcell ⊢
  have hcl := Lib.hid hcell
  clear hcell
  go_wp2
  go_ret
  refine ⟨_, rfl, ⟨g', cap', rfl, by have := hBW.size; omega, by omega, fun i hi => ?_⟩, hBW.trans (hb3.mono hBW.size)⟩
  have := hcl.out i hi
  rw [this, List.getElem?_map, List.getElem?_eq_getElem hi]
  rfl

end Go.Proofs.YtmemnkmmjejlgaaDoor
