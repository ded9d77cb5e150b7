/-
  slices.AppendSeq, Collect, Sorted at the partners.
-/
import Derived.Test.YtbdmljakdjdjkaaDoorZaLeafA
import Derived.Test.YtbdmljakdjdjkaaDoorZaCaPartners
import Derived.Test.YtbdmljakdjdjkaaDoorMem
import Derived.Maps.OwnIn
namespace Go.Proofs.YtbdmljakdjdjkaaDoor.Za
open Go.RowKit Go.Shelf
attribute [local go_sem] Oper.semAt_some
set_option maxRecDepth 100000

theorem info_int : (Tryd.prog.info? 3).map (fun i => (i.zero, i.size, i.bytes)) = some (some (.int .i64 0), 1, 8) := by kernel_rfl

/-- What is gathered: a slice in a box, its row a block of its own. -/
def HoldI (H : Nat) (w : World) (pre : List Nat) (Z : Nat → Prop) (W : World) : Prop :=
  (∃ v, Boxed W H 30 v ∧ W.ownsRow H 3 1 v pre.length (ints pre) ∧ ∀ k, Z k → H < k ∧ some k ≠ v.ownBlock) ∧ Below H w W

theorem HoldI.step {H : Nat} {w W W' : World} {pre : List Nat} {Z : Nat → Prop} {row : Option Nat} (h : HoldI H w pre Z W) (hg : W.grownBy W' row) (hH : H ≤ w.heap.size) (h1 : some H ≠ row) (h2 : ∀ r, row = some r → H ≤ r)
    (h3 : ∀ v g, row = some g → W.ownsRow H 3 1 v pre.length (ints pre) → v.ownBlock = some g → Boxed W H 30 v → False) : HoldI H w pre Z W' := by
  obtain ⟨⟨v, hv, hr, hz⟩, hb⟩ := h
  refine ⟨⟨v, hv.kept hg h1, hr.kept hg ?_, hz⟩, hb.grown hg (Nat.le_trans hH hb.size) h2⟩
  cases ho : v.ownBlock with
  | none => exact Or.inl rfl
  | some g => exact Or.inr (fun e => h3 v g e.symm hr ho hv)

theorem grow_set (W : World) (r i : Nat) (u : Value) : W.grownBy (W.setCell ⟨r, i, none⟩ u) (some r) :=
  ⟨rfl, rfl, rfl, by simp [World.setCell], fun k _ hne => Below.heap_setCell W ⟨r, i, none⟩ u k (fun e => hne (by rw [e]))⟩

theorem own_cells {W : World} {base g : Nat} {e : TypeId} {size n : Nat} {v : Value} {xs : List Value} (h : W.ownsRow base e size v n xs) (hg : v.ownBlock = some g) : ∃ cur, W.heap[g]? = some (.cells cur e (0, 0)) := by
  rcases h.2 with ⟨rfl, _⟩ | ⟨g', cap, cur, rfl, _, hh, _⟩
  · cases hg
  · simp only [Value.ownBlock, Option.some.injEq] at hg
    subst hg
    exact ⟨cur, hh⟩

theorem HoldI.sep {H B : Nat} {w : World} (hH : H ≤ w.heap.size) (hB : H < B) : Sep B (HoldI H w) :=
  { grow := fun s Z W W' row h hg hr => h.step hg hH (fun e => by have := (hr H e.symm).1; omega) (fun r e => by have := (hr r e).1; omega) (fun v g e ho hb _ => by
      obtain ⟨o, ho2, hc⟩ := (hr g e).2
      obtain ⟨cur, h3⟩ := own_cells ho hb
      rw [h3] at ho2; cases ho2; cases hc)
    priv := fun s Z W r i u h hz => by
      obtain ⟨⟨v, hv, hr, hzz⟩, hb⟩ := h
      have hg : W.grownBy (W.setCell ⟨r, i, none⟩ u) (some r) := grow_set W r i u
      obtain ⟨z1, z2⟩ := hzz r hz
      refine ⟨⟨v, hv.kept hg (fun e => by cases e; omega), hr.kept hg ?_, hzz⟩, hb.grown hg (Nat.le_trans hH hb.size) (fun k e => by cases e; omega)⟩
      cases ho : v.ownBlock with
      | none => exact Or.inl rfl
      | some g => exact Or.inr (fun e => by rw [ho] at z2; exact z2 e.symm)
    take := fun s Z W o h => by
      obtain ⟨⟨v, hv, hr, hzz⟩, hb⟩ := h
      refine ⟨⟨v, hv.alloc o, hr.alloc o, fun k hk => ?_⟩, hb.alloc (Nat.le_trans hH hb.size) o⟩
      rcases hk with hk | rfl
      · exact hzz k hk
      · refine ⟨hv.lt, fun e => ?_⟩
        have := (hr.lt _ e.symm).2
        omega
    draw := fun s Z W ⟨⟨v, hv, hr, hzz⟩, hb⟩ => ⟨⟨v, hv, hr, hzz⟩, hb.drew⟩ }

theorem seqSep_enters : ∀ args w, (callFunc 36 args).run Tryd.prog w = .ok (.enter 36 args) w := fun args w => enters_of Tryd.func36 (by kernel_rfl) rfl args w

set_option maxHeartbeats 2000000 in
theorem appendP_any (n a nB aB : Nat) (hn : 2 ≤ n) (hn2 : n ≤ 24) (ha : a < 2 ^ n) (ha1 : a % 2 = 1) (w : World) (hT : Tab w) (hcn : w.cell? ⟨nB, 0, none⟩ = some (.int .i64 n)) (hca : w.cell? ⟨aB, 0, none⟩ = some (.int .i64 a)) :
    Calls Tryd.prog 49 #[.slice none 0 0, .func (.func 36) #[] #[.pointer (some ⟨nB, 0, none⟩), .pointer (some ⟨aB, 0, none⟩)]] w fun e w' => ∃ v, e = .returned v ∧ w'.ownsRow w.heap.size 3 1 v (partners n a).length (ints (partners n a)) ∧ Below w.heap.size w w' := by
  have hTs := hT.size
  have hBn := World.block_lt_of_cell? w _ hcn
  have hBa := World.block_lt_of_cell? w _ hca
  dsimp only at hBn hBa
  obtain ⟨i0, hi, hz0, hz1, hz2⟩ := info_parts info_int
  obtain ⟨N, hN1, hN2⟩ : ∃ N : Nat, 1073741824 * 25 ≤ N ∧ N ≤ 1099511627776 := ⟨26843545600, by decide, by decide⟩
  refine (callsIn_wide (n := 9)).1 ?_
  refine callsIn_of_wp_marks Tryd.func49 rfl trivial ?_ rfl
  simp only [Tryd.ntmps49, List.size_toArray, List.length_cons, List.length_nil, Nat.reduceAdd, Nat.reduceSub, Array.replicate_succ, Array.replicate_zero, List.push_toArray, List.append_toArray, List.nil_append, List.cons_append]
  gi_wp2
  obtain ⟨H, hH⟩ : ∃ H, w.heap.size = H := ⟨_, rfl⟩
  have hH' := Lib.hid hH
  have hHle : H ≤ w.heap.size := by omega
  have hHl1 : 1 < H := by omega
  have b0 : Boxed (w.alloc (Obj.cells #[.slice none 0 0] 30)) H 30 (.slice none 0 0) := by rw [← hH]; exact Boxed.new w _ _
  have hB0 : Below H w (w.alloc (Obj.cells #[.slice none 0 0] 30)) := by rw [← hH]; exact (Below.refl _ w).alloc (Nat.le_refl _) _
  have hS0 : (w.alloc (Obj.cells #[.slice none 0 0] 30)).heap.size = H + 1 := by rw [← hH]; simp
  rw [hH]
  generalize w.alloc (Obj.cells #[.slice none 0 0] 30) = W0 at b0 hB0 hS0 ⊢
  have hT0 : Tab W0 := hT.below hB0 (by omega)
  have hBw : Below w.heap.size w W0 := by rw [hH]; exact hB0
  have c1 := cell_later hBw hcn
  have c2 := cell_later hBw hca
  have hSS : ∀ k, k < H → k < W0.heap.size := fun k h => by omega
  rw [hH] at hBn hBa
  clear hH hcn hca
  refine wpIn_rangeFunc_sep (by omega) (gf := 36) (lb := #[.pointer (some ⟨nB, 0, none⟩), .pointer (some ⟨aB, 0, none⟩)]) rfl seqSep_enters
    (partners1_seq n a nB aB N (fun k => k < H) hn hn2 ha ha1 hN1 W0 hT0 (show 1 < H by omega) hBn hBa hSS c1 c2) keptOn_t (keptOn_b hSS) (Below.refl _ _) (fun _ => rfl)
    (HoldI H w) (fun _ _ _ _ => False) (HoldI.sep hHle (by omega)) (fun _ => ⟨fun _ _ _ _ _ h _ _ => h, fun _ _ _ _ _ _ h _ => h, fun _ _ _ _ h => h, fun _ _ _ h => h⟩)
    ⟨⟨_, b0, World.ownsRow_nil _ _ _ _, fun k h => h.elim⟩, hB0⟩
    (fun x => { tmps := #[.slice none 0 0, .func (.func 36) #[] #[.pointer (some ⟨nB, 0, none⟩), .pointer (some ⟨aB, 0, none⟩)], .pointer (some ⟨H, 0, none⟩), undef, .slice none 0 0, .int .i64 x, .func (.func 36) #[] #[.pointer (some ⟨nB, 0, none⟩), .pointer (some ⟨aB, 0, none⟩)], .int .i64 x, undef, undef, undef, undef, undef], defers := [] }) ?assign ?body ?done ?stop
  case assign =>
    intro l x W K hK
    gi_wp2
    exact hK
  case body =>
    rintro l pre x Z W ⟨⟨v, hv, hrow, hz⟩, hB⟩ hzb hlt
    have hc0 := hv.cell
    have hBs := hB.size
    have hw0 := Lib.hid hv
    have hr0 := Lib.hid hrow
    have hb0 := Lib.hid hB
    have hZ0 := Lib.hid hz
    clear hv hrow hB hz
    gi_wp2_with (gi_at_builtin; refine wpListIn_append_own_at _ rfl _ _ 30 rfl H 3 i0 (.int .i64 0) 1 8 Tryd.underlying30 hi hz0 hz1 hz2 rfl (by decide) _ _ _ rfl (hr0.out.alloc _) ⟨W.heap.size, 0, none⟩ 1 1 [.int .i64 x] rfl rfl (cell_one_new _ _ _) (by simp [Value.oneCell']) (by unfold maxLen; omega) (by omega) (by simp; omega) ?_; intro v' w1 hown' hgrow _ hob; obtain ⟨g', cap', rfl⟩ := ownsRow_succ hown'; obtain ⟨hv1, hv2, hr2, hk2, hb2⟩ := hw0.out.appended (by decide) hr0.out (by omega) (Nat.le_refl _) hown' hgrow; have hc1 := hv1.cell; have hf1 := hv1.frozen)
    refine ⟨hk2, ⟨hb2.size, fun k hk => ?_⟩, ⟨hb2.size, fun k hk => hb2.block k hk⟩, ⟨_, hv2, ?_, fun k hk => ⟨(hZ0.out k hk).1, ?_⟩⟩, hb0.out.trans hb2⟩
    · obtain ⟨z1, z2⟩ := hZ0.out k hk
      have z3 := (hzb k hk).2
      refine (Below.heap_setCell w1 ⟨H, 0, none⟩ _ k (show k ≠ H by omega)).trans ?_
      exact (hgrow.block k (by simp; omega) z2).trans (Below.heap_alloc W _ k z3)
    · rw [List.length_append]
      unfold ints at hr2 ⊢
      rw [List.map_append]
      exact hr2
    · intro e
      rcases hob with h | h
      · exact (hZ0.out k hk).2 (e.trans h)
      · rw [h] at e
        have := (hzb k hk).2
        simp at e
        omega
  case done =>
    rintro D ys Z W hD hys ⟨⟨v, hv, hrow, _⟩, hB⟩ hK
    have hys' := Lib.hid hys; clear hys
    have hc1 := hv.cell
    have hrow' := Lib.hid hrow
    clear hrow
    gi_wp2
    refine ⟨by simp, .inl ⟨_, _, rfl, run_takeDeferred hK, ?_⟩⟩
    refine ⟨_, results_tmp rfl _ _ _, _, rfl, ?_, by rw [hH'.out]; exact hB.trans (belowK_b (n₀ := H) (w := W0) (by omega) W D _ _ (by omega) hK rfl rfl)⟩
    have h := ownsRow_putObj hrow'.out (.deferred none) hK rfl
    rw [hH'.out, ← hys'.out]
    exact h
  case stop =>
    rintro D c pre Z W _ _ h _
    exact h.elim

end Go.Proofs.YtbdmljakdjdjkaaDoor.Za
