/-
  hasPartner: its contract.
-/
import Derived.Test.YtehjdhegnpmfaabDoorCaCount
import Derived.Test.YtehjdhegnpmfaabDoorCaPlain
namespace Go.Proofs.YtehjdhegnpmfaabDoor
open Go.RowKit Go.Shelf
attribute [local go_sem] Oper.semAt_some
set_option maxRecDepth 100000

/-- A flag in a box, none yet counted. -/
def HoldF (H c : Nat) (w : World) (ok : List Nat → Prop) (u : Bool) (pre : List Nat) (Z : Nat → Prop) (W : World) : Prop :=
  (ok pre ∧ W.cell? ⟨c, 0, none⟩ = some (.bool u) ∧ W.frozen? ⟨c, 0, none⟩ = false ∧ ∀ k, Z k → c < k) ∧ Below H w W

theorem HoldF.sep {H c B : Nat} {w : World} {ok : List Nat → Prop} {u : Bool} (hH : H ≤ w.heap.size) (hc : H ≤ c) (hB : c < B) : Sep B (HoldF H c w ok u) :=
  { grow := fun s Z W W' row ⟨⟨h0, h1, h2, h3⟩, hb⟩ hg hr => ⟨⟨h0, cell_kept h1 hg (fun r e => (hr r e).2), (frozen_kept h1 hg (fun r e => (hr r e).2)).trans h2, h3⟩, hb.grown hg (Nat.le_trans hH hb.size) (fun k e => by have := (hr k e).1; omega)⟩
    priv := fun s Z W r i u ⟨⟨h0, h1, h2, h3⟩, hb⟩ hz => by
      have h4 := h3 r hz
      exact ⟨⟨h0, cell_set_other h1 (show c ≠ r by omega), frozen_set h2, h3⟩, hb.setCell (p := ⟨r, i, none⟩) (show H ≤ r by omega) u⟩
    take := fun s Z W o ⟨⟨h0, h1, h2, h3⟩, hb⟩ => by
      have hl := World.block_lt_of_cell? W _ h1
      dsimp only at hl
      refine ⟨⟨h0, cell_up h1, frozen_up h1 h2, fun k hk => ?_⟩, hb.alloc (Nat.le_trans hH hb.size) o⟩
      rcases hk with hk | rfl
      · exact h3 k hk
      · exact hl
    draw := fun s Z W ⟨⟨h0, h1, h2, h3⟩, hb⟩ => ⟨⟨h0, h1, h2, h3⟩, hb.drew⟩ }

set_option maxHeartbeats 2000000 in
theorem hasPartner_any (n a : Nat) (hn : 2 ≤ n) (hn2 : n ≤ 24) (ha : a < 2 ^ n) (ha1 : a % 2 = 1) (w : World) (hT : Tab w) :
    Calls Tryd.prog 66 #[.int .i64 n, .int .i64 a] w fun e w' => e = .returned (.bool (decide (partners n a ≠ []))) ∧ Below w.heap.size w w' := by
  have hTs := hT.size
  have HI := Lib.hid (partners_any (n : Int) (a : Int))
  obtain ⟨N, hN1, hN2⟩ : ∃ N : Nat, 1073741824 * 25 ≤ N ∧ N ≤ 1099511627776 := ⟨26843545600, by decide, by decide⟩
  refine (callsIn_wide (n := 9)).1 ?_
  refine callsIn_of_wp_marks Tryd.func66 rfl trivial ?_ rfl
  simp only [Tryd.ntmps66, List.size_toArray, List.length_cons, List.length_nil, Nat.reduceAdd, Nat.reduceSub, Array.replicate_succ, Array.replicate_zero, List.push_toArray, List.append_toArray, List.nil_append, List.cons_append]
  gi_wp2_with (refine ⟨trivial, ?_⟩; gi_at_call 53; refine (callsIn_wide.2 (HI.out _)).mono ?_; rintro e w' ⟨rfl, rfl⟩)
  obtain ⟨H, hH⟩ : ∃ H, w.heap.size = H := ⟨_, rfl⟩
  have hHle : H ≤ w.heap.size := by omega
  have hHl1 : 1 < H := by omega
  obtain ⟨W0, hW0⟩ : ∃ W0, (((w.alloc (Obj.cells #[Value.bool false] 4)).alloc (Obj.cells #[Value.int IntKind.i64 ↑n] 3)).alloc (Obj.cells #[Value.int IntKind.i64 ↑a] 3)) = W0 := ⟨_, rfl⟩
  have c1 : W0.cell? ⟨H, 0, none⟩ = some (.bool false) := by rw [← hW0]; exact cell_up (cell_up (cell_at (by omega)))
  have f1 : W0.frozen? ⟨H, 0, none⟩ = false := by rw [← hW0]; exact frozen_up (cell_up (cell_at (by omega))) (frozen_up (cell_at (by omega)) (frozen_at (by omega)))
  have c2 : W0.cell? ⟨H + 1, 0, none⟩ = some (.int .i64 n) := by rw [← hW0]; exact cell_up (cell_at (by simp; omega))
  have c3 : W0.cell? ⟨H + 1 + 1, 0, none⟩ = some (.int .i64 a) := by rw [← hW0]; exact cell_at (by simp; omega)
  have hB0 : Below H w W0 := by rw [← hW0, ← hH]; exact (((Below.refl _ w).alloc (Nat.le_refl _) _).alloc (by simp) _).alloc (by simp; omega) _
  have hS0 : W0.heap.size = H + 3 := by rw [← hW0, ← hH]; simp
  have hT0 : Tab W0 := hT.below hB0 (by omega)
  rw [hW0, hH]
  have hH' := Lib.hid hH
  have hSS : ∀ k, k < H + 3 ∧ k ≠ H → k < W0.heap.size := fun k h => by omega
  clear hW0 hH
  refine wpIn_rangeFunc_sep (by omega) (gf := 74) (lb := #[.pointer (some ⟨H + 1, 0, none⟩), .pointer (some ⟨H + 1 + 1, 0, none⟩)]) rfl seqSep_enters
    (partners1_seq n a (H + 1) (H + 1 + 1) N (fun k => k < H + 3 ∧ k ≠ H) hn hn2 ha ha1 hN1 W0 hT0 (show 1 < H + 3 ∧ 1 ≠ H by omega) ⟨by omega, by omega⟩ ⟨by omega, by omega⟩ hSS c2 c3) keptOn_t (keptOn_b hSS) (Below.refl _ _) (fun _ => rfl)
    (HoldF H H w (fun pre => pre = []) false) (fun c => HoldF H H w (fun pre => c = .ret ∧ pre ≠ []) true) (HoldF.sep hHle (by omega) (by omega)) (fun _ => HoldF.sep hHle (by omega) (by omega))
    ⟨⟨rfl, c1, f1, fun k h => h.elim⟩, hB0⟩
    (fun x => { tmps := #[.int .i64 n, .int .i64 a, undef, undef, .pointer (some ⟨H, 0, none⟩), .int .i64 n, .int .i64 a, .func (.func 74) #[] #[.pointer (some ⟨H + 1, 0, none⟩), .pointer (some ⟨H + 1 + 1, 0, none⟩)], .int .i64 x], defers := [] }) ?assign ?body ?done ?stop
  case assign =>
    intro l x W K hK
    gi_wp2
    simpa using hK
  case body =>
    rintro l pre x Z W ⟨⟨hp, hc1, hc2, hz⟩, hB⟩ _ hlt
    have HB := Lib.hid hB
    have HZ := Lib.hid hz
    clear hB hz
    gi_wp2
    exact ⟨KeepsOthers.setCell _ _ _, (KeptOn.refl _ W).setCell (p := ⟨H, 0, none⟩) (fun h => by have := HZ.out _ h; dsimp only at this; omega) _, (KeptOn.refl _ W).setCell (p := ⟨H, 0, none⟩) (fun h => h.2 rfl) _,
      ⟨⟨rfl, by simp⟩, cell_set_same hc1, frozen_set hc2, HZ.out⟩, HB.out.setCell (p := ⟨H, 0, none⟩) (Nat.le_refl H) _⟩
  case done =>
    rintro D ys Z W hD hys ⟨⟨hp, hc1, hc2, _⟩, hB⟩ hK
    have HB := Lib.hid hB
    have HE := Lib.hid (show partners n a = [] by rw [← hys]; exact hp)
    clear hB hys hp
    gi_wp2
    have hK' := (KeepsOthers.setCell W ⟨H, 0, none⟩ (.bool false)).same D _ hK rfl
    refine ⟨by simp, .inl ⟨_, _, rfl, run_takeDeferred hK', ?_⟩⟩
    have hc5 := cell_kept (cell_set_same (u := .bool false) hc1) (grownBy_putObj' _ D (.deferred none)) (fun r e => by cases e; exact ⟨_, hK', rfl⟩)
    refine ⟨.bool false, ?_, by rw [HE.out]; rfl, by rw [hH'.out]; exact (HB.out.setCell (p := ⟨H, 0, none⟩) (Nat.le_refl H) _).trans (belowK_b (w := W0) (by omega) _ D _ _ (by omega) hK' rfl rfl)⟩
    simp [results, Tryd.f66, go_sem, hc5]
  case stop =>
    rintro D c pre Z W hD ⟨q, hq⟩ ⟨⟨⟨rfl, hp⟩, hc1, hc2, _⟩, hB⟩ hK
    have HB := Lib.hid hB
    have HE := Lib.hid (show decide (partners n a ≠ []) = true by
      rw [decide_eq_true_eq, hq]
      intro e
      exact hp (List.append_eq_nil_iff.1 e).1)
    clear hB hq hp
    gi_wp2
    refine ⟨by simp, .inl ⟨_, _, rfl, run_takeDeferred hK, ?_⟩⟩
    have hc5 := cell_kept hc1 (grownBy_putObj' _ D (.deferred none)) (fun r e => by cases e; exact ⟨_, hK, rfl⟩)
    refine ⟨.bool true, ?_, by rw [HE.out], by rw [hH'.out]; exact HB.out.trans (belowK_b (w := W0) (by omega) _ D _ _ (by omega) hK rfl rfl)⟩
    simp [results, Tryd.f66, go_sem, hc5]

end Go.Proofs.YtehjdhegnpmfaabDoor
