/-
  Partners: how many.
-/
import Derived.Test.YtehjdhegnpmfaabDoorCaSorted
namespace Go.Proofs.YtehjdhegnpmfaabDoor
open Go.RowKit Go.Shelf
attribute [local go_sem] Oper.semAt_some
set_option maxRecDepth 100000

/-- What is counted, in a box. -/
def HoldC (H c : Nat) (w : World) (pre : List Nat) (Z : Nat → Prop) (W : World) : Prop :=
  (W.cell? ⟨c, 0, none⟩ = some (.int .i64 (pre.length : Nat)) ∧ W.frozen? ⟨c, 0, none⟩ = false ∧ ∀ k, Z k → c < k) ∧ Below H w W

theorem HoldC.sep {H c B : Nat} {w : World} (hH : H ≤ w.heap.size) (hc : H ≤ c) (hB : c < B) : Sep B (HoldC H c w) :=
  { grow := fun s Z W W' row ⟨⟨h1, h2, h3⟩, hb⟩ hg hr => ⟨⟨cell_kept h1 hg (fun r e => (hr r e).2), (frozen_kept h1 hg (fun r e => (hr r e).2)).trans h2, h3⟩, hb.grown hg (Nat.le_trans hH hb.size) (fun k e => by have := (hr k e).1; omega)⟩
    priv := fun s Z W r i u ⟨⟨h1, h2, h3⟩, hb⟩ hz => by
      have h4 := h3 r hz
      exact ⟨⟨cell_set_other h1 (show c ≠ r by omega), frozen_set h2, h3⟩, hb.setCell (p := ⟨r, i, none⟩) (show H ≤ r by omega) u⟩
    take := fun s Z W o ⟨⟨h1, h2, h3⟩, hb⟩ => by
      have hl := World.block_lt_of_cell? W _ h1
      dsimp only at hl
      refine ⟨⟨cell_up h1, frozen_up h1 h2, fun k hk => ?_⟩, hb.alloc (Nat.le_trans hH hb.size) o⟩
      rcases hk with hk | rfl
      · exact h3 k hk
      · exact hl
    draw := fun s Z W ⟨⟨h1, h2, h3⟩, hb⟩ => ⟨⟨h1, h2, h3⟩, hb.drew⟩ }

theorem Partners_bad (n a : Int) (h : vldB n a = false) (w : World) :
    Calls Tryd.prog 21 #[.int .i64 n, .int .i64 a] w fun e w' => e = .returned (.tuple #[.int .i64 0, .int .i64 2]) ∧ Below w.heap.size w w' := by
  have HV := Lib.hid (valid1 n a _ h)
  clear h
  go_enter Tryd.func21, Tryd.ntmps21
  go_wp2_with (go_at_call 46; refine (HV.out _ _ _ (cell_at rfl)).mono ?_; rintro e w' ⟨rfl, rfl⟩)
  go_ret2
  exact ⟨rfl, below_two _ _⟩

set_option maxHeartbeats 2000000 in
theorem Partners_ok (n a : Nat) (hn : 2 ≤ n) (hn2 : n ≤ 24) (ha : a < 2 ^ n) (ha1 : a % 2 = 1) (w : World) (hT : Tab w) :
    Calls Tryd.prog 21 #[.int .i64 n, .int .i64 a] w fun e w' => e = .returned (.tuple #[.int .i64 ((partners n a).length : Nat), .int .i64 0]) ∧ Below w.heap.size w w' := by
  have hTs := hT.size
  have HV := Lib.hid (valid1 n a true (vldB_of_nat hn hn2 ha ha1))
  have HI := Lib.hid (partners_any (n : Int) (a : Int))
  obtain ⟨N, hN1, hN2⟩ : ∃ N : Nat, 1073741824 * 25 ≤ N ∧ N ≤ 1099511627776 := ⟨26843545600, by decide, by decide⟩
  refine (callsIn_wide (n := 9)).1 ?_
  refine callsIn_of_wp_marks Tryd.func21 rfl trivial ?_ rfl
  simp only [Tryd.ntmps21, List.size_toArray, List.length_cons, List.length_nil, Nat.reduceAdd, Nat.reduceSub, Array.replicate_succ, Array.replicate_zero, List.push_toArray, List.append_toArray, List.nil_append, List.cons_append]
  gi_wp2_with (refine ⟨trivial, ?_⟩; first | (gi_at_call 46; refine (callsIn_wide.2 (HV.out _ _ _ (cell_at rfl))).mono ?_; rintro e w' ⟨rfl, rfl⟩) | (gi_at_call 53; refine (callsIn_wide.2 (HI.out _)).mono ?_; rintro e w' ⟨rfl, rfl⟩))
  obtain ⟨H, hH⟩ : ∃ H, w.heap.size = H := ⟨_, rfl⟩
  have hHle : H ≤ w.heap.size := by omega
  have hHl1 : 1 < H := by omega
  obtain ⟨W0, hW0⟩ : ∃ W0, ((((w.alloc (Obj.cells #[Value.int IntKind.i64 ↑a] 3)).alloc (Obj.cells #[Value.int IntKind.i64 0] 3)).alloc (Obj.cells #[Value.int IntKind.i64 ↑n] 3)).alloc (Obj.cells #[Value.int IntKind.i64 ↑a] 3)) = W0 := ⟨_, rfl⟩
  have c1 : W0.cell? ⟨H + 1, 0, none⟩ = some (.int .i64 ((([] : List Nat).length : Nat) : Int)) := by rw [← hW0]; exact cell_up (cell_up (cell_at (by simp; omega)))
  have f1 : W0.frozen? ⟨H + 1, 0, none⟩ = false := by rw [← hW0]; exact frozen_up (cell_up (cell_at (by simp; omega))) (frozen_up (cell_at (by simp; omega)) (frozen_at (by simp; omega)))
  have c2 : W0.cell? ⟨H + 1 + 1, 0, none⟩ = some (.int .i64 n) := by rw [← hW0]; exact cell_up (cell_at (by simp; omega))
  have c3 : W0.cell? ⟨H + 1 + 1 + 1, 0, none⟩ = some (.int .i64 a) := by rw [← hW0]; exact cell_at (by simp; omega)
  have hB0 : Below H w W0 := by rw [← hW0, ← hH]; exact ((((Below.refl _ w).alloc (Nat.le_refl _) _).alloc (by simp) _).alloc (by simp; omega) _).alloc (by simp; omega) _
  have hS0 : W0.heap.size = H + 4 := by rw [← hW0, ← hH]; simp
  have hT0 : Tab W0 := hT.below hB0 (by omega)
  rw [hW0, hH]
  have hH' := Lib.hid hH
  have hSS : ∀ k, k < H + 4 ∧ k ≠ H + 1 → k < W0.heap.size := fun k h => by omega
  clear hW0 hH
  refine wpIn_rangeFunc_sep (by omega) (gf := 74) (lb := #[.pointer (some ⟨H + 1 + 1, 0, none⟩), .pointer (some ⟨H + 1 + 1 + 1, 0, none⟩)]) rfl seqSep_enters
    (partners1_seq n a (H + 1 + 1) (H + 1 + 1 + 1) N (fun k => k < H + 4 ∧ k ≠ H + 1) hn hn2 ha ha1 hN1 W0 hT0 (show 1 < H + 4 ∧ 1 ≠ H + 1 by omega) ⟨by omega, by omega⟩ ⟨by omega, by omega⟩ hSS c2 c3) keptOn_t (keptOn_b hSS) (Below.refl _ _) (fun _ => rfl)
    (HoldC H (H + 1) w) (fun _ _ _ _ => False) (HoldC.sep hHle (by omega) (by omega)) (fun _ => ⟨fun _ _ _ _ _ h _ _ => h, fun _ _ _ _ _ _ h _ => h, fun _ _ _ _ h => h, fun _ _ _ h => h⟩)
    ⟨⟨c1, f1, fun k h => h.elim⟩, hB0⟩
    (fun x => { tmps := #[.int .i64 n, .int .i64 a, undef, undef, .int .i64 0, .int .i64 0, .pointer (some ⟨H + 1, 0, none⟩), .int .i64 n, .int .i64 a, .slice (some ⟨H, 0, none⟩) 1 1, .bool true, .bool false, .int .i64 n, .int .i64 a, .func (.func 74) #[] #[.pointer (some ⟨H + 1 + 1, 0, none⟩), .pointer (some ⟨H + 1 + 1 + 1, 0, none⟩)], .int .i64 x, undef, undef, undef], defers := [] }) ?assign ?body ?done ?stop
  case assign =>
    intro l x W K hK
    gi_wp2
    simpa using hK
  case body =>
    rintro l pre x Z W ⟨⟨hc1, hc2, hz⟩, hB⟩ _ hlt
    have HB := Lib.hid hB
    have HZ := Lib.hid hz
    have hsn := Lib.hid (show (pre ++ [x]).length = pre.length + 1 by simp)
    clear hB hz
    generalize pre.length = L at hc1 hlt hsn
    gi_wp2
    refine ⟨KeepsOthers.setCell _ _ _, (KeptOn.refl _ W).setCell (p := ⟨H + 1, 0, none⟩) (fun h => by have := HZ.out _ h; dsimp only at this; omega) _, (KeptOn.refl _ W).setCell (p := ⟨H + 1, 0, none⟩) (fun h => h.2 rfl) _,
      ⟨(cell_set_same hc1).trans ?_, frozen_set hc2, HZ.out⟩, HB.out.setCell (p := ⟨H + 1, 0, none⟩) (show H ≤ H + 1 by omega) _⟩
    rw [hsn.out]
    simp
  case done =>
    rintro D ys Z W hD hys ⟨⟨hc1, hc2, _⟩, hB⟩ hK
    have HB := Lib.hid hB
    rw [hys] at hc1
    have hys' := Lib.hid hys; clear hys
    clear hB
    obtain ⟨L, hL⟩ : ∃ L, (partners n a).length = L := ⟨_, rfl⟩
    rw [hL] at hc1
    have HL := Lib.hid hL
    clear hL
    gi_wp2
    refine ⟨by simp, .inl ⟨_, _, rfl, run_takeDeferred hK, ?_⟩⟩
    refine ⟨.tuple #[.int .i64 L, .int .i64 0], by simp [results, Tryd.f21, go_sem], by rw [HL.out], by rw [hH'.out]; exact HB.out.trans (belowK_b (n₀ := H) (w := W0) (by omega) W D _ _ (by omega) hK rfl rfl)⟩
  case stop =>
    rintro D c pre Z W _ _ h _
    exact h.elim

end Go.Proofs.YtehjdhegnpmfaabDoor
