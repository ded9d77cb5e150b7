/-
  isPrime: its contract (a return out of a range over an iterator).
-/
import Derived.Test.YtehjdhegnpmfaaaDoorPrime
namespace Go.Proofs.YtehjdhegnpmfaaaDoor
open Go.RowKit Go.Shelf
attribute [local go_sem] Oper.semAt_some
set_option maxRecDepth 100000

/-- No image is less. -/
def primeB (n c : Nat) : Bool := decide (∀ x ∈ imgs n c, c ≤ x)

set_option maxHeartbeats 1000000 in
theorem isPrime_any (n c : Nat) (hn : 2 ≤ n) (hn2 : n ≤ 16) (hc : c < 2 ^ n) (w : World) (hT : Tab w) :
    Calls Tryd.prog 77 #[.int .i64 n, .int .i64 c] w fun e w' => e = .returned (.bool (primeB n c)) ∧ Below w.heap.size w w' := by
  have hTs := hT.size
  refine (callsIn_wide (n := 9)).1 ?_
  refine callsIn_of_wp_marks Tryd.func77 rfl trivial ?_ rfl
  simp only [Tryd.ntmps77, List.size_toArray, List.length_cons, List.length_nil, Nat.reduceAdd, Nat.reduceSub, Array.replicate_succ, Array.replicate_zero, List.push_toArray, List.append_toArray, List.nil_append, List.cons_append]
  gi_wp2_with (refine ⟨trivial, ?_⟩; gi_at_call 59; refine (callsIn_wide.2 (images_any _ _ _)).mono ?_; rintro e w' ⟨rfl, rfl⟩)
  obtain ⟨H, hH⟩ : ∃ H, w.heap.size = H := ⟨_, rfl⟩
  have hH' := Lib.hid hH
  have hHle : H ≤ w.heap.size := by omega
  have hHl1 : 1 < H := by omega
  obtain ⟨W0, hW0⟩ : ∃ W0, ((((w.alloc (Obj.cells #[Value.int IntKind.i64 ↑c] 3)).alloc (Obj.cells #[Value.bool false] 4)).alloc (Obj.cells #[Value.int IntKind.i64 ↑n] 3)).alloc (Obj.cells #[Value.int IntKind.i64 ↑c] 3)) = W0 := ⟨_, rfl⟩
  have c0 : W0.cell? ⟨H, 0, none⟩ = some (.int .i64 c) := by rw [← hW0]; exact cell_up (cell_up (cell_up (cell_at (by omega))))
  have c1 : W0.cell? ⟨H + 1, 0, none⟩ = some (.bool false) := by rw [← hW0]; exact cell_up (cell_up (cell_at (by simp; omega)))
  have c2 : W0.cell? ⟨H + 1 + 1, 0, none⟩ = some (.int .i64 n) := by rw [← hW0]; exact cell_up (cell_at (by simp; omega))
  have c3 : W0.cell? ⟨H + 1 + 1 + 1, 0, none⟩ = some (.int .i64 c) := by rw [← hW0]; exact cell_at (by simp; omega)
  have f1 : W0.frozen? ⟨H + 1, 0, none⟩ = false := by rw [← hW0]; exact frozen_up (cell_up (cell_at (by simp; omega))) (frozen_up (cell_at (by simp; omega)) (frozen_at (by simp; omega)))
  have hB0 : Below H w W0 := by rw [← hW0, ← hH]; exact ((((Below.refl _ w).alloc (Nat.le_refl _) _).alloc (by simp) _).alloc (by simp; omega) _).alloc (by simp; omega) _
  have hS0 : W0.heap.size = H + 4 := by rw [← hW0, ← hH]; simp
  have hT0 : Tab W0 := hT.below hB0 (by omega)
  have hSS : ∀ i, (i < H ∨ i = H + 1 + 1) → i < W0.heap.size := fun i h => by omega
  rw [hW0, hH]
  clear hW0 hH
  have hp2 : 2 ^ n ≤ 2 ^ 16 := Nat.pow_le_pow_right (by omega) hn2
  refine wpIn_rangeFunc_ownF rfl (by omega) (gf := 74) (lb := #[.pointer (some ⟨H + 1 + 1 + 1, 0, none⟩), .pointer (some ⟨H + 1 + 1, 0, none⟩)]) rfl trivial (enters_of Tryd.func74 (by kernel_rfl) rfl)
    (images1_stops (fun i => i < H ∨ i = H + 1 + 1) (9 - 1) n c (H + 1 + 1 + 1) (H + 1 + 1) (by omega) hn hn2 hc W0 hT0 (show 1 < H ∨ _ from Or.inl (by omega)) hSS (Or.inr rfl) c3 c2) keptOn_t (keptOn_b hSS) (Below.refl _ _) (fun _ => rfl)
    (fun pre W => ((∀ y ∈ pre, c ≤ y.val) ∧ W.cell? ⟨H, 0, none⟩ = some (.int .i64 (c : Int)) ∧ W.cell? ⟨H + 1, 0, none⟩ = some (.bool false) ∧ W.frozen? ⟨H + 1, 0, none⟩ = false) ∧ Below H w W)
    (fun c' pre W => (c' = .ret ∧ (∃ y ∈ pre, y.val < c) ∧ W.cell? ⟨H + 1, 0, none⟩ = some (.bool false)) ∧ Below H w W)
    (OwnFrom.and (Own.from (fun s A B row hs hg hr => ⟨hs.1, cell_kept hs.2.1 hg hr, cell_kept hs.2.2.1 hg hr, (frozen_kept hs.2.2.1 hg hr).trans hs.2.2.2⟩) _) (ownFrom_below hHle (by omega)))
    (fun c' => OwnFrom.and (Own.from (fun s A B row hs hg hr => ⟨hs.1, hs.2.1, cell_kept hs.2.2 hg hr⟩) _) (ownFrom_below hHle (by omega)))
    ⟨⟨by simp, c0, c1, f1⟩, hB0⟩
    (fun x => { tmps := #[.int .i64 n, .int .i64 c, undef, .pointer (some ⟨H, 0, none⟩), .pointer (some ⟨H + 1, 0, none⟩), .int .i64 x.val, .int .i64 n, .int .i64 c, .func (.func 74) #[] #[.pointer (some ⟨H + 1 + 1 + 1, 0, none⟩), .pointer (some ⟨H + 1 + 1, 0, none⟩)], .int .i64 x.val, undef, undef, undef], defers := [] }) ?assign ?body ?done ?stop
  case assign =>
    intro l x W K hK
    gi_wp2
    exact hK
  case body =>
    rintro l pre x W ⟨⟨hp, hcw, hcr, hfr⟩, hB⟩ _
    have HP := Lib.hid hp
    have HB := Lib.hid hB
    clear hp hB
    by_cases hx : x.val < c
    · gi_wp2
      exact ⟨KeepsOthers.setCell _ _ _, ⟨rfl, ⟨x, List.mem_append.2 (.inr (by simp)), hx⟩, cell_set_same hcr⟩, HB.out.setCell (p := ⟨H + 1, 0, none⟩) (show H ≤ H + 1 by omega) _⟩
    · gi_wp2
      exact ⟨KeepsOthers.refl _, KeptOn.refl _ _, ⟨fun y hy => (List.mem_append.1 hy).elim (HP.out y) (fun e => by simp at e; subst e; omega), hcw, hcr, hfr⟩, HB.out⟩
  case done =>
    rintro D ys W hD hys ⟨⟨hne, _, hcr, hfr⟩, hB⟩ hK
    have hys' := Lib.hid hys
    have hne' := Lib.hid hne
    clear hys hne
    gi_wp2
    have hK' := (KeepsOthers.setCell W ⟨H + 1, 0, none⟩ (.bool true)).same D _ hK rfl
    refine ⟨by simp, .inl ⟨_, _, rfl, run_takeDeferred hK', ?_⟩⟩
    have hc5 := cell_kept (cell_set_same (u := .bool true) hcr) (grownBy_putObj' _ D (.deferred none)) (fun r e => by cases e; exact ⟨_, hK', rfl⟩)
    have hpb : primeB n c = true := by
      unfold primeB
      rw [decide_eq_true_eq, ← hys'.out]
      intro x hx
      obtain ⟨y, hy, rfl⟩ := List.mem_map.1 hx
      exact hne'.out y hy
    refine ⟨.bool true, ?_, by rw [hpb], by rw [hH'.out]; exact (hB.setCell (p := ⟨H + 1, 0, none⟩) (show H ≤ H + 1 by omega) _).trans (belowK_b (w := W0) (by omega) _ D _ _ (by omega) hK' rfl rfl)⟩
    simp [results, Tryd.f77, go_sem, hc5]
  case stop =>
    rintro D c' pre W hD hpre ⟨⟨rfl, hin, hcr⟩, hB⟩ hK
    have hin' := Lib.hid hin
    have hpre' := Lib.hid hpre
    clear hin hpre
    gi_wp2
    refine ⟨by simp, .inl ⟨_, _, rfl, run_takeDeferred hK, ?_⟩⟩
    have hc5 := cell_kept hcr (grownBy_putObj' _ D (.deferred none)) (fun r e => by cases e; exact ⟨_, hK, rfl⟩)
    have hpb : primeB n c = false := by
      unfold primeB
      rw [decide_eq_false_iff_not]
      intro h
      obtain ⟨y, hy, hlt⟩ := hin'.out
      have := h y.val (hpre'.out y hy)
      omega
    refine ⟨.bool false, ?_, by rw [hpb], by rw [hH'.out]; exact hB.trans (belowK_b (w := W0) (by omega) W D _ _ (by omega) hK rfl rfl)⟩
    simp [results, Tryd.f77, go_sem, hc5]

end Go.Proofs.YtehjdhegnpmfaaaDoor
