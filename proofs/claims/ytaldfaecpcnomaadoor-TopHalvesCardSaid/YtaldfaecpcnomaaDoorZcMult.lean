/-
  tones, multiply, turn: their contracts.
-/
import Derived.Test.YtaldfaecpcnomaaDoorZcLeafA
import Derived.Test.YtaldfaecpcnomaaDoorZcTones
import Derived.Test.YtaldfaecpcnomaaDoorRound
namespace Go.Proofs.YtaldfaecpcnomaaDoor.Zc
open Go.RowKit Go.Shelf
attribute [local go_sem] Oper.semAt_some
set_option maxRecDepth 100000

theorem cell_new_l (w : World) (v : Value) (t : TypeId) : (w.alloc (.cells #[v] t)).cell? ⟨w.heap.size, 0, none⟩ = some v ∧ (w.alloc (.cells #[v] t)).frozen? ⟨w.heap.size, 0, none⟩ = false := by
  constructor
  · simp
  · simp

theorem cell_at {w : World} {k : Nat} {v : Value} {t : TypeId} (h : k = w.heap.size) : (w.alloc (.cells #[v] t)).cell? ⟨k, 0, none⟩ = some v := by
  subst h; simp

theorem frozen_at {w : World} {k : Nat} {v : Value} {t : TypeId} (h : k = w.heap.size) : (w.alloc (.cells #[v] t)).frozen? ⟨k, 0, none⟩ = false := by
  subst h; simp

theorem cell_up {w : World} {a : Addr} {v : Value} {o : Obj} (h : w.cell? a = some v) : (w.alloc o).cell? a = some v :=
  cell_kept h (World.grownBy_alloc w o none) (fun r e => by cases e)

theorem frozen_up {w : World} {a : Addr} {v : Value} {o : Obj} (h : w.cell? a = some v) (hf : w.frozen? a = false) : (w.alloc o).frozen? a = false :=
  (frozen_kept h (World.grownBy_alloc w o none) (fun r e => by cases e)).trans hf

theorem tones_any (c : Int) (w : World) :
    Calls Tryd.prog 29 #[.int .i64 c] w fun e w' => e = .returned (.func (.func 34) #[] #[.pointer (some ⟨w.heap.size, 0, none⟩)]) ∧ w.alloc (.cells #[.int .i64 c] 3) = w' := by
  go_enter Tryd.func29, Tryd.ntmps29
  go_wp2
  go_ret
  exact ⟨rfl, rfl⟩

/-- A chord multiplied, as the program makes it. -/
def mulN (n c : Nat) (m : Int) : Nat := orL (fun t => ((t * m) % n).toNat) (tonesL c)

theorem multiply_any (n c : Nat) (m : Int) (hn : 2 ≤ n) (hn2 : n ≤ 16) (hc : c < 2 ^ n) (hm : -16 ≤ m) (hm2 : m ≤ 16) (w : World) (hT : Tab w) :
    Calls Tryd.prog 31 #[.int .i64 n, .int .i64 c, .int .i64 m] w fun e w' => e = .returned (.int .i64 (mulN n c m : Nat)) ∧ Below w.heap.size w w' := by
  have hTs := hT.size
  refine (callsIn_wide (n := 9)).1 ?_
  refine callsIn_of_wp_marks Tryd.func31 rfl trivial ?_ rfl
  simp only [Tryd.ntmps31, List.size_toArray, List.length_cons, List.length_nil, Nat.reduceAdd, Nat.reduceSub, Array.replicate_succ, Array.replicate_zero, List.push_toArray, List.append_toArray, List.nil_append, List.cons_append]
  gi_wp2_with (refine ⟨trivial, ?_⟩; gi_at_call 29; refine (callsIn_wide.2 (tones_any _ _)).mono ?_; rintro e w' ⟨rfl, rfl⟩)
  obtain ⟨H, hH⟩ : ∃ H, w.heap.size = H := ⟨_, rfl⟩
  have hH' := Lib.hid hH
  have hHle : H ≤ w.heap.size := by omega
  have hHl1 : 1 < H := by omega
  obtain ⟨W0, hW0⟩ : ∃ W0, ((((w.alloc (Obj.cells #[Value.int IntKind.i64 ↑n] 3)).alloc (Obj.cells #[Value.int IntKind.i64 m] 3)).alloc (Obj.cells #[Value.int IntKind.i64 0] 3)).alloc (Obj.cells #[Value.int IntKind.i64 ↑c] 3)) = W0 := ⟨_, rfl⟩
  have c0 : W0.cell? ⟨H, 0, none⟩ = some (.int .i64 n) := by rw [← hW0]; exact cell_up (cell_up (cell_up (cell_at (by omega))))
  have c1 : W0.cell? ⟨H + 1, 0, none⟩ = some (.int .i64 m) := by rw [← hW0]; exact cell_up (cell_up (cell_at (by simp; omega)))
  have c2 : W0.cell? ⟨H + 1 + 1, 0, none⟩ = some (.int .i64 0) := by rw [← hW0]; exact cell_up (cell_at (by simp; omega))
  have c3 : W0.cell? ⟨H + 1 + 1 + 1, 0, none⟩ = some (.int .i64 c) := by rw [← hW0]; exact cell_at (by simp; omega)
  have f2 : W0.frozen? ⟨H + 1 + 1, 0, none⟩ = false := by rw [← hW0]; exact frozen_up (cell_at (by simp; omega)) (frozen_at (by simp; omega))
  have hB0 : Below H w W0 := by rw [← hW0, ← hH]; exact ((((Below.refl _ w).alloc (Nat.le_refl _) _).alloc (by simp) _).alloc (by simp; omega) _).alloc (by simp; omega) _
  have hS0 : W0.heap.size = H + 4 := by rw [← hW0, ← hH]; simp
  have hT0 : Tab W0 := hT.below hB0 (by omega)
  rw [hW0, hH]
  clear hW0 hH
  refine wpIn_rangeFunc_ownF rfl (by omega) (gf := 34) (lb := #[.pointer (some ⟨H + 1 + 1 + 1, 0, none⟩)]) rfl trivial (enters_of Tryd.func34 (by kernel_rfl) rfl)
    (tones1_stops (· < H) (9 - 1) n c (H + 1 + 1 + 1) (by omega) (by omega) hc W0 hT0 (show 1 < H by omega) c3) keptOn_t (keptOn_b (fun k (hk : k < H) => by omega)) (Below.refl _ _) (fun _ => rfl)
    (fun pre W => (W.cell? ⟨H + 1 + 1, 0, none⟩ = some (.int .i64 (orL (fun t => ((t * m) % n).toNat) (pre.map Fin.val) : Nat)) ∧ W.frozen? ⟨H + 1 + 1, 0, none⟩ = false ∧ W.cell? ⟨H + 1, 0, none⟩ = some (.int .i64 m) ∧ W.cell? ⟨H, 0, none⟩ = some (.int .i64 n)) ∧ Below H w W)
    (fun _ _ _ => False)
    (OwnFrom.and (Own.from (fun s A B row hs hg hr => ⟨cell_kept hs.1 hg hr, (frozen_kept hs.1 hg hr).trans hs.2.1, cell_kept hs.2.2.1 hg hr, cell_kept hs.2.2.2 hg hr⟩) _) (ownFrom_below hHle (by omega)))
    (fun _ _ _ _ _ hs _ _ => hs)
    ⟨⟨c2, f2, c1, c0⟩, hB0⟩
    (fun x => { tmps := #[.int .i64 n, .int .i64 c, .int .i64 m, .pointer (some ⟨H, 0, none⟩), undef, .pointer (some ⟨H + 1, 0, none⟩), .int .i64 0, .pointer (some ⟨H + 1 + 1, 0, none⟩), .int .i64 x.val, .int .i64 c, .func (.func 34) #[] #[.pointer (some ⟨H + 1 + 1 + 1, 0, none⟩)], .int .i64 x.val, undef, undef, undef, undef, undef, undef, undef, undef, undef], defers := [] }) ?assign ?body ?done ?stop
  case assign =>
    intro l x W K hK
    gi_wp2
    exact hK
  case body =>
    rintro l pre x W ⟨⟨hc1, hc2, hc3, hc4⟩, hB⟩ _
    have hd : 1 ≤ 9 - 1 - 1 := by omega
    have hxl := x.isLt
    have hbm : -256 ≤ (x.val : Int) * m ∧ (x.val : Int) * m ≤ 256 := by
      have a1 : (x.val : Int) * m ≤ x.val * 16 := Int.mul_le_mul_of_nonneg_left hm2 (by omega)
      have a2 : (x.val : Int) * -16 ≤ x.val * m := Int.mul_le_mul_of_nonneg_left hm (by omega)
      omega
    have hw0 : IntKind.i64.wrap ((x.val : Int) * m) = x.val * m := IntWalk.i64_in _ (by omega)
    have hu0 : 0 ≤ ((x.val : Int) * m) % n := Int.emod_nonneg _ (by omega)
    have hu1 : ((x.val : Int) * m) % n < n := Int.emod_lt_of_pos _ (by omega)
    obtain ⟨u, hu⟩ := Int.eq_ofNat_of_zero_le hu0
    rw [hu] at hu1
    have hp := pow_bd (u : Int) (by omega) (by omega)
    simp only [Int.toNat_natCast] at hp
    have hmod : ∀ V : World, Calls Tryd.prog 30 #[.int .i64 ((x.val : Int) * m), .int .i64 n] V fun e w' => e = .returned (.int .i64 u) ∧ V = w' := fun V => by
      have h9 := modulo_any ((x.val : Int) * m) n (by omega) (by omega) V
      rwa [hu] at h9
    have HMod := Lib.hid hmod
    have hw1 : IntKind.i64.wrap ((2 : Int) ^ u) = 2 ^ u := IntWalk.i64_in _ (by omega)
    have HU := Lib.hid hu
    clear hu hu0 hbm hmod
    have hmx : Tryd.prog.follows .mixedOrders = true := by kernel_rfl
    gi_wp2
    refine region_tail 8 hmx (by kernel_rfl) (by kernel_rfl) ?_
    simp only [List.take_succ_cons, List.take_zero, List.drop_succ_cons, List.drop_zero]
    still_step
    still_step
    still_step
    still_step
    still_step
    still_call ((HMod.out _).mono (fun e w' h => ⟨h.1, h.2.symm⟩))
    still_step
    still_step
    refine wpStill_nil ?_
    gi_wp2
    refine ⟨(KeepsOthers.setCell _ _ _).trans (KeepsOthers.drew _), ((KeptOn.refl _ W).setCell (p := ⟨H + 1 + 1, 0, none⟩) (show ¬ H + 1 + 1 < H by omega) _).drew,
      ⟨(cell_set_same hc1).trans ?_, frozen_set hc2, cell_set_other hc3 (show H + 1 ≠ H + 1 + 1 by omega), cell_set_other hc4 (show H ≠ H + 1 + 1 by omega)⟩, (hB.setCell (p := ⟨H + 1 + 1, 0, none⟩) (show H ≤ H + 1 + 1 by omega) _).drew⟩
    have e : orL (fun t => ((t * m) % n).toNat) ((pre ++ [x]).map Fin.val) = orL (fun t => ((t * m) % n).toNat) (pre.map Fin.val) ||| 2 ^ u := by
      rw [List.map_append, List.map_singleton, orL_snoc, HU.out, Nat.one_shiftLeft, Int.toNat_natCast]
    have b : orL (fun t => ((t * m) % n).toNat) (pre.map Fin.val) < 2 ^ n := orL_lt _ _ _ (fun t _ => by
      have a1 : 0 ≤ (t * m) % n := Int.emod_nonneg _ (by omega)
      have a2 : (t * m) % n < n := Int.emod_lt_of_pos _ (by omega)
      omega)
    have b2 : 2 ^ n ≤ 2 ^ 16 := Nat.pow_le_pow_right (by omega) hn2
    have b3 : 2 ^ u ≤ 2 ^ 16 := Nat.pow_le_pow_right (by omega) (by omega)
    have e2 : (2 : Int) ^ u = ((2 ^ u : Nat) : Int) := by simp
    rw [e, e2, or_nat _ _ (by omega) (by omega)]
  case done =>
    rintro D ys W hD hys ⟨⟨hc1, hc2, hc3, hc4⟩, hB⟩ hK
    have hys' := Lib.hid hys; clear hys
    gi_wp2
    refine ⟨by simp, .inl ⟨_, _, rfl, run_takeDeferred hK, ?_⟩⟩
    refine ⟨_, results_tmp rfl _ _ _, ?_, by rw [hH'.out]; exact hB.trans (belowK_b (w := W0) (by omega) W D _ _ (by omega) hK rfl rfl)⟩
    show Ending.returned (.int .i64 ((orL (fun t => ((t * m) % n).toNat) (ys.map Fin.val) : Nat) : Int)) = _
    rw [hys'.out]
    rfl
  case stop =>
    rintro D c pre W _ _ h _
    exact h.elim

theorem turn_any (n c : Nat) (hn : 2 ≤ n) (hn2 : n ≤ 16) (hc : c < 2 ^ n) (w : World) (hT : Tab w) :
    Calls Tryd.prog 22 #[.int .i64 n, .int .i64 c] w fun e w' => e = .returned (.int .i64 (mulN n c (-1) : Nat)) ∧ Below w.heap.size w w' := by
  have H := Lib.hid (multiply_any n c (-1) hn hn2 hc (by omega) (by omega) w hT)
  go_enter Tryd.func22, Tryd.ntmps22
  go_wp2_with (go_at_call 31; refine H.out.mono ?_; rintro e w' ⟨rfl, hb⟩)
  go_ret
  exact ⟨rfl, by assumption⟩

end Go.Proofs.YtaldfaecpcnomaaDoor.Zc
