/-
  beats, tile, Tiles: their contracts.
-/
import Derived.Test.YthnenhfdojpobaaDoorZaLeafA
import Derived.Test.YthnenhfdojpobaaDoorZaTones
import Derived.Test.YthnenhfdojpobaaDoorRoundQ
import Derived.Test.YthnenhfdojpobaaDoorCaOnes
import Derived.WalkSmall
namespace Go.Proofs.YthnenhfdojpobaaDoor.Za
open Go.RowKit Go.Shelf
attribute [local go_sem] Oper.semAt_some
set_option maxRecDepth 100000

theorem cell_at {w : World} {k : Nat} {v : Value} {t : TypeId} (h : k = w.heap.size) : (w.alloc (.cells #[v] t)).cell? ⟨k, 0, none⟩ = some v := by
  subst h; simp

theorem frozen_at {w : World} {k : Nat} {v : Value} {t : TypeId} (h : k = w.heap.size) : (w.alloc (.cells #[v] t)).frozen? ⟨k, 0, none⟩ = false := by
  subst h; simp

theorem cell_up {w : World} {a : Addr} {v : Value} {o : Obj} (h : w.cell? a = some v) : (w.alloc o).cell? a = some v :=
  cell_kept h (World.grownBy_alloc w o none) (fun r e => by cases e)

theorem frozen_up {w : World} {a : Addr} {v : Value} {o : Obj} (h : w.cell? a = some v) (hf : w.frozen? a = false) : (w.alloc o).frozen? a = false :=
  (frozen_kept h (World.grownBy_alloc w o none) (fun r e => by cases e)).trans hf

theorem cell_two {w : World} {k : Nat} {v u : Value} {t : TypeId} (h : k = w.heap.size) : (w.alloc (.cells #[v, u] t)).cell? ⟨k, 0, none⟩ = some v ∧ (w.alloc (.cells #[v, u] t)).cell? ⟨k, 1, none⟩ = some u := by
  subst h
  constructor <;> simp

theorem beats_any (c : Int) (w : World) :
    Calls Tryd.prog 24 #[.int .i64 c] w fun e w' => e = .returned (.func (.func 35) #[] #[.pointer (some ⟨w.heap.size, 0, none⟩)]) ∧ w.alloc (.cells #[.int .i64 c] 3) = w' := by
  go_enter Tryd.func24, Tryd.ntmps24
  go_wp2
  go_ret
  exact ⟨rfl, rfl⟩

theorem keeps_drewN (W : World) (k : Nat) : KeepsOthers W (W.drewN k) := ⟨Nat.le_refl _, fun _ _ h _ => h⟩

set_option maxHeartbeats 1000000 in
theorem tile_any (n a b : Nat) (hn : 2 ≤ n) (hn2 : n ≤ 24) (ha : a < 2 ^ n) (hb : b < 2 ^ n) (w : World) (hT : Tab w) :
    Calls Tryd.prog 19 #[.int .i64 n, .int .i64 a, .int .i64 b] w fun e w' => e = .returned (.bool (tileB n a b)) ∧ Below w.heap.size w w' := by
  have hTs := hT.size
  have hp24 : 2 ^ n ≤ 2 ^ 24 := Nat.pow_le_pow_right (by omega) hn2
  have htl : tonesL b = tonesB n b := tonesL_eq b (by omega) hb
  have HTL := Lib.hid htl
  clear htl
  refine (callsIn_wide (n := 9)).1 ?_
  refine callsIn_of_wp_marks Tryd.func19 rfl trivial ?_ rfl
  simp only [Tryd.ntmps19, List.size_toArray, List.length_cons, List.length_nil, Nat.reduceAdd, Nat.reduceSub, Array.replicate_succ, Array.replicate_zero, List.push_toArray, List.append_toArray, List.nil_append, List.cons_append]
  gi_wp2_with (refine ⟨trivial, ?_⟩; gi_at_call 24; refine (callsIn_wide.2 (beats_any _ _)).mono ?_; rintro e w' ⟨rfl, rfl⟩)
  obtain ⟨H, hH⟩ : ∃ H, w.heap.size = H := ⟨_, rfl⟩
  have hH' := Lib.hid hH
  have hHle : H ≤ w.heap.size := by omega
  have hHl1 : 1 < H := by omega
  obtain ⟨W0, hW0⟩ : ∃ W0, ((((w.alloc (Obj.cells #[Value.int IntKind.i64 ↑n] 3)).alloc (Obj.cells #[Value.int IntKind.i64 ↑a] 3)).alloc (Obj.cells #[Value.int IntKind.i64 0] 3)).alloc (Obj.cells #[Value.int IntKind.i64 ↑b] 3)) = W0 := ⟨_, rfl⟩
  have c0 : W0.cell? ⟨H, 0, none⟩ = some (.int .i64 n) := by rw [← hW0]; exact cell_up (cell_up (cell_up (cell_at (by omega))))
  have c1 : W0.cell? ⟨H + 1, 0, none⟩ = some (.int .i64 a) := by rw [← hW0]; exact cell_up (cell_up (cell_at (by simp; omega)))
  have c2 : W0.cell? ⟨H + 1 + 1, 0, none⟩ = some (.int .i64 0) := by rw [← hW0]; exact cell_up (cell_at (by simp; omega))
  have c3 : W0.cell? ⟨H + 1 + 1 + 1, 0, none⟩ = some (.int .i64 b) := by rw [← hW0]; exact cell_at (by simp; omega)
  have f2 : W0.frozen? ⟨H + 1 + 1, 0, none⟩ = false := by rw [← hW0]; exact frozen_up (cell_at (by simp; omega)) (frozen_at (by simp; omega))
  have hB0 : Below H w W0 := by rw [← hW0, ← hH]; exact ((((Below.refl _ w).alloc (Nat.le_refl _) _).alloc (by simp) _).alloc (by simp; omega) _).alloc (by simp; omega) _
  have hS0 : W0.heap.size = H + 4 := by rw [← hW0, ← hH]; simp
  have hT0 : Tab W0 := hT.below hB0 (by omega)
  rw [hW0, hH]
  clear hW0 hH
  refine wpIn_rangeFunc_ownF rfl (by omega) (gf := 35) (lb := #[.pointer (some ⟨H + 1 + 1 + 1, 0, none⟩)]) rfl trivial (enters_of Tryd.func35 (by kernel_rfl) rfl)
    (tones1_stops (· < H) (9 - 1) n b (H + 1 + 1 + 1) (by omega) (by omega) hb W0 hT0 (show 1 < H by omega) c3) keptOn_t (keptOn_b (fun k (hk : k < H) => by omega)) (Below.refl _ _) (fun _ => rfl)
    (fun pre W => (W.cell? ⟨H + 1 + 1, 0, none⟩ = some (.int .i64 (orMv n a (pre.map Fin.val) : Nat)) ∧ W.frozen? ⟨H + 1 + 1, 0, none⟩ = false ∧ W.cell? ⟨H + 1, 0, none⟩ = some (.int .i64 a) ∧ W.cell? ⟨H, 0, none⟩ = some (.int .i64 n)) ∧ Below H w W)
    (fun _ _ _ => False)
    (OwnFrom.and (Own.from (fun s A B row hs hg hr => ⟨cell_kept hs.1 hg hr, (frozen_kept hs.1 hg hr).trans hs.2.1, cell_kept hs.2.2.1 hg hr, cell_kept hs.2.2.2 hg hr⟩) _) (ownFrom_below hHle (by omega)))
    (fun _ _ _ _ _ hs _ _ => hs)
    ⟨⟨c2, f2, c1, c0⟩, hB0⟩
    (fun x => { tmps := #[.int .i64 n, .int .i64 a, .int .i64 b, .pointer (some ⟨H, 0, none⟩), .pointer (some ⟨H + 1, 0, none⟩), undef, .bool false, .pointer (some ⟨H + 1 + 1, 0, none⟩), .int .i64 x.val, .int .i64 b, .func (.func 35) #[] #[.pointer (some ⟨H + 1 + 1 + 1, 0, none⟩)], .int .i64 x.val, undef, undef, undef, undef, undef, undef, undef, undef, undef, undef, undef, undef, undef, undef, undef, undef, undef, undef, undef, undef], defers := [] }) ?assign ?body ?done ?stop
  case assign =>
    intro l x W K hK
    gi_wp2
    exact hK
  case body =>
    rintro l pre x W ⟨⟨hc1, hc2, hc3, hc4⟩, hB⟩ _
    have hd : 1 ≤ 9 - 1 - 1 := by omega
    have hxl := x.isLt
    have HM := Lib.hid (fun V => move_any n a x.val hn hn2 ha (by omega) V)
    have hsn := Lib.hid (show orMv n a ((pre ++ [x]).map Fin.val) = orMv n a (pre.map Fin.val) ||| mvN n a x.val by rw [List.map_append, List.map_singleton, orMv_snoc])
    have hb1 := orMv_lt n a (pre.map Fin.val)
    have hb2 : mvN n a x.val < 2 ^ n := mv_lt
    have hor := Lib.hid (or_nat (orMv n a (pre.map Fin.val)) (mvN n a x.val) (by omega) (by omega))
    have hmx : Tryd.prog.follows .mixedOrders = true := by kernel_rfl
    have HB := Lib.hid hB
    generalize orMv n a (pre.map Fin.val) = o at hc1 hsn hb1 hor
    generalize mvN n a x.val = mk at HM hsn hb2 hor
    clear hB
    gi_wp2
    refine region_quiet_tail 5 hmx (by kernel_rfl) (by kernel_rfl) ?_
    simp only [List.take_succ_cons, List.take_zero, List.drop_succ_cons, List.drop_zero]
    repeat (go_big_quiet_step ((go_at_call 32; exact Calls.quiet_of (HM.out _))))
    refine wpQuiet_nil ?_
    rintro _ ⟨nq, rfl⟩
    gi_wp2
    refine ⟨(keeps_drewN W nq).trans (KeepsOthers.setCell _ _ _), ((KeptOn.refl _ W).drewN nq).setCell (p := ⟨H + 1 + 1, 0, none⟩) (show ¬ H + 1 + 1 < H by omega) _,
      ⟨(cell_set_same (W := W.drewN nq) hc1).trans ?_, frozen_set (W := W.drewN nq) hc2, cell_set_other (W := W.drewN nq) hc3 (show H + 1 ≠ H + 1 + 1 by omega), cell_set_other (W := W.drewN nq) hc4 (show H ≠ H + 1 + 1 by omega)⟩, (below_drewN HB.out nq).setCell (p := ⟨H + 1 + 1, 0, none⟩) (show H ≤ H + 1 + 1 by omega) _⟩
    rw [hsn.out, hor.out]
  case done =>
    rintro D ys W hD hys ⟨⟨hc1, hc2, hc3, hc4⟩, hB⟩ hK
    have hpw : IntKind.i64.wrap ((2 : Int) ^ n - 1) = 2 ^ n - 1 := by
      have := pow_bd (n : Int) (by omega) (by omega)
      simp only [Int.toNat_natCast] at this
      exact IntWalk.i64_in _ (by omega)
    have hpw2 : IntKind.i64.wrap ((2 : Int) ^ n) = 2 ^ n := by
      have := pow_bd (n : Int) (by omega) (by omega)
      simp only [Int.toNat_natCast] at this
      exact IntWalk.i64_in _ (by omega)
    rw [hys, HTL.out] at hc1
    have ho := orMv_lt n a (tonesB n b)
    have hpr := tile_prog (n := n) (a := a) (b := b) ha
    have HA := Lib.hid (tonesIn_any a (by omega))
    have HBn := Lib.hid (tonesIn_any b (by omega))
    rw [cardN_tonesL (n := n) (by omega) ha] at HA
    rw [cardN_tonesL (n := n) (by omega) hb] at HBn
    have hys' := Lib.hid hys; clear hys
    have HB := Lib.hid hB
    clear hB
    gi_wp2
    refine wpIn_wide.2 ?_
    have h2n : (2 : Int) ^ n - 1 = ((2 ^ n - 1 : Nat) : Int) := by have := Nat.two_pow_pos n; simp [Int.ofNat_sub this]
    have hca : cardN n a ≤ n := by have := sum_leq (n := n) (f := bI a) (g := fun _ => 1) (fun i _ => bI01 a i); rwa [sum_const, Nat.mul_one] at this
    have hcb : cardN n b ≤ n := by have := sum_leq (n := n) (f := bI b) (g := fun _ => 1) (fun i _ => bI01 b i); rwa [sum_const, Nat.mul_one] at this
    have hcc : cardN n a * cardN n b ≤ 24 * 24 := Nat.mul_le_mul (by omega) (by omega)
    generalize hga : cardN n a = ka at *
    generalize hgb : cardN n b = kb at *
    generalize orMv n a (tonesB n b) = o at *
    have hmul : IntKind.i64.wrap ((ka : Int) * (kb : Int)) = ((ka * kb : Nat) : Int) := by
      rw [Int.natCast_mul]; exact IntWalk.i64_in _ (by rw [← Int.natCast_mul]; omega)
    by_cases hf : o = 2 ^ n - 1
    · have q1 : ((o : Int) == (2 : Int) ^ n - 1) = true := by rw [beq_iff_eq, h2n, hf]
      have HF := Lib.hid hf
      have HP := Lib.hid hpr
      clear h2n hf hpr
      go_quiet ((first | (go_at_call 33; exact Calls.quiet_of_same ((HA.out _).mono fun e w' h => ⟨h.1, h.2.symm⟩)) | (go_at_call 33; exact Calls.quiet_of_same ((HBn.out _).mono fun e w' h => ⟨h.1, h.2.symm⟩))))
      gi_wp2
      refine ⟨by simp, .inl ⟨_, _, rfl, run_takeDeferred (w := W.drewN nq) hK, ?_⟩⟩
      refine ⟨_, results_tmp rfl _ _ _, ?_, by rw [hH'.out]; exact (below_drewN HB.out nq).trans (belowK_b (n₀ := H) (w := W0) (by omega) (W.drewN nq) D _ _ (by omega) hK rfl rfl)⟩
      refine ret_bool ?_
      rw [Bool.eq_iff_iff, tileB_true, ← HP.out, beq_iff_eq]
      constructor
      · intro h; exact ⟨HF.out, by omega⟩
      · intro h; have := h.2; rw [← this]; simp
    · have q1 : ((o : Int) == (2 : Int) ^ n - 1) = false := by rw [beq_eq_false_iff_ne, h2n]; omega
      have HF := Lib.hid hf
      have HP := Lib.hid hpr
      clear h2n hf hpr
      go_quiet (fail)
      gi_wp2
      refine ⟨by simp, .inl ⟨_, _, rfl, run_takeDeferred (w := W.drewN nq) hK, ?_⟩⟩
      refine ⟨_, results_tmp rfl _ _ _, ?_, by rw [hH'.out]; exact (below_drewN HB.out nq).trans (belowK_b (n₀ := H) (w := W0) (by omega) (W.drewN nq) D _ _ (by omega) hK rfl rfl)⟩
      refine ret_bool ?_
      symm
      rw [tileB_false, ← HP.out]
      exact fun h => HF.out h.1
  case stop =>
    rintro D c pre W _ _ h _
    exact h.elim

end Go.Proofs.YthnenhfdojpobaaDoor.Za
