/-
  The tones of a triad: Tones of package triads.
-/
import Derived.Test.YtibkhjbcagihbaaDoorTrWalksLaw
import Derived.Test.YtibkhjbcagihbaaDoorTrToneMath
import Derived.WalkSmall
namespace Go.Proofs.YtibkhjbcagihbaaDoor
open Go.ChangeShapes Go.WideShapes Go.ChangeAt Go.RowKit
set_option maxRecDepth 100000

theorem pow_bd (n : Int) (h1 : 0 ≤ n) (h : n ≤ 16) : (1 : Int) ≤ 2 ^ n.toNat ∧ (2 : Int) ^ n.toNat ≤ 65536 := by
  obtain ⟨k, rfl⟩ := Int.eq_ofNat_of_zero_le h1
  simp only [Int.toNat_natCast]
  have h2 : k ≤ 16 := by omega
  have h3 : 2 ^ k ≤ 2 ^ 16 := Nat.pow_le_pow_right (by omega) h2
  have h4 := Nat.two_pow_pos k
  have e : ((2 : Int) ^ k) = ((2 ^ k : Nat) : Int) := by simp
  rw [e]; omega

theorem arr3_0 (x y z : Int) (W : World) : (Instr.index 60 (.agg #[.int .i64 x, .int .i64 y, .int .i64 z]) (.int .i64 0)).run Tryd.prog W = .ok (.int .i64 x) W := by kernel_rfl
theorem arr3_1 (x y z : Int) (W : World) : (Instr.index 60 (.agg #[.int .i64 x, .int .i64 y, .int .i64 z]) (.int .i64 1)).run Tryd.prog W = .ok (.int .i64 y) W := by kernel_rfl
theorem arr3_2 (x y z : Int) (W : World) : (Instr.index 60 (.agg #[.int .i64 x, .int .i64 y, .int .i64 z]) (.int .i64 2)).run Tryd.prog W = .ok (.int .i64 z) W := by kernel_rfl

set_option maxHeartbeats 2000000 in
theorem tones_any (n a b t : Nat) (hk : KOk n a b) (ht : t < 2 * n) (w : World) :
    Calls Tryd.prog 22 #[kv n a b, .int .i64 t] w fun e w' => e = .returned (.int .i64 (setT n a b t 3 : Nat)) ∧ Below w.heap.size w w' := by
  have h0 := hk.h6
  have h1 := hk.h16
  have h2 := hk.hab
  have h3 := hk.hbn
  have hmx : Tryd.prog.follows .mixedOrders = true := by kernel_rfl
  have HD := Lib.hid (isDark_any n a b t)
  have HR := Lib.hid (root_any n a b t (by omega))
  have HM := Lib.hid (fun x => modulo_any x n (by omega) (by omega))
  have HTl := Lib.hid (toneN_lt hk t)
  have hp : 2 ^ n ≤ 2 ^ 16 := Nat.pow_le_pow_right (by omega) h1
  have HOr : Hid (∀ j, bits .or .i64 ((setT n a b t j : Nat) : Int) ((2 : Int) ^ (toneN n a b t j)) = ((setT n a b t (j + 1) : Nat) : Int)) := Lib.hid (fun j => by
    have hs := setT_lt hk t j
    have ht := toneN_lt hk t j
    have b3 : 2 ^ (toneN n a b t j) ≤ 2 ^ 16 := Nat.pow_le_pow_right (by omega) (by omega)
    have e : (2 : Int) ^ (toneN n a b t j) = ((2 ^ (toneN n a b t j) : Nat) : Int) := by simp
    rw [e, or_nat _ _ (by omega) (by omega), setT_succ])
  have HPw : Hid (∀ j, (1 : Int) ≤ 2 ^ (toneN n a b t j) ∧ (2 : Int) ^ (toneN n a b t j) ≤ 65536) := Lib.hid (fun j => by
    have ht := toneN_lt hk t j
    have hp := pow_bd ((toneN n a b t j : Nat) : Int) (by omega) (by omega)
    rwa [Int.toNat_natCast] at hp)
  have HZ := Lib.hid (show setT n a b t 0 = 0 from rfl)
  obtain ⟨W0, hW0⟩ : ∃ W0, w.alloc (kcells n a b) = W0 := ⟨_, rfl⟩
  have b0 : Below w.heap.size w W0 := by rw [← hW0]; exact (Below.refl _ w).alloc (Nat.le_refl _) _
  have s0 : w.heap.size < W0.heap.size := by rw [← hW0]; simp
  have k0 : W0.cell? ⟨w.heap.size, 0, none⟩ = some (.int .i64 n) := by rw [← hW0]; simp
  have k1 : W0.cell? ⟨w.heap.size, 1, none⟩ = some (.int .i64 a) := by rw [← hW0]; simp
  have k2 : W0.cell? ⟨w.heap.size, 2, none⟩ = some (.int .i64 b) := by rw [← hW0]; simp
  have HW := Lib.hid hW0
  clear hW0 hp
  by_cases hd : t < n
  · rw [decide_eq_false (show ¬ ((n : Int) ≤ t) by omega)] at HD
    have HU := Lib.hid (fun k => tone_up (k := k) hk hd)
    clear hk
    go_enter Tryd.func22, Tryd.ntmps22
    go_wp2_with fail
    rw [HW.out]
    refine (HD.out _).mono ?_
    rintro e w1 ⟨rfl, b1⟩
    have k0 := cell_later b1 k0
    have k1 := cell_later b1 k1
    have k2 := cell_later b1 k2
    have c1 := below_nx b0 b1
    have s1 : w.heap.size < w1.heap.size := Nat.lt_of_lt_of_le s0 b1.size
    clear b1
    go_wp2
    go_loopw [6, 17] (fun s i wr => ∃ j : Nat, j ≤ 3 ∧ i = .int .i64 j ∧ s = .int .i64 (setT n a b t j : Nat) ∧ Below w1.heap.size w1 wr) (fun _ i _ => 3 - (intOf i).toNat)
    case atStart => exact ⟨0, Nat.zero_le _, rfl, by rw [HZ.out]; rfl, Below.refl _ _⟩
    case round =>
      obtain ⟨j, hj, rfl, rfl, hB⟩ := hrel
      have d0 := (hB.cell (p := ⟨w.heap.size, 0, none⟩) s1).trans k0
      have d1 := (hB.cell (p := ⟨w.heap.size, 1, none⟩) s1).trans k1
      have d2 := (hB.cell (p := ⟨w.heap.size, 2, none⟩) s1).trans k2
      have HB := Lib.hid hB
      clear hB k0 k1 k2
      by_cases hlt : j < 3
      · have hn1 : 0 ≤ (t : Int) % n := Int.emod_nonneg _ (by omega)
        have hn2 : (t : Int) % n < n := Int.emod_lt_of_pos _ (by omega)
        have htm : (t : Int).tmod n = (t : Int) % n := Int.tmod_eq_emod_of_nonneg (by omega)
        have HU0 := HU.out 0
        have HU1 := HU.out 1
        have HU2 := HU.out 2
        rw [htm] at HU0 HU1 HU2
        have o0 : ((offN a b 0 : Nat) : Int) = 0 := rfl
        have o1 : ((offN a b 1 : Nat) : Int) = a := rfl
        have o2 : ((offN a b 2 : Nat) : Int) = b := rfl
        rw [o0, Int.add_zero] at HU0
        rw [o1] at HU1
        rw [o2] at HU2
        clear o0 o1 o2 htm HU
        rcases (show j = 0 ∨ j = 1 ∨ j = 2 by omega) with rfl | rfl | rfl
        · have hE : wrap64 ((t : Int) % n) % (n : Int) = (toneN n a b t 0 : Nat) := by rw [wrap64_fix (by omega) (by omega), HU0]
          obtain ⟨u, s', hu, hpw, HE, E2, HS2⟩ : ∃ (u s' : Nat), u < n ∧ ((1 : Int) ≤ 2 ^ u ∧ (2 : Int) ^ u ≤ 65536) ∧ Hid (wrap64 ((t : Int) % n) % (n : Int) = (u : Int)) ∧ Hid (bits .or .i64 ((setT n a b t 0 : Nat) : Int) ((2 : Int) ^ u) = (s' : Int)) ∧ Hid (setT n a b t (0 + 1) = s') := by
            exact ⟨_, _, HTl.out 0, HPw.out 0, Lib.hid hE, Lib.hid (HOr.out 0), Lib.hid rfl⟩
          have ha0 := arr3_0 0 a b wr
          clear HU0 HU1 HU2 hE hn1 hn2
          go_wp2_with fail
          refine region_calm hmx (by kernel_rfl) ?_
          intro S hSn f hS1 hS2
          have l0 : ∀ z, (f z).cell? ⟨w.heap.size, 0, none⟩ = some (.int .i64 n) := fun z => cell_later (hS1 z) d0
          have l1 : ∀ z, (f z).cell? ⟨w.heap.size, 1, none⟩ = some (.int .i64 a) := fun z => cell_later (hS1 z) d1
          have l2 : ∀ z, (f z).cell? ⟨w.heap.size, 2, none⟩ = some (.int .i64 b) := fun z => cell_later (hS1 z) d2
          have hC1 := Lib.hid (calm_call hS1 hS2 (fun z => HR.out (f z)))
          have hC2 := Lib.hid (fun x => calm_call0 (fun z => HM.out x (f z)))
          iterate 4 (go_big_quiet_step (exact hC1.out _))
          iterate 7 (go_big_quiet_step (exact hC2.out _ _))
          rw [HE.out]
          repeat (go_big_quiet_step (fail))
          refine wpQuiet_nil ?_
          rintro _ ⟨z, rfl⟩
          have hbs := hS1 z
          generalize f z = w2 at hbs
          clear l0 l1 l2 hC1 hC2 hS1 hS2
          try dsimp only [Exit.then]
          go_wp2
          go_roundw
          case rel => trace_state; exact ⟨0 + 1, by omega, by go_num, by rw [HS2.out, E2.out], HB.out.trans (hbs.mono HB.out.size)⟩
          case measure => simp only [intOf]; omega
        · have hE : wrap64 ((t : Int) % n + (a : Int)) % (n : Int) = (toneN n a b t 1 : Nat) := by rw [wrap64_fix (by omega) (by omega), HU1]
          obtain ⟨u, s', hu, hpw, HE, E2, HS2⟩ : ∃ (u s' : Nat), u < n ∧ ((1 : Int) ≤ 2 ^ u ∧ (2 : Int) ^ u ≤ 65536) ∧ Hid (wrap64 ((t : Int) % n + (a : Int)) % (n : Int) = (u : Int)) ∧ Hid (bits .or .i64 ((setT n a b t 1 : Nat) : Int) ((2 : Int) ^ u) = (s' : Int)) ∧ Hid (setT n a b t (1 + 1) = s') := by
            exact ⟨_, _, HTl.out 1, HPw.out 1, Lib.hid hE, Lib.hid (HOr.out 1), Lib.hid rfl⟩
          have ha0 := arr3_1 0 a b wr
          clear HU0 HU1 HU2 hE hn1 hn2
          go_wp2_with fail
          refine region_calm hmx (by kernel_rfl) ?_
          intro S hSn f hS1 hS2
          have l0 : ∀ z, (f z).cell? ⟨w.heap.size, 0, none⟩ = some (.int .i64 n) := fun z => cell_later (hS1 z) d0
          have l1 : ∀ z, (f z).cell? ⟨w.heap.size, 1, none⟩ = some (.int .i64 a) := fun z => cell_later (hS1 z) d1
          have l2 : ∀ z, (f z).cell? ⟨w.heap.size, 2, none⟩ = some (.int .i64 b) := fun z => cell_later (hS1 z) d2
          have hC1 := Lib.hid (calm_call hS1 hS2 (fun z => HR.out (f z)))
          have hC2 := Lib.hid (fun x => calm_call0 (fun z => HM.out x (f z)))
          iterate 4 (go_big_quiet_step (exact hC1.out _))
          iterate 7 (go_big_quiet_step (exact hC2.out _ _))
          rw [HE.out]
          repeat (go_big_quiet_step (fail))
          refine wpQuiet_nil ?_
          rintro _ ⟨z, rfl⟩
          have hbs := hS1 z
          generalize f z = w2 at hbs
          clear l0 l1 l2 hC1 hC2 hS1 hS2
          try dsimp only [Exit.then]
          go_wp2
          go_roundw
          case rel => trace_state; exact ⟨1 + 1, by omega, by go_num, by rw [HS2.out, E2.out], HB.out.trans (hbs.mono HB.out.size)⟩
          case measure => simp only [intOf]; omega
        · have hE : wrap64 ((t : Int) % n + (b : Int)) % (n : Int) = (toneN n a b t 2 : Nat) := by rw [wrap64_fix (by omega) (by omega), HU2]
          obtain ⟨u, s', hu, hpw, HE, E2, HS2⟩ : ∃ (u s' : Nat), u < n ∧ ((1 : Int) ≤ 2 ^ u ∧ (2 : Int) ^ u ≤ 65536) ∧ Hid (wrap64 ((t : Int) % n + (b : Int)) % (n : Int) = (u : Int)) ∧ Hid (bits .or .i64 ((setT n a b t 2 : Nat) : Int) ((2 : Int) ^ u) = (s' : Int)) ∧ Hid (setT n a b t (2 + 1) = s') := by
            exact ⟨_, _, HTl.out 2, HPw.out 2, Lib.hid hE, Lib.hid (HOr.out 2), Lib.hid rfl⟩
          have ha0 := arr3_2 0 a b wr
          clear HU0 HU1 HU2 hE hn1 hn2
          go_wp2_with fail
          refine region_calm hmx (by kernel_rfl) ?_
          intro S hSn f hS1 hS2
          have l0 : ∀ z, (f z).cell? ⟨w.heap.size, 0, none⟩ = some (.int .i64 n) := fun z => cell_later (hS1 z) d0
          have l1 : ∀ z, (f z).cell? ⟨w.heap.size, 1, none⟩ = some (.int .i64 a) := fun z => cell_later (hS1 z) d1
          have l2 : ∀ z, (f z).cell? ⟨w.heap.size, 2, none⟩ = some (.int .i64 b) := fun z => cell_later (hS1 z) d2
          have hC1 := Lib.hid (calm_call hS1 hS2 (fun z => HR.out (f z)))
          have hC2 := Lib.hid (fun x => calm_call0 (fun z => HM.out x (f z)))
          iterate 4 (go_big_quiet_step (exact hC1.out _))
          iterate 7 (go_big_quiet_step (exact hC2.out _ _))
          rw [HE.out]
          repeat (go_big_quiet_step (fail))
          refine wpQuiet_nil ?_
          rintro _ ⟨z, rfl⟩
          have hbs := hS1 z
          generalize f z = w2 at hbs
          clear l0 l1 l2 hC1 hC2 hS1 hS2
          try dsimp only [Exit.then]
          go_wp2
          go_roundw
          case rel => trace_state; exact ⟨2 + 1, by omega, by go_num, by rw [HS2.out, E2.out], HB.out.trans (hbs.mono HB.out.size)⟩
          case measure => simp only [intOf]; omega
      · have hj3 := Lib.hid (show j = 3 by omega)
        go_wp2
        go_ret
        exact ⟨ret_int (by rw [hj3.out]), c1.trans (HB.out.mono c1.size)⟩
  · rw [decide_eq_true (show (n : Int) ≤ t by omega)] at HD
    have HU := Lib.hid (fun k => tone_down (k := k) hk hd)
    clear hk
    go_enter Tryd.func22, Tryd.ntmps22
    go_wp2_with fail
    rw [HW.out]
    refine (HD.out _).mono ?_
    rintro e w1 ⟨rfl, b1⟩
    have k0 := cell_later b1 k0
    have k1 := cell_later b1 k1
    have k2 := cell_later b1 k2
    have c1 := below_nx b0 b1
    have s1 : w.heap.size < w1.heap.size := Nat.lt_of_lt_of_le s0 b1.size
    clear b1
    go_wp2
    go_loopw [6, 17] (fun s i wr => ∃ j : Nat, j ≤ 3 ∧ i = .int .i64 j ∧ s = .int .i64 (setT n a b t j : Nat) ∧ Below w1.heap.size w1 wr) (fun _ i _ => 3 - (intOf i).toNat)
    case atStart => exact ⟨0, Nat.zero_le _, rfl, by rw [HZ.out]; rfl, Below.refl _ _⟩
    case round =>
      obtain ⟨j, hj, rfl, rfl, hB⟩ := hrel
      have d0 := (hB.cell (p := ⟨w.heap.size, 0, none⟩) s1).trans k0
      have d1 := (hB.cell (p := ⟨w.heap.size, 1, none⟩) s1).trans k1
      have d2 := (hB.cell (p := ⟨w.heap.size, 2, none⟩) s1).trans k2
      have HB := Lib.hid hB
      clear hB k0 k1 k2
      by_cases hlt : j < 3
      · have hn1 : 0 ≤ (t : Int) % n := Int.emod_nonneg _ (by omega)
        have hn2 : (t : Int) % n < n := Int.emod_lt_of_pos _ (by omega)
        have htm : (t : Int).tmod n = (t : Int) % n := Int.tmod_eq_emod_of_nonneg (by omega)
        have HU0 := HU.out 0
        have HU1 := HU.out 1
        have HU2 := HU.out 2
        rw [htm] at HU0 HU1 HU2
        have o0 : ((offN a b 0 : Nat) : Int) = 0 := rfl
        have o1 : ((offN a b 1 : Nat) : Int) = a := rfl
        have o2 : ((offN a b 2 : Nat) : Int) = b := rfl
        rw [o0, Int.neg_zero, Int.add_zero] at HU0
        rw [o1] at HU1
        rw [o2] at HU2
        clear o0 o1 o2 htm HU
        rcases (show j = 0 ∨ j = 1 ∨ j = 2 by omega) with rfl | rfl | rfl
        · have hE : wrap64 ((t : Int) % n) % (n : Int) = (toneN n a b t 0 : Nat) := by rw [wrap64_fix (by omega) (by omega), HU0]
          obtain ⟨u, s', hu, hpw, HE, E2, HS2⟩ : ∃ (u s' : Nat), u < n ∧ ((1 : Int) ≤ 2 ^ u ∧ (2 : Int) ^ u ≤ 65536) ∧ Hid (wrap64 ((t : Int) % n) % (n : Int) = (u : Int)) ∧ Hid (bits .or .i64 ((setT n a b t 0 : Nat) : Int) ((2 : Int) ^ u) = (s' : Int)) ∧ Hid (setT n a b t (0 + 1) = s') := by
            exact ⟨_, _, HTl.out 0, HPw.out 0, Lib.hid hE, Lib.hid (HOr.out 0), Lib.hid rfl⟩
          have ha0 := arr3_0 0 a b wr
          clear HU0 HU1 HU2 hE hn1 hn2
          go_wp2_with fail
          refine region_calm hmx (by kernel_rfl) ?_
          intro S hSn f hS1 hS2
          have l0 : ∀ z, (f z).cell? ⟨w.heap.size, 0, none⟩ = some (.int .i64 n) := fun z => cell_later (hS1 z) d0
          have l1 : ∀ z, (f z).cell? ⟨w.heap.size, 1, none⟩ = some (.int .i64 a) := fun z => cell_later (hS1 z) d1
          have l2 : ∀ z, (f z).cell? ⟨w.heap.size, 2, none⟩ = some (.int .i64 b) := fun z => cell_later (hS1 z) d2
          have hC1 := Lib.hid (calm_call hS1 hS2 (fun z => HR.out (f z)))
          have hC2 := Lib.hid (fun x => calm_call0 (fun z => HM.out x (f z)))
          iterate 4 (go_big_quiet_step (exact hC1.out _))
          iterate 7 (go_big_quiet_step (exact hC2.out _ _))
          rw [HE.out]
          repeat (go_big_quiet_step (fail))
          refine wpQuiet_nil ?_
          rintro _ ⟨z, rfl⟩
          have hbs := hS1 z
          generalize f z = w2 at hbs
          clear l0 l1 l2 hC1 hC2 hS1 hS2
          try dsimp only [Exit.then]
          go_wp2
          go_roundw
          case rel => trace_state; exact ⟨0 + 1, by omega, by go_num, by rw [HS2.out, E2.out], HB.out.trans (hbs.mono HB.out.size)⟩
          case measure => simp only [intOf]; omega
        · have hE : wrap64 ((t : Int) % n + -(a : Int)) % (n : Int) = (toneN n a b t 1 : Nat) := by rw [wrap64_fix (by omega) (by omega), HU1]
          obtain ⟨u, s', hu, hpw, HE, E2, HS2⟩ : ∃ (u s' : Nat), u < n ∧ ((1 : Int) ≤ 2 ^ u ∧ (2 : Int) ^ u ≤ 65536) ∧ Hid (wrap64 ((t : Int) % n + -(a : Int)) % (n : Int) = (u : Int)) ∧ Hid (bits .or .i64 ((setT n a b t 1 : Nat) : Int) ((2 : Int) ^ u) = (s' : Int)) ∧ Hid (setT n a b t (1 + 1) = s') := by
            exact ⟨_, _, HTl.out 1, HPw.out 1, Lib.hid hE, Lib.hid (HOr.out 1), Lib.hid rfl⟩
          have ha0 := arr3_1 0 a b wr
          clear HU0 HU1 HU2 hE hn1 hn2
          go_wp2_with fail
          refine region_calm hmx (by kernel_rfl) ?_
          intro S hSn f hS1 hS2
          have l0 : ∀ z, (f z).cell? ⟨w.heap.size, 0, none⟩ = some (.int .i64 n) := fun z => cell_later (hS1 z) d0
          have l1 : ∀ z, (f z).cell? ⟨w.heap.size, 1, none⟩ = some (.int .i64 a) := fun z => cell_later (hS1 z) d1
          have l2 : ∀ z, (f z).cell? ⟨w.heap.size, 2, none⟩ = some (.int .i64 b) := fun z => cell_later (hS1 z) d2
          have hC1 := Lib.hid (calm_call hS1 hS2 (fun z => HR.out (f z)))
          have hC2 := Lib.hid (fun x => calm_call0 (fun z => HM.out x (f z)))
          iterate 4 (go_big_quiet_step (exact hC1.out _))
          iterate 7 (go_big_quiet_step (exact hC2.out _ _))
          rw [HE.out]
          repeat (go_big_quiet_step (fail))
          refine wpQuiet_nil ?_
          rintro _ ⟨z, rfl⟩
          have hbs := hS1 z
          generalize f z = w2 at hbs
          clear l0 l1 l2 hC1 hC2 hS1 hS2
          try dsimp only [Exit.then]
          go_wp2
          go_roundw
          case rel => trace_state; exact ⟨1 + 1, by omega, by go_num, by rw [HS2.out, E2.out], HB.out.trans (hbs.mono HB.out.size)⟩
          case measure => simp only [intOf]; omega
        · have hE : wrap64 ((t : Int) % n + -(b : Int)) % (n : Int) = (toneN n a b t 2 : Nat) := by rw [wrap64_fix (by omega) (by omega), HU2]
          obtain ⟨u, s', hu, hpw, HE, E2, HS2⟩ : ∃ (u s' : Nat), u < n ∧ ((1 : Int) ≤ 2 ^ u ∧ (2 : Int) ^ u ≤ 65536) ∧ Hid (wrap64 ((t : Int) % n + -(b : Int)) % (n : Int) = (u : Int)) ∧ Hid (bits .or .i64 ((setT n a b t 2 : Nat) : Int) ((2 : Int) ^ u) = (s' : Int)) ∧ Hid (setT n a b t (2 + 1) = s') := by
            exact ⟨_, _, HTl.out 2, HPw.out 2, Lib.hid hE, Lib.hid (HOr.out 2), Lib.hid rfl⟩
          have ha0 := arr3_2 0 a b wr
          clear HU0 HU1 HU2 hE hn1 hn2
          go_wp2_with fail
          refine region_calm hmx (by kernel_rfl) ?_
          intro S hSn f hS1 hS2
          have l0 : ∀ z, (f z).cell? ⟨w.heap.size, 0, none⟩ = some (.int .i64 n) := fun z => cell_later (hS1 z) d0
          have l1 : ∀ z, (f z).cell? ⟨w.heap.size, 1, none⟩ = some (.int .i64 a) := fun z => cell_later (hS1 z) d1
          have l2 : ∀ z, (f z).cell? ⟨w.heap.size, 2, none⟩ = some (.int .i64 b) := fun z => cell_later (hS1 z) d2
          have hC1 := Lib.hid (calm_call hS1 hS2 (fun z => HR.out (f z)))
          have hC2 := Lib.hid (fun x => calm_call0 (fun z => HM.out x (f z)))
          iterate 4 (go_big_quiet_step (exact hC1.out _))
          iterate 7 (go_big_quiet_step (exact hC2.out _ _))
          rw [HE.out]
          repeat (go_big_quiet_step (fail))
          refine wpQuiet_nil ?_
          rintro _ ⟨z, rfl⟩
          have hbs := hS1 z
          generalize f z = w2 at hbs
          clear l0 l1 l2 hC1 hC2 hS1 hS2
          try dsimp only [Exit.then]
          go_wp2
          go_roundw
          case rel => trace_state; exact ⟨2 + 1, by omega, by go_num, by rw [HS2.out, E2.out], HB.out.trans (hbs.mono HB.out.size)⟩
          case measure => simp only [intOf]; omega
      · have hj3 := Lib.hid (show j = 3 by omega)
        go_wp2
        go_ret
        exact ⟨ret_int (by rw [hj3.out]), c1.trans (HB.out.mono c1.size)⟩
end Go.Proofs.YtibkhjbcagihbaaDoor
