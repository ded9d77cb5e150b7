/-
  The reference's Tones and Find.
-/
import Derived.Test.YtibkhjbcagihbaaDoorTrFind
namespace Go.Proofs.YtibkhjbcagihbaaDoor
open Go.ChangeShapes Go.WideShapes Go.ChangeAt Go.RowKit Go.Shelf
set_option maxRecDepth 100000

theorem setT_three (n a b t : Nat) : setT n a b t 3 = (2 ^ toneN n a b t 0 ||| 2 ^ toneN n a b t 1) ||| 2 ^ toneN n a b t 2 := by
  rw [setT_succ, setT_succ, setT_succ]
  rw [show setT n a b t 0 = 0 from rfl, Nat.zero_or]

theorem or_pows {x y z : Nat} (hx : x < 16) (hy : y < 16) (hz : z < 16) : bits .or .i64 (bits .or .i64 ((2 : Int) ^ x) ((2 : Int) ^ y)) ((2 : Int) ^ z) = (((2 ^ x ||| 2 ^ y) ||| 2 ^ z : Nat) : Int) := by
  have p : ∀ k, k < 16 → 2 ^ k ≤ 2 ^ 15 := fun k h => Nat.pow_le_pow_right (by omega) (by omega)
  have px := p x hx
  have py := p y hy
  have pz := p z hz
  have e : ∀ k : Nat, (2 : Int) ^ k = ((2 ^ k : Nat) : Int) := fun k => by simp
  have hl : 2 ^ x ||| 2 ^ y < 2 ^ 16 := Nat.or_lt_two_pow (by omega) (by omega)
  rw [e x, e y, e z, or_nat _ _ (by omega) (by omega), or_nat _ _ (by omega) (by omega)]

set_option maxHeartbeats 2000000 in
theorem RTones_any (n a b t : Nat) (hk : KOk n a b) (ht : t < 2 * n) (w : World) :
    Calls Tryd.prog 9 #[kv n a b, .int .i64 t] w fun e w' => e = .returned (.int .i64 (setT n a b t 3 : Nat)) ∧ Below w.heap.size w w' := by
  have h0 := hk.h6
  have h1 := hk.h16
  have h2 := hk.hab
  have h3 := hk.hbn
  have hmx : Tryd.prog.follows .mixedOrders = true := by kernel_rfl
  have hnz : ((n : Int) == 0) = false := by rw [beq_eq_false_iff_ne]; omega
  have HM := Lib.hid (fun x => refmod_any x n (by omega) (by omega))
  have hr := tone0_eq n a b t hk ht
  have hu1 := toneN_lt hk t 1
  have hu2 := toneN_lt hk t 2
  have hu0 := toneN_lt hk t 0
  have HSet := Lib.hid (setT_three n a b t)
  obtain ⟨W0, hW0⟩ : ∃ W0, w.alloc (rcells n a b) = W0 := ⟨_, rfl⟩
  have b0 : Below w.heap.size w W0 := by rw [← hW0]; exact (Below.refl _ w).alloc (Nat.le_refl _) _
  have k0 : W0.cell? ⟨w.heap.size, 0, none⟩ = some (.int .i64 n) := by rw [← hW0]; simp
  have k1 : W0.cell? ⟨w.heap.size, 1, none⟩ = some (.int .i64 a) := by rw [← hW0]; simp
  have k2 : W0.cell? ⟨w.heap.size, 2, none⟩ = some (.int .i64 b) := by rw [← hW0]; simp
  have HW := Lib.hid hW0
  clear hW0
  by_cases hd : t < n
  · have hU1 := tone_up (k := 1) hk hd
    have hU2 := tone_up (k := 2) hk hd
    rw [hr, show ((offN a b 1 : Nat) : Int) = a from rfl] at hU1
    rw [hr, show ((offN a b 2 : Nat) : Int) = b from rfl] at hU2
    have hdI : ¬ ((n : Int) ≤ (t : Int)) := by omega
    generalize toneN n a b t 0 = r at *
    generalize toneN n a b t 1 = x at *
    generalize toneN n a b t 2 = y at *
    have HM1 : Hid (∀ w, Calls Tryd.prog 24 #[.int .i64 ((r : Int) + a), .int .i64 n] w fun e w' => e = .returned (.int .i64 x) ∧ w = w') := Lib.hid (fun w => by rw [← hU1]; exact HM.out _ w)
    have HM2 : Hid (∀ w, Calls Tryd.prog 24 #[.int .i64 ((r : Int) + b), .int .i64 n] w fun e w' => e = .returned (.int .i64 y) ∧ w = w') := Lib.hid (fun w => by rw [← hU2]; exact HM.out _ w)
    have HP := Lib.hid (or_pows (x := r) (y := x) (z := y) (by omega) (by omega) (by omega))
    have p0 := pow_bd (r : Int) (by omega) (by omega)
    have p1 := pow_bd (x : Int) (by omega) (by omega)
    have p2 := pow_bd (y : Int) (by omega) (by omega)
    rw [Int.toNat_natCast] at p0 p1 p2
    clear HM hU1 hU2 hk
    go_enter Tryd.func9, Tryd.ntmps9
    go_wp2_with fail
    rw [HW.out]
    refine region_calm hmx (by kernel_rfl) ?_
    intro S hSn f hS1 hS2
    have l0 : ∀ z, (f z).cell? ⟨w.heap.size, 0, none⟩ = some (.int .i64 n) := fun z => cell_later (hS1 z) k0
    have l1 : ∀ z, (f z).cell? ⟨w.heap.size, 1, none⟩ = some (.int .i64 a) := fun z => cell_later (hS1 z) k1
    have l2 : ∀ z, (f z).cell? ⟨w.heap.size, 2, none⟩ = some (.int .i64 b) := fun z => cell_later (hS1 z) k2
    have hC1 := Lib.hid (calm_call0 (fun z => HM1.out (f z)))
    have hC2 := Lib.hid (calm_call0 (fun z => HM2.out (f z)))
    iterate 11 (go_big_quiet_step (exact hC1.out _))
    repeat (go_big_quiet_step (exact hC2.out _))
    refine wpQuiet_nil ?_
    rintro _ ⟨z, rfl⟩
    have hbs := hS1 z
    generalize f z = w2 at hbs
    clear l0 l1 l2 hC1 hC2 hS1 hS2
    try dsimp only [Exit.then]
    go_wp2
    go_ret
    exact ⟨ret_int (by rw [HSet.out, HP.out]), below_nx b0 hbs⟩
  · have hU1 := tone_down (k := 1) hk hd
    have hU2 := tone_down (k := 2) hk hd
    rw [hr, show ((offN a b 1 : Nat) : Int) = a from rfl] at hU1
    rw [hr, show ((offN a b 2 : Nat) : Int) = b from rfl] at hU2
    have hdI : (n : Int) ≤ (t : Int) := by omega
    generalize toneN n a b t 0 = r at *
    generalize toneN n a b t 1 = x at *
    generalize toneN n a b t 2 = y at *
    have HM1 : Hid (∀ w, Calls Tryd.prog 24 #[.int .i64 ((r : Int) + -a), .int .i64 n] w fun e w' => e = .returned (.int .i64 x) ∧ w = w') := Lib.hid (fun w => by rw [← hU1]; exact HM.out _ w)
    have HM2 : Hid (∀ w, Calls Tryd.prog 24 #[.int .i64 ((r : Int) + -b), .int .i64 n] w fun e w' => e = .returned (.int .i64 y) ∧ w = w') := Lib.hid (fun w => by rw [← hU2]; exact HM.out _ w)
    have HP := Lib.hid (or_pows (x := r) (y := x) (z := y) (by omega) (by omega) (by omega))
    have p0 := pow_bd (r : Int) (by omega) (by omega)
    have p1 := pow_bd (x : Int) (by omega) (by omega)
    have p2 := pow_bd (y : Int) (by omega) (by omega)
    rw [Int.toNat_natCast] at p0 p1 p2
    clear HM hU1 hU2 hk
    go_enter Tryd.func9, Tryd.ntmps9
    go_wp2_with fail
    rw [HW.out]
    refine region_calm hmx (by kernel_rfl) ?_
    intro S hSn f hS1 hS2
    have l0 : ∀ z, (f z).cell? ⟨w.heap.size, 0, none⟩ = some (.int .i64 n) := fun z => cell_later (hS1 z) k0
    have l1 : ∀ z, (f z).cell? ⟨w.heap.size, 1, none⟩ = some (.int .i64 a) := fun z => cell_later (hS1 z) k1
    have l2 : ∀ z, (f z).cell? ⟨w.heap.size, 2, none⟩ = some (.int .i64 b) := fun z => cell_later (hS1 z) k2
    have hC1 := Lib.hid (calm_call0 (fun z => HM1.out (f z)))
    have hC2 := Lib.hid (calm_call0 (fun z => HM2.out (f z)))
    iterate 11 (go_big_quiet_step (exact hC1.out _))
    repeat (go_big_quiet_step (exact hC2.out _))
    refine wpQuiet_nil ?_
    rintro _ ⟨z, rfl⟩
    have hbs := hS1 z
    generalize f z = w2 at hbs
    clear l0 l1 l2 hC1 hC2 hS1 hS2
    try dsimp only [Exit.then]
    go_wp2
    go_ret
    exact ⟨ret_int (by rw [HSet.out, HP.out]), below_nx b0 hbs⟩

set_option maxHeartbeats 2000000 in
theorem RFind_any (n a b s : Nat) (hk : KOk n a b) (w : World) :
    Calls Tryd.prog 12 #[kv n a b, .int .i64 s] w fun e w' => (∃ r x : Nat, FindIs n a b s r x ∧ e = .returned (.tuple #[.int .i64 r, .int .i64 x])) ∧ Below w.heap.size w w' := by
  have h0 := hk.h6
  have h1 := hk.h16
  have HT := Lib.hid (fun t ht => RTones_any n a b t hk ht)
  obtain ⟨W0, hW0⟩ : ∃ W0, w.alloc (rcells n a b) = W0 := ⟨_, rfl⟩
  have b0 : Below w.heap.size w W0 := by rw [← hW0]; exact (Below.refl _ w).alloc (Nat.le_refl _) _
  have s0 : w.heap.size < W0.heap.size := by rw [← hW0]; simp
  have k0 : W0.cell? ⟨w.heap.size, 0, none⟩ = some (.int .i64 n) := by rw [← hW0]; simp
  have k1 : W0.cell? ⟨w.heap.size, 1, none⟩ = some (.int .i64 a) := by rw [← hW0]; simp
  have k2 : W0.cell? ⟨w.heap.size, 2, none⟩ = some (.int .i64 b) := by rw [← hW0]; simp
  have HW := Lib.hid hW0
  clear hW0 hk
  go_enter Tryd.func12, Tryd.ntmps12
  go_wp2
  rw [HW.out]
  go_loopw [10] (fun p wr => ∃ j : Nat, j ≤ 2 * n ∧ p = .int .i64 j ∧ (∀ t, t < j → setT n a b t 3 ≠ s) ∧ Below W0.heap.size W0 wr) (fun p _ => 2 * n - (intOf p).toNat)
  case atStart => exact ⟨0, Nat.zero_le _, rfl, fun t ht => by omega, Below.refl _ _⟩
  case round =>
    obtain ⟨j, hj, rfl, hno, hB⟩ := hrel
    have d0 := (hB.cell (p := ⟨w.heap.size, 0, none⟩) s0).trans k0
    have d1 := (hB.cell (p := ⟨w.heap.size, 1, none⟩) s0).trans k1
    have d2 := (hB.cell (p := ⟨w.heap.size, 2, none⟩) s0).trans k2
    have HB := Lib.hid hB
    have HNo := Lib.hid hno
    clear hB k0 k1 k2 hno
    by_cases hjl : j < 2 * n
    · have HT1 := Lib.hid (HT.out j hjl)
      obtain ⟨x, hxe⟩ : ∃ x : Nat, setT n a b j 3 = x := ⟨_, rfl⟩
      rw [hxe] at HT1
      have Hx := Lib.hid hxe
      clear hxe
      go_wp2_with fail
      refine (HT1.out _).mono ?_
      rintro e w2 ⟨rfl, b2⟩
      have HB2 := Lib.hid (HB.out.trans (b2.mono HB.out.size))
      clear b2
      by_cases he : x = s
      · have hq : ((x : Int) == (s : Int)) = true := by rw [beq_iff_eq]; omega
        have hfin := Lib.hid (show FindIs n a b s j 0 from .inl ⟨hjl, Hx.out.trans he, rfl⟩)
        clear he
        go_wp2
        go_ret2
        exact ⟨⟨_, _, hfin.out, rfl⟩, b0.trans (HB2.out.mono b0.size)⟩
      · have hq : ((x : Int) == (s : Int)) = false := by rw [beq_eq_false_iff_ne]; omega
        have Hne := Lib.hid he
        clear he
        go_wp2
        go_roundw
        case rel => exact ⟨j + 1, by omega, by go_num, fun t ht => by
          by_cases hl : t < j
          · exact HNo.out t hl
          · obtain rfl : t = j := by omega
            rw [Hx.out]; exact Hne.out, HB2.out⟩
        case measure => simp only [intOf]; omega
    · have hfin := Lib.hid (show FindIs n a b s 0 4 from .inr ⟨fun t ht => HNo.out t (by omega), rfl, rfl⟩)
      go_wp2
      go_ret2
      exact ⟨⟨_, _, hfin.out, rfl⟩, b0.trans (HB.out.mono b0.size)⟩
end Go.Proofs.YtibkhjbcagihbaaDoor
