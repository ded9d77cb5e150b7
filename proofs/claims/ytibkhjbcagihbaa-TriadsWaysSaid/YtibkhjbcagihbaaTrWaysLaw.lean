/-
  The statement on Way and Far.
-/
import Derived.Test.YtibkhjbcagihbaaTrWaysRef2
import Derived.Test.YtibkhjbcagihbaaTrFarLaw
namespace Go.Proofs.Ytibkhjbcagihbaa
open Go.ChangeShapes Go.WideShapes Go.ChangeAt Go.RowKit
set_option maxRecDepth 100000

set_option maxHeartbeats 4000000 in
theorem TriadsWays_walk (n a b t u : Int) (_ : (Lit.int .i64 n).wf = true) (_ : (Lit.int .i64 a).wf = true) (_ : (Lit.int .i64 b).wf = true) (_ : (Lit.int .i64 t).wf = true) (_ : (Lit.int .i64 u).wf = true) (w : World) :
    Calls Try.prog 5 #[kv n a b, .int .i64 t, .int .i64 u] w fun e w' => e = .returned (.bool true) ∧ Below w.heap.size w w' := by
  have HO := Lib.hid (Of_any n a b)
  have HAw := Lib.hid awake_any
  obtain ⟨W0, hW0⟩ : ∃ W0, w.alloc (rcells n a b) = W0 := ⟨_, rfl⟩
  have b0 : Below w.heap.size w W0 := by rw [← hW0]; exact (Below.refl _ w).alloc (Nat.le_refl _) _
  have k0 : W0.cell? ⟨w.heap.size, 0, none⟩ = some (.int .i64 n) := by rw [← hW0]; simp
  have k1 : W0.cell? ⟨w.heap.size, 1, none⟩ = some (.int .i64 a) := by rw [← hW0]; simp
  have k2 : W0.cell? ⟨w.heap.size, 2, none⟩ = some (.int .i64 b) := by rw [← hW0]; simp
  have hW := Lib.hid hW0
  clear hW0
  cases hb : kindB n a b && triB n t
  · have HF := Lib.hid (Far_bad n a b t hb)
    have HWy := Lib.hid (Way_bad n a b t u (by rw [← Bool.and_assoc, hb]; rfl))
    have HFi := Lib.hid (fine1 n a b t false hb)
    clear hb
    go_enter Try.func5, Try.ntmps5
    go_wp2_with fail
    rw [hW.out]
    refine (HO.out _).mono ?_
    rintro e w1 ⟨rfl, b1⟩
    have c1 := below_nx b0 b1
    have k0 := cell_later b1 k0
    have k1 := cell_later b1 k1
    have k2 := cell_later b1 k2
    go_wp2_with fail
    refine (HWy.out _).mono ?_
    rintro e w2 ⟨rfl, b2⟩
    have c2 := below_nx c1 b2
    have k0 := cell_later b2 k0
    have k1 := cell_later b2 k1
    have k2 := cell_later b2 k2
    go_wp2_with fail
    refine (HO.out _).mono ?_
    rintro e w3 ⟨rfl, b3⟩
    have c3 := below_nx c2 b3
    have k0 := cell_later b3 k0
    have k1 := cell_later b3 k1
    have k2 := cell_later b3 k2
    go_wp2_with fail
    refine (HF.out _).mono ?_
    rintro e w4 ⟨rfl, b4⟩
    have c4 := below_nx c3 b4
    have k0 := cell_later b4 k0
    have k1 := cell_later b4 k1
    have k2 := cell_later b4 k2
    have HFc := Lib.hid (HFi.out w4.heap.size 1 (w4.alloc (.cells #[.int .i64 t] 3)) (by simp))
    have c5 := c4.alloc c4.size (.cells #[.int .i64 t] 3)
    clear b1 b2 b3 b4
    go_wp2_with fail
    refine HFc.out.mono ?_
    rintro e w5 ⟨rfl, b5⟩
    have c6 := below_nx c5 b5
    go_wp2_with fail
    refine (HAw.out _).mono ?_
    rintro e w6 ⟨rfl, b6⟩
    go_wp2
    go_ret
    exact ⟨rfl, below_nx c6 b6⟩
  · have hb' := hb
    rw [Bool.and_eq_true] at hb'
    have hkb := hb'.1
    obtain ⟨n, a, b, rfl, rfl, rfl, hk⟩ := kindB_nat hb'.1
    have ht : 0 ≤ t ∧ t < 2 * n := by have := hb'.2; unfold triB at this; exact of_decide_eq_true this
    have htB := hb'.2
    obtain ⟨t, rfl⟩ := Int.eq_ofNat_of_zero_le ht.1
    have ht : t < 2 * n := by omega
    have h16 := hk.h16
    have HF := Lib.hid (Far_cells n a b t hk ht)
    have HRF := Lib.hid (RFar_any n a b t hk ht)
    have HFi := Lib.hid (fine1 n a b t true hb)
    have HRT := Lib.hid (RTriad_any n a b u)
    rw [triad_test hkb] at HRT
    have hshort := far_short hk
    have hlen := far_len hk
    generalize farL n a b = xs at HF HRF hshort hlen
    cases hu : triB n u
    · have HWy := Lib.hid (Way_bad n a b t u (by rw [hu, Bool.and_false, Bool.and_false]))
      rw [hu] at HRT
      clear hb hb' hkb htB hu
      go_enter Try.func5, Try.ntmps5
      go_wp2_with fail
      rw [hW.out]
      refine (HO.out _).mono ?_
      rintro e w1 ⟨rfl, b1⟩
      have c1 := below_nx b0 b1
      have k0 := cell_later b1 k0
      have k1 := cell_later b1 k1
      have k2 := cell_later b1 k2
      go_wp2_with fail
      refine (HWy.out _).mono ?_
      rintro e w2 ⟨rfl, b2⟩
      have c2 := below_nx c1 b2
      have k0 := cell_later b2 k0
      have k1 := cell_later b2 k1
      have k2 := cell_later b2 k2
      go_wp2_with fail
      refine (HO.out _).mono ?_
      rintro e w3 ⟨rfl, b3⟩
      have c3 := below_nx c2 b3
      have k0 := cell_later b3 k0
      have k1 := cell_later b3 k1
      have k2 := cell_later b3 k2
      go_wp2_with fail
      refine (HF.out _).mono ?_
      rintro e w4 ⟨g, cap, rfl, hc, b4⟩
      have c4 := below_nx c3 b4
      have k0 := cell_later b4 k0
      have k1 := cell_later b4 k1
      have k2 := cell_later b4 k2
      have HFc := Lib.hid (HFi.out w4.heap.size 1 (w4.alloc (.cells #[.int .i64 t] 3)) (by simp))
      have bA : Below w4.heap.size w4 (w4.alloc (.cells #[.int .i64 t] 3)) := (Below.refl _ w4).alloc (Nat.le_refl _) _
      have c5 := c4.alloc c4.size (.cells #[.int .i64 t] 3)
      have k0 : (w4.alloc (.cells #[.int .i64 t] 3)).cell? ⟨w.heap.size, 0, none⟩ = some (.int .i64 n) := cell_later bA k0
      have k1 : (w4.alloc (.cells #[.int .i64 t] 3)).cell? ⟨w.heap.size, 1, none⟩ = some (.int .i64 a) := cell_later bA k1
      have k2 : (w4.alloc (.cells #[.int .i64 t] 3)).cell? ⟨w.heap.size, 2, none⟩ = some (.int .i64 b) := cell_later bA k2
      have HC := Lib.hid (fun i hi => cell_later bA (hc i hi))
      clear b1 b2 b3 b4 hc bA
      go_wp2_with fail
      refine HFc.out.mono ?_
      rintro e w5 ⟨rfl, b5⟩
      have c6 := below_nx c5 b5
      have k0 := cell_later b5 k0
      have k1 := cell_later b5 k1
      have k2 := cell_later b5 k2
      have HC := Lib.hid (fun i hi => cell_later b5 (HC.out i hi))
      go_wp2_with fail
      refine (HRF.out _).mono ?_
      rintro e w6 ⟨v, lo, rfl, hown, b6⟩
      have c7 := below_nx c6 b6
      have k0 := cell_later b6 k0
      have k1 := cell_later b6 k1
      have k2 := cell_later b6 k2
      have HC := fun i hi => cell_later b6 (HC.out i hi)
      have HE := Lib.hid (EqInts_any (by omega) (Or.inr ⟨g, cap, rfl, HC⟩) (IntsAt.of_own hown))
      clear hown b5 b6 HC
      go_wp2_with fail
      refine HE.out.mono ?_
      rintro e w7 ⟨rfl, m, rfl⟩
      have c8 := below_drewN c7 m
      have k0 : (w6.drewN m).cell? ⟨w.heap.size, 0, none⟩ = some (.int .i64 n) := k0
      have k1 : (w6.drewN m).cell? ⟨w.heap.size, 1, none⟩ = some (.int .i64 a) := k1
      have k2 : (w6.drewN m).cell? ⟨w.heap.size, 2, none⟩ = some (.int .i64 b) := k2
      go_wp2_with fail
      refine (HAw.out _).mono ?_
      rintro e w8 ⟨rfl, b8⟩
      have c9 := below_nx c8 b8
      have k0 := cell_later b8 k0
      have k1 := cell_later b8 k1
      have k2 := cell_later b8 k2
      go_wp2_with fail
      refine (HRT.out _).mono ?_
      rintro e w9 ⟨rfl, b9⟩
      go_wp2
      go_ret
      exact ⟨rfl, below_nx c9 b9⟩
    · have hu2 : 0 ≤ u ∧ u < 2 * n := by unfold triB at hu; exact of_decide_eq_true hu
      obtain ⟨u, rfl⟩ := Int.eq_ofNat_of_zero_le hu2.1
      have hu3 : u < 2 * n := by omega
      have HWy := Lib.hid (Way_ok n a b t u hk ht hu3)
      have HRW := Lib.hid (RWay_any n a b t u hk ht hu3)
      rw [hu] at HRT
      clear hb hb' hkb htB hu hu2
      have HV : Hid (∃ s e, wayV (lookL (bfsA n a b t) u) = .tuple #[.string s, .int .i64 e]) := Lib.hid (by
        cases lookL (bfsA n a b t) u with
        | none => exact ⟨_, _, rfl⟩
        | some l => exact ⟨_, _, rfl⟩)
      obtain ⟨s, er, hV⟩ := HV.out
      rw [hV] at HWy HRW
      clear HV hV
      go_enter Try.func5, Try.ntmps5
      go_wp2_with fail
      rw [hW.out]
      refine (HO.out _).mono ?_
      rintro e w1 ⟨rfl, b1⟩
      have c1 := below_nx b0 b1
      have k0 := cell_later b1 k0
      have k1 := cell_later b1 k1
      have k2 := cell_later b1 k2
      go_wp2_with fail
      refine (HWy.out _).mono ?_
      rintro e w2 ⟨rfl, b2⟩
      have c2 := below_nx c1 b2
      have k0 := cell_later b2 k0
      have k1 := cell_later b2 k1
      have k2 := cell_later b2 k2
      go_wp2_with fail
      refine (HO.out _).mono ?_
      rintro e w3 ⟨rfl, b3⟩
      have c3 := below_nx c2 b3
      have k0 := cell_later b3 k0
      have k1 := cell_later b3 k1
      have k2 := cell_later b3 k2
      go_wp2_with fail
      refine (HF.out _).mono ?_
      rintro e w4 ⟨g, cap, rfl, hc, b4⟩
      have c4 := below_nx c3 b4
      have k0 := cell_later b4 k0
      have k1 := cell_later b4 k1
      have k2 := cell_later b4 k2
      have HFc := Lib.hid (HFi.out w4.heap.size 1 (w4.alloc (.cells #[.int .i64 t] 3)) (by simp))
      have bA : Below w4.heap.size w4 (w4.alloc (.cells #[.int .i64 t] 3)) := (Below.refl _ w4).alloc (Nat.le_refl _) _
      have c5 := c4.alloc c4.size (.cells #[.int .i64 t] 3)
      have k0 : (w4.alloc (.cells #[.int .i64 t] 3)).cell? ⟨w.heap.size, 0, none⟩ = some (.int .i64 n) := cell_later bA k0
      have k1 : (w4.alloc (.cells #[.int .i64 t] 3)).cell? ⟨w.heap.size, 1, none⟩ = some (.int .i64 a) := cell_later bA k1
      have k2 : (w4.alloc (.cells #[.int .i64 t] 3)).cell? ⟨w.heap.size, 2, none⟩ = some (.int .i64 b) := cell_later bA k2
      have HC := Lib.hid (fun i hi => cell_later bA (hc i hi))
      clear b1 b2 b3 b4 hc bA
      go_wp2_with fail
      refine HFc.out.mono ?_
      rintro e w5 ⟨rfl, b5⟩
      have c6 := below_nx c5 b5
      have k0 := cell_later b5 k0
      have k1 := cell_later b5 k1
      have k2 := cell_later b5 k2
      have HC := Lib.hid (fun i hi => cell_later b5 (HC.out i hi))
      go_wp2_with fail
      refine (HRF.out _).mono ?_
      rintro e w6 ⟨v, lo, rfl, hown, b6⟩
      have c7 := below_nx c6 b6
      have k0 := cell_later b6 k0
      have k1 := cell_later b6 k1
      have k2 := cell_later b6 k2
      have HC := fun i hi => cell_later b6 (HC.out i hi)
      have HE := Lib.hid (EqInts_any (by omega) (Or.inr ⟨g, cap, rfl, HC⟩) (IntsAt.of_own hown))
      clear hown b5 b6 HC
      go_wp2_with fail
      refine HE.out.mono ?_
      rintro e w7 ⟨rfl, m, rfl⟩
      have c8 := below_drewN c7 m
      have k0 : (w6.drewN m).cell? ⟨w.heap.size, 0, none⟩ = some (.int .i64 n) := k0
      have k1 : (w6.drewN m).cell? ⟨w.heap.size, 1, none⟩ = some (.int .i64 a) := k1
      have k2 : (w6.drewN m).cell? ⟨w.heap.size, 2, none⟩ = some (.int .i64 b) := k2
      go_wp2_with fail
      refine (HAw.out _).mono ?_
      rintro e w8 ⟨rfl, b8⟩
      have c9 := below_nx c8 b8
      have k0 := cell_later b8 k0
      have k1 := cell_later b8 k1
      have k2 := cell_later b8 k2
      go_wp2_with fail
      refine (HRT.out _).mono ?_
      rintro e w9 ⟨rfl, b9⟩
      have c10 := below_nx c9 b9
      have k0 := cell_later b9 k0
      have k1 := cell_later b9 k1
      have k2 := cell_later b9 k2
      go_wp2_with fail
      refine (HRW.out _).mono ?_
      rintro e w10 ⟨rfl, b10⟩
      go_wp2
      go_ret
      exact ⟨rfl, below_nx c10 b10⟩
end Go.Proofs.Ytibkhjbcagihbaa
