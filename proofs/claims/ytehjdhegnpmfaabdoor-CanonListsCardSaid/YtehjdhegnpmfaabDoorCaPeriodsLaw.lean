/-
  The walk of the statement on periods.
-/
import Derived.Test.YtehjdhegnpmfaabDoorCaPeriod
namespace Go.Proofs.YtehjdhegnpmfaabDoor
open Go.RowKit Go.Shelf
attribute [local go_sem] Oper.semAt_some
set_option maxRecDepth 100000

theorem refIs_low (n a d : Int) (hd : d < 1) (w : World) :
    Calls Tryd.prog 27 #[.int .i64 n, .int .i64 a, .int .i64 d] w fun e w' => e = .returned (.bool false) ∧ w = w' := by
  go_enter Tryd.func27, Tryd.ntmps27
  go_wp2
  go_ret
  exact ⟨rfl, rfl⟩

set_option maxHeartbeats 2000000 in
theorem CanonPeriods_walk (n a d : Int) (_w0 : (Lit.int .i64 n).wf = true) (_w1 : (Lit.int .i64 a).wf = true) (w2 : (Lit.int .i64 d).wf = true) (w : World) (hT : Tab w) :
    Calls Tryd.prog 5 #[.int .i64 n, .int .i64 a, .int .i64 d] w fun e w' => e = .returned (.bool true) ∧ Below w.heap.size w w' := by
  have HVa := Lib.hid (Rhythm_any n a)
  cases hv : vldB n a
  · have H1 := Lib.hid (Period_bad n a hv)
    have H2 := Lib.hid (Fold_bad n a d w2 (fun h => by have := h.1; rw [hv] at this; cases this))
    rw [hv] at HVa
    clear hv
    go_enter Tryd.func5, Tryd.ntmps5
    go_wp2_with fail
    refine (H1.out _).mono ?_
    rintro e w1 ⟨rfl, b1⟩
    have t1 := hT.same b1
    go_wp2_with fail
    refine (H2.out _).mono ?_
    rintro e w2 ⟨rfl, b2⟩
    have t2 := t1.same b2
    have c2 := below_next b1 b2
    clear b1 b2 t1 hT
    go_wp2_with fail
    refine (HVa.out _).mono ?_
    rintro e w3 ⟨rfl, rfl⟩
    go_wp2_with fail
    refine (awake2_any _ t2).mono ?_
    rintro e w4 ⟨rfl, b4⟩
    go_wp2
    go_ret
    exact ⟨rfl, below_next c2 b4⟩
  · rw [hv] at HVa
    have HV := Lib.hid hv
    have hwd := bounds_i64 w2
    obtain ⟨n, a, rfl, rfl, hn, hn2, ha, ha1⟩ := vldB_nat hv
    have H1 := Lib.hid (Period_ok n a hn hn2 ha ha1)
    have R1 := Lib.hid (refPeriod_any n a hn hn2 ha)
    generalize perN n a = p at H1 R1
    clear hv
    by_cases h2 : 2 ≤ d
    · obtain ⟨d, rfl⟩ := Int.eq_ofNat_of_zero_le (show 0 ≤ d by omega)
      have RI := Lib.hid (refIs_any n a d hn hn2 ha (by omega) (by omega))
      cases hp : perB n a d
      · have H2 := Lib.hid (Fold_bad n a d w2 (fun h => by have h3 : perB n a d = true := h.2.2; rw [hp] at h3; cases h3))
        rw [hp] at RI
        clear hp ha ha1
        go_enter Tryd.func5, Tryd.ntmps5
        go_wp2_with fail
        refine (H1.out _).mono ?_
        rintro e w1 ⟨rfl, b1⟩
        have t1 := hT.same b1
        go_wp2_with fail
        refine (H2.out _).mono ?_
        rintro e w2 ⟨rfl, b2⟩
        have t2 := t1.same b2
        have c2 := below_next b1 b2
        clear b1 b2 t1 hT
        go_wp2_with fail
        refine (HVa.out _).mono ?_
        rintro e w3 ⟨rfl, rfl⟩
        go_wp2_with fail
        refine (R1.out _).mono ?_
        rintro e w3 ⟨rfl, m3, rfl⟩
        go_wp2_with fail
        refine (awake2_any _ (t2.same (below_drewN (Below.refl _ _) m3))).mono ?_
        rintro e w4 ⟨rfl, b4⟩
        have c4 := below_next (below_drewN c2 m3) b4
        clear b4 c2 t2
        go_wp2_with fail
        refine (RI.out _).mono ?_
        rintro e w5 ⟨rfl, m5, rfl⟩
        go_wp2
        go_ret
        exact ⟨rfl, below_drewN c4 m5⟩
      · have H2 := Lib.hid (Fold_ok n a d hn hn2 ha ha1 (by omega) hp)
        have R2 := Lib.hid (refFold_any n a d hn hn2 ha (by omega) (per_le (by omega) hp))
        generalize foldN n a d = q at H2 R2
        rw [hp] at RI
        clear hp ha ha1
        go_enter Tryd.func5, Tryd.ntmps5
        go_wp2_with fail
        refine (H1.out _).mono ?_
        rintro e w1 ⟨rfl, b1⟩
        have t1 := hT.same b1
        go_wp2_with fail
        refine (H2.out _).mono ?_
        rintro e w2 ⟨rfl, b2⟩
        have t2 := t1.same b2
        have c2 := below_next b1 b2
        clear b1 b2 t1 hT
        go_wp2_with fail
        refine (HVa.out _).mono ?_
        rintro e w3 ⟨rfl, rfl⟩
        go_wp2_with fail
        refine (R1.out _).mono ?_
        rintro e w3 ⟨rfl, m3, rfl⟩
        go_wp2_with fail
        refine (awake2_any _ (t2.same (below_drewN (Below.refl _ _) m3))).mono ?_
        rintro e w4 ⟨rfl, b4⟩
        have c4 := below_next (below_drewN c2 m3) b4
        clear b4 c2 t2
        go_wp2_with fail
        refine (RI.out _).mono ?_
        rintro e w5 ⟨rfl, m5, rfl⟩
        have c5 := below_drewN c4 m5
        clear c4
        go_wp2_with fail
        refine (R2.out _).mono ?_
        rintro e w6 ⟨rfl, rfl⟩
        go_wp2
        go_ret
        exact ⟨rfl, c5⟩
    · have H2 := Lib.hid (Fold_bad n a d w2 (fun h => h2 h.2.1))
      clear ha ha1
      go_enter Tryd.func5, Tryd.ntmps5
      go_wp2_with fail
      refine (H1.out _).mono ?_
      rintro e w1 ⟨rfl, b1⟩
      have t1 := hT.same b1
      go_wp2_with fail
      refine (H2.out _).mono ?_
      rintro e w2 ⟨rfl, b2⟩
      have t2 := t1.same b2
      have c2 := below_next b1 b2
      clear b1 b2 t1 hT
      go_wp2_with fail
      refine (HVa.out _).mono ?_
      rintro e w3 ⟨rfl, rfl⟩
      go_wp2_with fail
      refine (R1.out _).mono ?_
      rintro e w3 ⟨rfl, m3, rfl⟩
      go_wp2_with fail
      refine (awake2_any _ (t2.same (below_drewN (Below.refl _ _) m3))).mono ?_
      rintro e w4 ⟨rfl, b4⟩
      have c4 := below_next (below_drewN c2 m3) b4
      clear b4 c2 t2
      go_wp2
      go_ret
      exact ⟨rfl, c4⟩

end Go.Proofs.YtehjdhegnpmfaabDoor
