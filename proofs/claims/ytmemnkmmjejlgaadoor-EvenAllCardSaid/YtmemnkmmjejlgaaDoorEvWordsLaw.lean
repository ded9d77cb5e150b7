/-
  The walk of the statement on words.
-/
import Derived.Test.YtmemnkmmjejlgaaDoorEvWords2
namespace Go.Proofs.YtmemnkmmjejlgaaDoor
open Go.RowKit Go.Shelf
attribute [local go_sem] Oper.semAt_some
set_option maxRecDepth 100000

theorem EqList {W : World} {lo lo' : Nat} {v u : Value} {xs : List Nat} (hl : xs.length < 2 ^ 40) (h : ListAt W lo v xs) (k : ListAt W lo' u xs) :
    Calls Tryd.prog 21 #[v, u] W fun e w' => e = .returned (.bool true) ∧ ∃ m, w' = W.drewN m := by
  obtain ⟨g, cap, rfl, _, _, h4⟩ := h
  obtain ⟨g', cap', rfl, _, _, k4⟩ := k
  exact EqualInts_same xs g g' cap cap' W hl h4 k4

theorem ListAt.drewN {W : World} {lo : Nat} {v : Value} {xs : List Nat} (h : ListAt W lo v xs) (m : Nat) : ListAt (W.drewN m) lo v xs := h

theorem ListAt.slice {W : World} {lo : Nat} {v : Value} {xs : List Nat} (h : ListAt W lo v xs) : ∃ g cap, v = .slice (some ⟨g, 0, none⟩) xs.length cap := by
  obtain ⟨g, cap, h1, _⟩ := h
  exact ⟨g, cap, h1⟩

theorem spL_length_le {n : Nat} {ts : List Nat} {j : Nat} : (spL n ts j).length ≤ n := by
  unfold spL; exact Nat.le_trans (List.length_filter_le _ _) (by simp)

set_option maxHeartbeats 4000000 in
theorem EvenWords_walk (n s j : Int) (_w0 : (Lit.int .i64 n).wf = true) (_w1 : (Lit.int .i64 s).wf = true) (_w2 : (Lit.int .i64 j).wf = true) (w : World) (hT : Tab w) :
    Calls Tryd.prog 3 #[.int .i64 n, .int .i64 s, .int .i64 j] w fun e w' => e = .returned (.bool true) ∧ Below w.heap.size w w' := by
  have HV := Lib.hid (Scale_any n s)
  by_cases hv : vldB n s = true
  · rw [hv] at HV
    obtain ⟨n, s, rfl, rfl, h1, h2, h3, h4⟩ := vldB_nat hv
    have HE := Lib.hid (Even_ok n s h1 h2 h3 h4 w hT)
    have HW := Lib.hid (fun W hW => Word_ok n s h1 h2 h3 h4 W hW)
    have HRE := Lib.hid (fun W => refEven_any n s h1 h2 h3 h4 W)
    have HRW := Lib.hid (fun W => refWord_any n s h1 h2 h3 h4 W)
    have HRT := Lib.hid (fun W => refTones_any n s h2 h3 h4 W)
    have hle := tonesB_le n s
    have hwl : (spansL n (tonesB n s) 1).length < 2 ^ 40 := by rw [spansL_length]; omega
    have HEqW := Lib.hid (fun W lo lo' v u h k => EqList (W := W) (lo := lo) (lo' := lo') (v := v) (u := u) hwl h k)
    by_cases hj : 1 ≤ j ∧ j < ((tonesB n s).length : Nat)
    · obtain ⟨j, rfl⟩ := Int.eq_ofNat_of_zero_le (show 0 ≤ j by omega)
      have hj1 : 1 ≤ j := by omega
      have hj2 : j < (tonesB n s).length := by omega
      have HS := Lib.hid (fun W hW => Spans_ok n s j h1 h2 h3 h4 hj1 hj2 W hW)
      have HRS := Lib.hid (fun W => refSpans_any n s j h1 h2 h3 h4 hj1 hj2 W)
      have hsl : (spL n (tonesB n s) j).length < 2 ^ 40 := by have := spL_length_le (n := n) (ts := tonesB n s) (j := j); omega
      have HEqS := Lib.hid (fun W lo lo' v u h k => EqList (W := W) (lo := lo) (lo' := lo') (v := v) (u := u) hsl h k)
      generalize spL n (tonesB n s) j = ls at HS HRS HEqS
      generalize spansL n (tonesB n s) 1 = lw at HW HRW HEqW
      generalize evenB n s = bv at HE HRE
      unfold ListAt at HRT
      generalize tonesB n s = ts at *
      generalize ts.length = K at HRT hj2 hle hj
      clear hv h3 h4 hwl hsl
      go_enter Tryd.func3, Tryd.ntmps3
      go_wp2_with fail
      refine HE.out.mono ?_
      rintro e w1 ⟨rfl, b1⟩
      have t1 := hT.same b1
      go_wp2_with fail
      refine (HW.out _ t1).mono ?_
      rintro e w2 ⟨vw, rfl, lw2, b2⟩
      have t2 := t1.same b2
      have c2 := below_next b1 b2
      have LW2 := Lib.hid lw2
      clear b1 b2 t1 lw2
      go_wp2_with fail
      refine (HS.out _ t2).mono ?_
      rintro e w3 ⟨vl, rfl, ls3, b3⟩
      have c3 := below_next c2 b3
      have LW3 := Lib.hid (LW2.out.later b3)
      have LS3 := Lib.hid ls3
      clear c2 b3 t2 LW2 ls3
      go_wp2_with fail
      refine (HV.out _).mono ?_
      rintro e w4 ⟨rfl, rfl⟩
      go_wp2_with fail
      refine (HRE.out _).mono ?_
      rintro e w4 ⟨rfl, b4⟩
      have c4 := below_next c3 b4
      have LW4 := Lib.hid (LW3.out.later b4)
      have LS4 := Lib.hid (LS3.out.later b4)
      clear c3 b4 LW3 LS3
      cases bv
      all_goals
        go_wp2_with fail
        refine (HRW.out _).mono ?_
        rintro e w5 ⟨vr, rfl, lr5, b5⟩
        have c5 := below_next c4 b5
        have LW5 := Lib.hid (LW4.out.later b5)
        have LS5 := Lib.hid (LS4.out.later b5)
        have LR5 := Lib.hid lr5
        clear c4 b5 LW4 LS4 lr5
        go_wp2_with fail
        refine (HEqW.out _ _ _ _ _ LW5.out LR5.out).mono ?_
        rintro e w6 ⟨rfl, m6, rfl⟩
        have c6 := below_drewN c5 m6
        have LS6 := Lib.hid (LS5.out.drewN m6)
        clear c5 LS5 LW5 LR5
        go_wp2_with fail
        refine (awake_any _).mono ?_
        rintro e w7 ⟨rfl, b7⟩
        have c7 := below_next c6 b7
        have LS7 := Lib.hid (LS6.out.later b7)
        clear c6 b7 LS6
        go_wp2_with fail
        refine (HRT.out _).mono ?_
        rintro e w8 ⟨_, rfl, ⟨g8, cap8, rfl, _, _, _⟩, b8⟩
        have c8 := below_next c7 b8
        have LS8 := Lib.hid (LS7.out.later b8)
        clear c7 b8 LS7
        go_wp2_with fail
        refine (HRS.out _).mono ?_
        rintro e w9 ⟨vs, rfl, ls9, b9⟩
        have c9 := below_next c8 b9
        have LS9 := Lib.hid (LS8.out.later b9)
        have LQ9 := Lib.hid ls9
        clear c8 b9 LS8 ls9
        go_wp2_with fail
        refine (HEqS.out _ _ _ _ _ LS9.out LQ9.out).mono ?_
        rintro e w10 ⟨rfl, m10, rfl⟩
        have c10 := below_drewN c9 m10
        clear c9 LS9 LQ9
        go_wp2
        go_ret
        exact ⟨rfl, c10⟩
    · have HS := Lib.hid (fun W => Spans_none n s j h1 h2 h3 h4 hj W)
      generalize spansL n (tonesB n s) 1 = lw at HW HRW HEqW
      generalize evenB n s = bv at HE HRE
      unfold ListAt at HRT
      generalize tonesB n s = ts at *
      generalize ts.length = K at HRT hle hj
      clear hv h3 h4 hwl
      have hj' : j < 1 ∨ (1 ≤ j ∧ (K : Int) - 1 < j) := by omega
      clear hj
      rcases hj' with hj | ⟨hj, hjk⟩
      all_goals
        go_enter Tryd.func3, Tryd.ntmps3
        go_wp2_with fail
        refine HE.out.mono ?_
        rintro e w1 ⟨rfl, b1⟩
        have t1 := hT.same b1
        go_wp2_with fail
        refine (HW.out _ t1).mono ?_
        rintro e w2 ⟨vw, rfl, lw2, b2⟩
        have c2 := below_next b1 b2
        have LW2 := Lib.hid lw2
        clear b1 b2 t1 lw2
        go_wp2_with fail
        refine (HS.out _).mono ?_
        rintro e w3 ⟨rfl, b3⟩
        have c3 := below_next c2 b3
        have LW3 := Lib.hid (LW2.out.later b3)
        clear c2 b3 LW2
        go_wp2_with fail
        refine (HV.out _).mono ?_
        rintro e w4 ⟨rfl, rfl⟩
        go_wp2_with fail
        refine (HRE.out _).mono ?_
        rintro e w4 ⟨rfl, b4⟩
        have c4 := below_next c3 b4
        have LW4 := Lib.hid (LW3.out.later b4)
        clear c3 b4 LW3
        cases bv
        all_goals
          go_wp2_with fail
          refine (HRW.out _).mono ?_
          rintro e w5 ⟨vr, rfl, lr5, b5⟩
          have c5 := below_next c4 b5
          have LW5 := Lib.hid (LW4.out.later b5)
          have LR5 := Lib.hid lr5
          clear c4 b5 LW4 lr5
          go_wp2_with fail
          refine (HEqW.out _ _ _ _ _ LW5.out LR5.out).mono ?_
          rintro e w6 ⟨rfl, m6, rfl⟩
          have c6 := below_drewN c5 m6
          clear c5 LW5 LR5
          go_wp2_with fail
          refine (awake_any _).mono ?_
          rintro e w7 ⟨rfl, b7⟩
          have c7 := below_next c6 b7
          clear c6 b7
          go_wp2_with fail
          first
          | (go_ret; exact ⟨rfl, c7⟩)
          | (refine (HRT.out _).mono ?_
             rintro e w8 ⟨_, rfl, ⟨g8, cap8, rfl, _, _, _⟩, b8⟩
             have c8 := below_next c7 b8
             clear c7 b8
             go_wp2
             go_ret
             exact ⟨rfl, c8⟩)
  · have hv' : vldB n s = false := by simpa using hv
    rw [hv'] at HV
    have HE := Lib.hid (Even_bad n s hv')
    have HW := Lib.hid (Word_bad n s hv')
    have HS := Lib.hid (Spans_bad n s j hv')
    clear hv hv' hT
    go_enter Tryd.func3, Tryd.ntmps3
    go_wp2_with fail
    refine (HE.out _).mono ?_
    rintro e w1 ⟨rfl, b1⟩
    go_wp2_with fail
    refine (HW.out _).mono ?_
    rintro e w2 ⟨rfl, b2⟩
    have c2 := below_next b1 b2
    clear b1 b2
    go_wp2_with fail
    refine (HS.out _).mono ?_
    rintro e w3 ⟨rfl, b3⟩
    have c3 := below_next c2 b3
    clear c2 b3
    go_wp2_with fail
    refine (HV.out _).mono ?_
    rintro e w4 ⟨rfl, rfl⟩
    go_wp2_with fail
    refine (awake_any _).mono ?_
    rintro e w5 ⟨rfl, b5⟩
    have c5 := below_next c3 b5
    clear c3 b5
    go_wp2
    go_ret
    exact ⟨rfl, c5⟩

end Go.Proofs.YtmemnkmmjejlgaaDoor
