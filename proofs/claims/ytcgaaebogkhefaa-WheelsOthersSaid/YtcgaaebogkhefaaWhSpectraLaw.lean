/-
  The statement on spectra, their undoing and powers.
-/
import Derived.Test.YtcgaaebogkhefaaWhRef3
namespace Go.Proofs.Ytcgaaebogkhefaa
open Go.ChangeShapes Go.WideShapes Go.ChangeAt Go.RowKit
set_option maxRecDepth 100000

theorem WhL.taf {n : Nat} {l : List Nat} (h : WhL n l) : natI (tabN n (ofL l)) = natI l := by rw [tab_ofL h.len]
theorem tab_max {n : Nat} (h : Circ n) (f : Nat → Nat) : (natI (tabN n f)).length ≤ maxLen := by rw [natI_len, tabN_length]; have := h.2; unfold maxLen; omega

set_option maxHeartbeats 2000000 in
theorem WheelsSpectra_walk (n : Int) (xs : List Int) (v : Value) (w : World) (_wf : (Lit.int .i64 n).wf = true) (hl : xs.length ≤ maxLen) (h : IntsV w v xs) :
    Calls Try.prog 4 #[.int .i64 n, v] w fun e w' => e = .returned (.bool true) ∧ Below w.heap.size w w' := by
  have HAw := Lib.hid (fun W => wawake_any W)
  have HLi := Lib.hid (fun W (h : IntsV W v xs) => wlist_any xs v W hl h)
  have HRW := Lib.hid (fun W (h : IntsV W v xs) => RWheel_any n xs v W hl h)
  have HV := Lib.hid h
  cases hb : (circB n && wheelB n.toNat xs)
  · rw [hb] at HRW
    have HS := Lib.hid (fun u W (h : IntsV W u (xs.take 19)) => Spectrum_bad n (xs.take 19) u W take19 h (bad1 hb))
    have HB := Lib.hid (fun u W (h : IntsV W u (xs.take 19)) => Back_bad n (xs.take 19) u W take19 h (bad1 hb))
    have HP := Lib.hid (fun u W (h : IntsV W u (xs.take 19)) => Power_bad n (xs.take 19) u W take19 h (bad1 hb))
    obtain ⟨ao, cap, rfl, _, _⟩ := h
    clear hb hl
    go_enter Try.func4, Try.ntmps4
    go_wp2_with fail
    refine (HLi.out _ HV.out).mono ?_
    rintro e w1 ⟨v1, rfl, i1, b1⟩
    have I1 := Lib.hid i1
    have B1 := Lib.hid b1
    clear i1 b1
    go_wp2_with fail
    refine (HS.out _ _ I1.out).mono ?_
    rintro e w2 ⟨rfl, b2⟩
    have B2 := Lib.hid (below_nx B1.out b2)
    clear b2
    go_wp2_with fail
    refine (HLi.out _ (HV.out.later B2.out)).mono ?_
    rintro e w3 ⟨v3, rfl, i3, b3⟩
    have I3 := Lib.hid i3
    have B3 := Lib.hid (below_nx B2.out b3)
    clear i3 b3
    go_wp2_with fail
    refine (HB.out _ _ I3.out).mono ?_
    rintro e w4 ⟨rfl, b4⟩
    have B4 := Lib.hid (below_nx B3.out b4)
    clear b4
    go_wp2_with fail
    refine (HLi.out _ (HV.out.later B4.out)).mono ?_
    rintro e w5 ⟨v5, rfl, i5, b5⟩
    have I5 := Lib.hid i5
    have B5 := Lib.hid (below_nx B4.out b5)
    clear i5 b5
    go_wp2_with fail
    refine (HP.out _ _ I5.out).mono ?_
    rintro e w6 ⟨rfl, b6⟩
    have B6 := Lib.hid (below_nx B5.out b6)
    clear b6
    go_wp2_with fail
    refine (HRW.out _ (HV.out.later B6.out)).mono ?_
    rintro e w7 ⟨rfl, rfl⟩
    go_wp2_with fail
    refine (HAw.out _).mono ?_
    rintro e w8 ⟨rfl, b8⟩
    go_wp2
    go_ret
    exact ⟨rfl, below_nx B6.out b8⟩
  · rw [hb] at HRW
    obtain ⟨m, l, rfl, rfl, hm, hw⟩ := good1 hb
    rw [hw.take hm] at HLi
    have hlt := (hw.wh hm).lt
    have HS := Lib.hid (fun u W (h : IntsV W u (natI l)) => Spectrum_ok m hm l hw u W h)
    have HB := Lib.hid (fun u W (h : IntsV W u (natI l)) => Back_ok m hm l hw u W h)
    have HP := Lib.hid (fun u W (h : IntsV W u (natI l)) => Power_ok m hm l hw u W h)
    have HRS := Lib.hid (fun W (h : IntsV W v (natI l)) => RSpectrum_any m hm (ofL l) hlt v W (by rw [hw.taf]; exact h))
    have HRB := Lib.hid (fun W (h : IntsV W v (natI l)) => RBack_any m hm (ofL l) hlt v W (by rw [hw.taf]; exact h))
    have HRP := Lib.hid (fun W (h : IntsV W v (natI l)) => RPower_any m hm (ofL l) hlt v W (by rw [hw.taf]; exact h))
    have HE := Lib.hid (fun f a b W ha hb => by have := Equal_any (natI (tabN m f)) (natI (tabN m f)) a b W (tab_max hm f) (tab_max hm f) ha hb; rwa [show (natI (tabN m f) == natI (tabN m f)) = true from beq_self_eq_true _] at this)
    obtain ⟨ao, cap, rfl, _, _⟩ := h
    clear hb hl hm hw hlt
    generalize spF m (ofL l) = sf at *
    generalize baF m (ofL l) = bf at *
    generalize poF m (ofL l) = pf at *
    generalize natI l = xs at *
    go_enter Try.func4, Try.ntmps4
    go_wp2_with fail
    refine (HLi.out _ HV.out).mono ?_
    rintro e w1 ⟨v1, rfl, i1, b1⟩
    have I1 := Lib.hid i1
    have B1 := Lib.hid b1
    clear i1 b1
    go_wp2_with fail
    refine (HS.out _ _ I1.out).mono ?_
    rintro e w2 ⟨va, rfl, ia, b2⟩
    have B2 := Lib.hid (below_nx B1.out b2)
    have IA2 := Lib.hid ia
    clear b2 ia
    go_wp2_with fail
    refine (HLi.out _ (HV.out.later B2.out)).mono ?_
    rintro e w3 ⟨v3, rfl, i3, b3⟩
    have I3 := Lib.hid i3
    have B3 := Lib.hid (below_nx B2.out b3)
    have IA3 := Lib.hid (IA2.out.later b3)
    clear i3 b3
    go_wp2_with fail
    refine (HB.out _ _ I3.out).mono ?_
    rintro e w4 ⟨vb, rfl, ib, b4⟩
    have B4 := Lib.hid (below_nx B3.out b4)
    have IA4 := Lib.hid (IA3.out.later b4)
    have IB4 := Lib.hid ib
    clear b4 ib
    go_wp2_with fail
    refine (HLi.out _ (HV.out.later B4.out)).mono ?_
    rintro e w5 ⟨v5, rfl, i5, b5⟩
    have I5 := Lib.hid i5
    have B5 := Lib.hid (below_nx B4.out b5)
    have IA5 := Lib.hid (IA4.out.later b5)
    have IB5 := Lib.hid (IB4.out.later b5)
    clear i5 b5
    go_wp2_with fail
    refine (HP.out _ _ I5.out).mono ?_
    rintro e w6 ⟨vc, rfl, ic, b6⟩
    have B6 := Lib.hid (below_nx B5.out b6)
    have IA6 := Lib.hid (IA5.out.later b6)
    have IB6 := Lib.hid (IB5.out.later b6)
    have IC6 := Lib.hid ic
    clear b6 ic
    go_wp2_with fail
    refine (HRW.out _ (HV.out.later B6.out)).mono ?_
    rintro e w7 ⟨rfl, rfl⟩
    go_wp2_with fail
    refine (HRS.out _ (HV.out.later B6.out)).mono ?_
    rintro e w7 ⟨g7, rfl, _, o7⟩
    have B7 := Lib.hid (B6.out.trans (o7.hb.mono B6.out.size))
    have IB7 := Lib.hid (IB6.out.later o7.hb)
    have IC7 := Lib.hid (IC6.out.later o7.hb)
    have E7 := Lib.hid (HE.out sf _ _ w7 (IA6.out.later o7.hb) o7.list)
    clear o7
    go_wp2_with fail
    refine E7.out.mono ?_
    rintro e w8 ⟨rfl, q8, rfl⟩
    have B8 := Lib.hid (bl_drewN B7.out q8)
    have IB8 := Lib.hid (IB7.out.later (below_drewN w7 q8))
    have IC8 := Lib.hid (IC7.out.later (below_drewN w7 q8))
    generalize w7.drewN q8 = w8 at *
    go_wp2_with fail
    refine (HRB.out _ (HV.out.later B8.out)).mono ?_
    rintro e w9 ⟨g9, rfl, _, o9⟩
    have B9 := Lib.hid (B8.out.trans (o9.hb.mono B8.out.size))
    have IC9 := Lib.hid (IC8.out.later o9.hb)
    have E9 := Lib.hid (HE.out bf _ _ w9 (IB8.out.later o9.hb) o9.list)
    clear o9
    go_wp2_with fail
    refine E9.out.mono ?_
    rintro e w10 ⟨rfl, q10, rfl⟩
    have B10 := Lib.hid (bl_drewN B9.out q10)
    have IC10 := Lib.hid (IC9.out.later (below_drewN w9 q10))
    generalize w9.drewN q10 = w10 at *
    go_wp2_with fail
    refine (HRP.out _ (HV.out.later B10.out)).mono ?_
    rintro e w11 ⟨g11, rfl, _, o11⟩
    have B11 := Lib.hid (B10.out.trans (o11.hb.mono B10.out.size))
    have E11 := Lib.hid (HE.out pf _ _ w11 (IC10.out.later o11.hb) o11.list)
    clear o11
    go_wp2_with fail
    refine E11.out.mono ?_
    rintro e w12 ⟨rfl, q12, rfl⟩
    have B12 := Lib.hid (bl_drewN B11.out q12)
    generalize w11.drewN q12 = w12 at *
    go_wp2_with fail
    refine (HAw.out _).mono ?_
    rintro e w13 ⟨rfl, b13⟩
    go_wp2
    go_ret
    exact ⟨rfl, below_nx B12.out b13⟩
end Go.Proofs.Ytcgaaebogkhefaa
