/-
  The statement on moved and turned voicings.
-/
import Derived.Test.YtfglmdlmjcfleaaVoImage
namespace Go.Proofs.Ytfglmdlmjcfleaa
open Go.ChangeShapes Go.WideShapes Go.ChangeAt Go.RowKit
set_option maxRecDepth 100000

theorem vc_image {n k : Nat} {t : Bool} {us bs : List Nat} (hv : Vc n us bs) : Vc n (riseT (us.map (imN n k t))) (riseT (bs.map (imN n k t))) := by
  have l1 : (riseT (us.map (imN n k t))).length = us.length := by rw [riseT_length, List.length_map]
  have l2 : (riseT (bs.map (imN n k t))).length = bs.length := by rw [riseT_length, List.length_map]
  exact ⟨hv.lo, hv.hi, by rw [l1, l2, hv.len], by rw [l1]; exact hv.l1, by rw [l1]; exact hv.l6, fun x hx => imL_lt hv.pos k t us x ((riseT_perm _).mem_iff.1 hx), fun x hx => imL_lt hv.pos k t bs x ((riseT_perm _).mem_iff.1 hx)⟩
theorem cost_image {n k : Nat} {t : Bool} {us bs : List Nat} (hv : Vc n us bs) : costN n (riseT (us.map (imN n k t))) (riseT (bs.map (imN n k t))) = costN n us bs := by
  have h := vc_image (k := k) (t := t) hv
  rw [costN_perm n h.len (riseT_perm _) (riseT_perm _)]
  exact costN_map (fun x y hx hy => ds_im t hx hy) hv.len hv.la hv.lb
theorem vc_rise {n : Nat} {us bs : List Nat} (hv : Vc n us bs) : Vc n (riseT us) bs :=
  ⟨hv.lo, hv.hi, by rw [riseT_length, hv.len], by rw [riseT_length]; exact hv.l1, by rw [riseT_length]; exact hv.l6, fun x hx => hv.la x ((riseT_perm _).mem_iff.1 hx), hv.lb⟩
theorem cost_rise {n : Nat} {us bs : List Nat} (hv : Vc n us bs) : costN n (riseT us) bs = costN n us bs := by
  rw [costN_perm_left n (vc_rise hv).len (riseT_perm us)]

theorem umod_ex (x : Int) {n : Nat} (h : 0 < n) : ∃ u : Nat, (IntKind.u64.wrap x).tmod (n : Int) = (u : Int) ∧ u < n := by
  obtain ⟨U, hU⟩ : ∃ U : Nat, IntKind.u64.wrap x = (U : Int) := Int.eq_ofNat_of_zero_le (wrap_u64_nonneg x)
  exact ⟨U % n, by rw [hU, Int.tmod_eq_emod_of_nonneg (by omega)]; simp, Nat.mod_lt _ h⟩

set_option maxHeartbeats 2000000 in
theorem VoicesMoved_walk (n : Int) (xs zs : List Int) (x : Int) (t : Bool) (v u : Value) (w : World) (_wf : (Lit.int .i64 n).wf = true) (hl : xs.length ≤ maxLen) (h : IntsV w v xs) (hm : zs.length ≤ maxLen) (k : IntsV w u zs) (_wx : (Lit.int .i64 x).wf = true) :
    Calls Try.prog 11 #[.int .i64 n, v, u, .int .i64 x, .bool t] w fun e w' => e = .returned (.bool true) ∧ Below w.heap.size w w' := by
  have HAw := Lib.hid (fun W => vawake_any W)
  have HLx := Lib.hid (fun W hW => vlist_any xs v W hl hW)
  have HLz := Lib.hid (fun W hW => vlist_any zs u W hm hW)
  have HTw := Lib.hid (fun W a b => RTwo_any n xs zs v u W hl hm a b)
  have H := Lib.hid h
  have K := Lib.hid k
  obtain ⟨ao, cap, hv, _⟩ := h
  obtain ⟨bo, cap', hu, _⟩ := k
  by_cases h2 : twoB n xs zs = true
  · rw [h2] at HTw
    obtain ⟨m, us, bs, rfl, rfl, rfl, hvc⟩ := two_nat h2
    rw [(hvc.take).1] at HLx
    rw [(hvc.take).2] at HLz
    obtain ⟨μ, hμ1, hμ2⟩ := umod_ex x hvc.pos
    have HC := Lib.hid (fun a b W ha hb => Cost_ok m us bs hvc a b W ha hb)
    have HC2 := Lib.hid (fun a b W ha hb => Cost_ok m _ _ (vc_image (k := μ) (t := t) hvc) a b W ha hb)
    have HC3 := Lib.hid (fun a b W ha hb => Cost_ok m _ _ (vc_rise hvc) a b W ha hb)
    rw [cost_image hvc] at HC2
    rw [cost_rise hvc] at HC3
    have h4 := hvc.lo
    have h5 := hvc.hi
    have HIx := Lib.hid (fun W a => RImage_any m μ t us (by omega) h5 hμ2 hvc.l6 hvc.la v W a)
    have HIz := Lib.hid (fun W a => RImage_any m μ t bs (by omega) h5 hμ2 hvc.symm.l6 hvc.lb u W a)
    have HRx := Lib.hid (fun W a => RRising_any us (by have := hvc.l6; omega) (fun y hy => by have := hvc.la y hy; omega) v W a)
    have hwn : IntKind.u64.wrap (m : Int) = m := wrap_natu m (by omega)
    clear h2 hvc hl hm
    generalize costN m us bs = c at *
    generalize natI (riseT (us.map (imN m μ t))) = ix at *
    generalize natI (riseT (bs.map (imN m μ t))) = iz at *
    generalize natI (riseT us) = rx at *
    generalize natI us = xs at *
    generalize natI bs = zs at *
    subst hv hu
    go_enter Try.func11, Try.ntmps11
    go_wp2_with fail
    refine (HLx.out _ H.out).mono ?_
    rintro e w1 ⟨v1, rfl, i1, b1⟩
    have B1 := Lib.hid b1
    have I1 := Lib.hid i1
    clear i1 b1
    go_wp2_with fail
    refine (HLz.out _ (K.out.later B1.out)).mono ?_
    rintro e w2 ⟨v2, rfl, i2, b2⟩
    have B2 := Lib.hid (below_nx B1.out b2)
    have C2 := Lib.hid (HC.out v1 v2 w2 (I1.out.later b2) i2)
    clear i2 b2
    go_wp2_with fail
    refine C2.out.mono ?_
    rintro e w3 ⟨rfl, b3⟩
    have B3 := Lib.hid (below_nx B2.out b3)
    clear b3
    go_wp2_with fail
    refine (HTw.out _ (H.out.later B3.out) (K.out.later B3.out)).mono ?_
    rintro e w4 ⟨rfl, rfl⟩
    go_wp2_with fail
    refine (HIx.out _ (H.out.later B3.out)).mono ?_
    rintro e w5 ⟨v5, rfl, i5, b5⟩
    have B5 := Lib.hid (below_nx B3.out b5)
    have I5 := Lib.hid i5
    clear i5 b5
    go_wp2_with fail
    refine (HIz.out _ (K.out.later B5.out)).mono ?_
    rintro e w6 ⟨v6, rfl, i6, b6⟩
    have B6 := Lib.hid (below_nx B5.out b6)
    have C6 := Lib.hid (HC2.out v5 v6 w6 (I5.out.later b6) i6)
    clear i6 b6
    go_wp2_with fail
    refine C6.out.mono ?_
    rintro e w7 ⟨rfl, b7⟩
    have B7 := Lib.hid (below_nx B6.out b7)
    clear b7
    go_wp2_with fail
    refine (HRx.out _ (H.out.later B7.out)).mono ?_
    rintro e w8 ⟨v8, rfl, i8, b8⟩
    have B8 := Lib.hid (below_nx B7.out b8)
    have I8 := Lib.hid i8
    clear i8 b8
    go_wp2_with fail
    refine (HLz.out _ (K.out.later B8.out)).mono ?_
    rintro e w9 ⟨v9, rfl, i9, b9⟩
    have B9 := Lib.hid (below_nx B8.out b9)
    have C9 := Lib.hid (HC3.out v8 v9 w9 (I8.out.later b9) i9)
    clear i9 b9
    go_wp2_with fail
    refine C9.out.mono ?_
    rintro e w10 ⟨rfl, b10⟩
    have B10 := Lib.hid (below_nx B9.out b10)
    clear b10
    go_wp2_with fail
    refine (HAw.out _).mono ?_
    rintro e w13 ⟨rfl, b13⟩
    go_wp2
    go_ret
    exact ⟨rfl, below_nx B10.out b13⟩
  · have h2' : twoB n xs zs = false := by simpa using h2
    have HC := Lib.hid (fun a b W ha hb => Cost_bad n (xs.take 9) (zs.take 9) take9 take9 (by rw [two_take]; exact h2') a b W ha hb)
    clear h2 h2' hl hm
    subst hv hu
    go_enter Try.func11, Try.ntmps11
    go_wp2_with fail
    refine (HLx.out _ H.out).mono ?_
    rintro e w1 ⟨v1, rfl, i1, b1⟩
    have B1 := Lib.hid b1
    have I1 := Lib.hid i1
    clear i1 b1
    go_wp2_with fail
    refine (HLz.out _ (K.out.later B1.out)).mono ?_
    rintro e w2 ⟨v2, rfl, i2, b2⟩
    have B2 := Lib.hid (below_nx B1.out b2)
    have C2 := Lib.hid (HC.out v1 v2 w2 (I1.out.later b2) i2)
    clear i2 b2
    go_wp2_with fail
    refine C2.out.mono ?_
    rintro e w3 ⟨rfl, b3⟩
    have B3 := Lib.hid (below_nx B2.out b3)
    clear b3
    go_wp2_with fail
    refine (HAw.out _).mono ?_
    rintro e w13 ⟨rfl, b13⟩
    go_wp2
    go_ret
    exact ⟨rfl, below_nx B3.out b13⟩
end Go.Proofs.Ytfglmdlmjcfleaa
