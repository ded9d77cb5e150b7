/-
  The statement on Cost and Lead.
-/
import Derived.Test.YtkpiakoijkflmaaVoLeadF
import Derived.Test.YtkpiakoijkflmaaVoRotLaw
namespace Go.Proofs.Ytkpiakoijkflmaa
open Go.ChangeShapes Go.WideShapes Go.ChangeAt Go.RowKit
set_option maxRecDepth 100000

theorem lead_len {n : Nat} {us bs l : List Nat} (hv : Vc n us bs) (h : bestL (prT n bs us) (leadL us.length us.length []) = some l) : l.length = us.length ∧ Fits us.length 0 l ∧ prT n bs us l = costN n us bs := by
  obtain ⟨m, h1, h2, h3, h4⟩ := lead_best hv
  rw [h1] at h
  cases h
  exact ⟨h2, h3, h4⟩
theorem leaf6 {l : List Nat} (h : l.length ≤ 6) : (natI l).length ≤ maxLen := by rw [natI_length]; unfold maxLen; omega

set_option maxHeartbeats 2000000 in
theorem VoicesCosts_walk (n : Int) (xs zs : List Int) (v u : Value) (w : World) (_wf : (Lit.int .i64 n).wf = true) (hl : xs.length ≤ maxLen) (h : IntsV w v xs) (hm : zs.length ≤ maxLen) (k : IntsV w u zs) :
    Calls Try.prog 3 #[.int .i64 n, v, u] w fun e w' => e = .returned (.bool true) ∧ Below w.heap.size w w' := by
  have HAw := Lib.hid (fun W => vawake_any W)
  have HLx := Lib.hid (fun W hW => vlist_any xs v W hl hW)
  have HLz := Lib.hid (fun W hW => vlist_any zs u W hm hW)
  have HTw := Lib.hid (fun W a b => RTwo_any n xs zs v u W hl hm a b)
  have H := Lib.hid h
  have K := Lib.hid k
  obtain ⟨ao, cap, hv, _⟩ := h
  obtain ⟨bo, cap', hu, _⟩ := k
  by_cases h2 : twoB n xs zs = true
  · rw [h2] at HTw
    obtain ⟨m, us, bs, rfl, rfl, rfl, hvc⟩ := two_nat h2
    rw [(hvc.take).1] at HLx
    rw [(hvc.take).2] at HLz
    have HC := Lib.hid (fun a b W ha hb => Cost_ok m us bs hvc a b W ha hb)
    have HL := Lib.hid (fun a b W ha hb => Lead_ok m us bs hvc a b W ha hb)
    have HRC := Lib.hid (fun a b W ha hb => RCost_any m us bs hvc a b W ha hb)
    have HRL := Lib.hid (fun a b W ha hb => RLead_any m us bs hvc a b W ha hb)
    have HLl := Lib.hid (fun l (hl : bestL (prT m bs us) (leadL us.length us.length []) = some l) => leaf6 (l := l) (by have := lead_len hvc hl; have := hvc.l6; omega))
    clear h2 hvc hl hm
    generalize bestL (prT m bs us) (leadL us.length us.length []) = best at *
    generalize costN m us bs = c at *
    generalize natI us = xs at *
    generalize natI bs = zs at *
    subst hv hu
    go_enter Try.func3, Try.ntmps3
    go_wp2_with fail
    refine (HLx.out _ H.out).mono ?_
    rintro e w1 ⟨v1, rfl, i1, b1⟩
    have B1 := Lib.hid b1
    have I1 := Lib.hid i1
    clear i1 b1
    go_wp2_with fail
    refine (HLz.out _ (K.out.later B1.out)).mono ?_
    rintro e w2 ⟨v2, rfl, i2, b2⟩
    have B2 := Lib.hid (below_nx B1.out b2)
    have C2 := Lib.hid (HC.out v1 v2 w2 (I1.out.later b2) i2)
    clear i2 b2
    go_wp2_with fail
    refine C2.out.mono ?_
    rintro e w3 ⟨rfl, b3⟩
    have B3 := Lib.hid (below_nx B2.out b3)
    clear b3
    go_wp2_with fail
    refine (HLx.out _ (H.out.later B3.out)).mono ?_
    rintro e w4 ⟨v4, rfl, i4, b4⟩
    have B4 := Lib.hid (below_nx B3.out b4)
    have I4 := Lib.hid i4
    clear i4 b4
    go_wp2_with fail
    refine (HLz.out _ (K.out.later B4.out)).mono ?_
    rintro e w5 ⟨v5, rfl, i5, b5⟩
    have B5 := Lib.hid (below_nx B4.out b5)
    have L5 := Lib.hid (HL.out v4 v5 w5 (I4.out.later b5) i5)
    clear i5 b5
    go_wp2_with fail
    refine L5.out.mono ?_
    rintro e w6 ⟨v6, l6, rfl, hl6, i6, b6⟩
    have B6 := Lib.hid (below_nx B5.out b6)
    have I6 := Lib.hid i6
    have HL6 := Lib.hid hl6
    clear i6 b6 hl6
    go_wp2_with fail
    refine (HTw.out _ (H.out.later B6.out) (K.out.later B6.out)).mono ?_
    rintro e w7 ⟨rfl, rfl⟩
    go_wp2_with fail
    refine (HRC.out _ _ _ (H.out.later B6.out) (K.out.later B6.out)).mono ?_
    rintro e w8 ⟨rfl, b8⟩
    have B8 := Lib.hid (below_nx B6.out b8)
    have I8 := Lib.hid (I6.out.later b8)
    clear b8
    go_wp2_with fail
    refine (HRL.out _ _ _ (H.out.later B8.out) (K.out.later B8.out)).mono ?_
    rintro e w9 ⟨v9, l9, rfl, hl9, i9, b9⟩
    obtain rfl : l9 = l6 := by have := HL6.out; rw [hl9] at this; exact Option.some.inj this
    have B9 := Lib.hid (below_nx B8.out b9)
    have hll := HLl.out l9 hl9
    have HQ := Lib.hid (Equal_any (natI l9) (natI l9) v6 v9 w9 hll hll (I8.out.later b9) i9)
    rw [show (natI l9 == natI l9) = true from beq_self_eq_true _] at HQ
    clear i9 b9 hl9 hll
    go_wp2_with fail
    refine HQ.out.mono ?_
    rintro e w10 ⟨rfl, q, rfl⟩
    obtain ⟨w11, hw11⟩ : ∃ W, w9.drewN q = W := ⟨_, rfl⟩
    have B11 := Lib.hid (show Below w.heap.size w w11 by rw [← hw11]; exact below_drewN B9.out q)
    rw [hw11]
    clear hw11
    go_wp2_with fail
    refine (HAw.out _).mono ?_
    rintro e w12 ⟨rfl, b12⟩
    go_wp2
    go_ret
    exact ⟨rfl, below_nx B11.out b12⟩
  · have hbad : twoB n (xs.take 9) (zs.take 9) = false := by rw [two_take]; simpa using h2
    have hb2 : twoB n xs zs = false := by simpa using h2
    rw [hb2] at HTw
    have HC := Lib.hid (fun a b W ha hb => Cost_bad n (xs.take 9) (zs.take 9) take9 take9 hbad a b W ha hb)
    have HL := Lib.hid (fun a b W ha hb => Lead_bad n (xs.take 9) (zs.take 9) take9 take9 hbad a b W ha hb)
    clear hbad h2 hb2 hl hm
    subst hv hu
    go_enter Try.func3, Try.ntmps3
    go_wp2_with fail
    refine (HLx.out _ H.out).mono ?_
    rintro e w1 ⟨v1, rfl, i1, b1⟩
    have B1 := Lib.hid b1
    have I1 := Lib.hid i1
    clear i1 b1
    go_wp2_with fail
    refine (HLz.out _ (K.out.later B1.out)).mono ?_
    rintro e w2 ⟨v2, rfl, i2, b2⟩
    have B2 := Lib.hid (below_nx B1.out b2)
    have C2 := Lib.hid (HC.out v1 v2 w2 (I1.out.later b2) i2)
    clear i2 b2
    go_wp2_with fail
    refine C2.out.mono ?_
    rintro e w3 ⟨rfl, b3⟩
    have B3 := Lib.hid (below_nx B2.out b3)
    clear b3
    go_wp2_with fail
    refine (HLx.out _ (H.out.later B3.out)).mono ?_
    rintro e w4 ⟨v4, rfl, i4, b4⟩
    have B4 := Lib.hid (below_nx B3.out b4)
    have I4 := Lib.hid i4
    clear i4 b4
    go_wp2_with fail
    refine (HLz.out _ (K.out.later B4.out)).mono ?_
    rintro e w5 ⟨v5, rfl, i5, b5⟩
    have B5 := Lib.hid (below_nx B4.out b5)
    have L5 := Lib.hid (HL.out v4 v5 w5 (I4.out.later b5) i5)
    clear i5 b5
    go_wp2_with fail
    refine L5.out.mono ?_
    rintro e w6 ⟨rfl, b6⟩
    have B6 := Lib.hid (below_nx B5.out b6)
    clear b6
    go_wp2_with fail
    refine (HTw.out _ (H.out.later B6.out) (K.out.later B6.out)).mono ?_
    rintro e w7 ⟨rfl, rfl⟩
    go_wp2_with fail
    refine (HAw.out _).mono ?_
    rintro e w12 ⟨rfl, b12⟩
    go_wp2
    go_ret
    exact ⟨rfl, below_nx B6.out b12⟩
end Go.Proofs.Ytkpiakoijkflmaa
