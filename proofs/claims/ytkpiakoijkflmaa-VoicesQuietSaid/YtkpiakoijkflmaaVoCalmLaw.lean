/-
  The statement on Calm.
-/
import Derived.Test.YtkpiakoijkflmaaVoCalmF
import Derived.Test.YtkpiakoijkflmaaVoCostsLaw
namespace Go.Proofs.Ytkpiakoijkflmaa
open Go.ChangeShapes Go.WideShapes Go.ChangeAt Go.RowKit
set_option maxRecDepth 100000

set_option maxHeartbeats 2000000 in
theorem VoicesCalm_walk (n : Int) (xs zs : List Int) (v u : Value) (w : World) (_wf : (Lit.int .i64 n).wf = true) (hl : xs.length ≤ maxLen) (h : IntsV w v xs) (hm : zs.length ≤ maxLen) (k : IntsV w u zs) :
    Calls Try.prog 4 #[.int .i64 n, v, u] w fun e w' => e = .returned (.bool true) ∧ Below w.heap.size w w' := by
  have HAw := Lib.hid (fun W => vawake_any W)
  have HLx := Lib.hid (fun W hW => vlist_any xs v W hl hW)
  have HLz := Lib.hid (fun W hW => vlist_any zs u W hm hW)
  have HTw := Lib.hid (fun W a b => RTwo_any n xs zs v u W hl hm a b)
  have H := Lib.hid h
  have K := Lib.hid k
  obtain ⟨ao, cap, hv, _⟩ := h
  obtain ⟨bo, cap', hu, _⟩ := k
  by_cases h2 : twoB n xs zs = true
  · rw [h2] at HTw
    obtain ⟨m, us, bs, rfl, rfl, rfl, hvc⟩ := two_nat h2
    rw [(hvc.take).1] at HLx
    rw [(hvc.take).2] at HLz
    have HL := Lib.hid (fun a b W ha hb => Calm_ok m us bs hvc a b W ha hb)
    have HRL := Lib.hid (fun a b W ha hb => RCalm_any m us bs hvc a b W ha hb)
    have HLl := Lib.hid (fun l (hl : calmL m us bs = some l) => leaf6 (l := l) (by obtain ⟨l', h1, h2, _⟩ := calm_some hvc; rw [h1] at hl; cases hl; have := hvc.l6; omega))
    clear h2 hvc hl hm
    generalize calmL m us bs = best at *
    generalize natI us = xs at *
    generalize natI bs = zs at *
    subst hv hu
    go_enter Try.func4, Try.ntmps4
    go_wp2_with fail
    refine (HLx.out _ H.out).mono ?_
    rintro e w4 ⟨v4, rfl, i4, b4⟩
    have B4 := Lib.hid b4
    have I4 := Lib.hid i4
    clear i4 b4
    go_wp2_with fail
    refine (HLz.out _ (K.out.later B4.out)).mono ?_
    rintro e w5 ⟨v5, rfl, i5, b5⟩
    have B5 := Lib.hid (below_nx B4.out b5)
    have L5 := Lib.hid (HL.out v4 v5 w5 (I4.out.later b5) i5)
    clear i5 b5
    go_wp2_with fail
    refine L5.out.mono ?_
    rintro e w6 ⟨v6, l6, rfl, hl6, i6, b6⟩
    have B6 := Lib.hid (below_nx B5.out b6)
    have I6 := Lib.hid i6
    have HL6 := Lib.hid hl6
    clear i6 b6 hl6
    go_wp2_with fail
    refine (HTw.out _ (H.out.later B6.out) (K.out.later B6.out)).mono ?_
    rintro e w7 ⟨rfl, rfl⟩
    go_wp2_with fail
    refine (HRL.out _ _ _ (H.out.later B6.out) (K.out.later B6.out)).mono ?_
    rintro e w9 ⟨v9, l9, rfl, hl9, i9, b9⟩
    obtain rfl : l9 = l6 := by have := HL6.out; rw [hl9] at this; exact Option.some.inj this
    have B9 := Lib.hid (below_nx B6.out b9)
    have hll := HLl.out l9 hl9
    have HQ := Lib.hid (Equal_any (natI l9) (natI l9) v6 v9 w9 hll hll (I6.out.later b9) i9)
    rw [show (natI l9 == natI l9) = true from beq_self_eq_true _] at HQ
    clear i9 b9 hl9 hll
    go_wp2_with fail
    refine HQ.out.mono ?_
    rintro e w10 ⟨rfl, q, rfl⟩
    obtain ⟨w11, hw11⟩ : ∃ W, w9.drewN q = W := ⟨_, rfl⟩
    have B11 := Lib.hid (show Below w.heap.size w w11 by rw [← hw11]; exact below_drewN B9.out q)
    rw [hw11]
    clear hw11
    go_wp2_with fail
    refine (HAw.out _).mono ?_
    rintro e w12 ⟨rfl, b12⟩
    go_wp2
    go_ret
    exact ⟨rfl, below_nx B11.out b12⟩
  · have hbad : twoB n (xs.take 9) (zs.take 9) = false := by rw [two_take]; simpa using h2
    have hb2 : twoB n xs zs = false := by simpa using h2
    rw [hb2] at HTw
    have HL := Lib.hid (fun a b W ha hb => Calm_bad n (xs.take 9) (zs.take 9) take9 take9 hbad a b W ha hb)
    clear hbad h2 hb2 hl hm
    subst hv hu
    go_enter Try.func4, Try.ntmps4
    go_wp2_with fail
    refine (HLx.out _ H.out).mono ?_
    rintro e w4 ⟨v4, rfl, i4, b4⟩
    have B4 := Lib.hid b4
    have I4 := Lib.hid i4
    clear i4 b4
    go_wp2_with fail
    refine (HLz.out _ (K.out.later B4.out)).mono ?_
    rintro e w5 ⟨v5, rfl, i5, b5⟩
    have B5 := Lib.hid (below_nx B4.out b5)
    have L5 := Lib.hid (HL.out v4 v5 w5 (I4.out.later b5) i5)
    clear i5 b5
    go_wp2_with fail
    refine L5.out.mono ?_
    rintro e w6 ⟨rfl, b6⟩
    have B6 := Lib.hid (below_nx B5.out b6)
    clear b6
    go_wp2_with fail
    refine (HTw.out _ (H.out.later B6.out) (K.out.later B6.out)).mono ?_
    rintro e w7 ⟨rfl, rfl⟩
    go_wp2_with fail
    refine (HAw.out _).mono ?_
    rintro e w12 ⟨rfl, b12⟩
    go_wp2
    go_ret
    exact ⟨rfl, below_nx B6.out b12⟩
end Go.Proofs.Ytkpiakoijkflmaa
