/-
  The statement on costs as a metric.
-/
import Derived.Test.YtkpiakoijkflmaaVoCostsLaw
namespace Go.Proofs.Ytkpiakoijkflmaa
open Go.ChangeShapes Go.WideShapes Go.ChangeAt Go.RowKit
set_option maxRecDepth 100000

theorem two_comm (n : Int) (xs zs : List Int) : twoB n zs xs = twoB n xs zs := by
  unfold twoB
  cases circB n <;> cases voicB n xs <;> cases voicB n zs <;> simp [eq_comm]
theorem two_third {n : Int} {xs zs ys : List Int} (h : twoB n xs zs = true) : twoB n ys zs = twoB n xs ys := by
  unfold twoB at *
  cases h1 : circB n <;> rw [h1] at h
  · simp at h
  · cases h2 : voicB n xs <;> rw [h2] at h
    · simp at h
    · cases h3 : voicB n zs <;> rw [h3] at h
      · simp at h
      · have hl : xs.length = zs.length := by simpa using h
        cases h4 : voicB n ys <;> simp [hl, eq_comm]
theorem cost_96 {n : Nat} {us bs : List Nat} (hv : Vc n us bs) : costN n us bs ≤ 96 := by
  obtain ⟨l, _, _, _, h⟩ := lead_best hv
  have := prT_100 hv us.length l
  rw [List.take_length] at this
  omega

set_option maxHeartbeats 4000000 in
theorem VoicesMetric_walk (n : Int) (xs zs ys : List Int) (v u t : Value) (w : World) (_wf : (Lit.int .i64 n).wf = true) (hl : xs.length ≤ maxLen) (h : IntsV w v xs) (hm : zs.length ≤ maxLen) (k : IntsV w u zs) (hq : ys.length ≤ maxLen) (q : IntsV w t ys) :
    Calls Try.prog 9 #[.int .i64 n, v, u, t] w fun e w' => e = .returned (.bool true) ∧ Below w.heap.size w w' := by
  have HAw := Lib.hid (fun W => vawake_any W)
  have HLx := Lib.hid (fun W hW => vlist_any xs v W hl hW)
  have HLz := Lib.hid (fun W hW => vlist_any zs u W hm hW)
  have HLy := Lib.hid (fun W hW => vlist_any ys t W hq hW)
  have HTw := Lib.hid (fun W a b => RTwo_any n xs zs v u W hl hm a b)
  have H := Lib.hid h
  have K := Lib.hid k
  have Q := Lib.hid q
  obtain ⟨ao, cap, hv, _⟩ := h
  obtain ⟨bo, cap', hu, _⟩ := k
  obtain ⟨co, cap'', ht, _⟩ := q
  by_cases h2 : twoB n xs zs = true
  · rw [h2] at HTw
    have h3 := two_third (ys := ys) h2
    obtain ⟨m, us, bs, rfl, rfl, rfl, hvc⟩ := two_nat h2
    rw [(hvc.take).1] at HLx
    rw [(hvc.take).2] at HLz
    have hsym := costN_sym m hvc.len
    have HC := Lib.hid (fun a b W ha hb => Cost_ok m us bs hvc a b W ha hb)
    have HC2 := Lib.hid (fun a b W ha hb => Cost_ok m bs us hvc.symm a b W ha hb)
    rw [← hsym] at HC2
    have HL := Lib.hid (fun a b W ha hb => Lead_ok m us bs hvc a b W ha hb)
    have HP := Lib.hid (fun l (hl : bestL (prT m bs us) (leadL us.length us.length []) = some l) a b d W ha hb hd => Price_ok m us bs l hvc (lead_len hvc hl).1 (lead_len hvc hl).2.1 a b d W ha hb hd)
    have HPe := Lib.hid (fun l (hl : bestL (prT m bs us) (leadL us.length us.length []) = some l) => (lead_len hvc hl).2.2)
    have HRx := Lib.hid (fun W a => RRising_any us (by have := hvc.l6; omega) (fun y hy => by have := hvc.la y hy; have := hvc.hi; omega) v W a)
    have HRz := Lib.hid (fun W a => RRising_any bs (by have := hvc.symm.l6; omega) (fun y hy => by have := hvc.lb y hy; have := hvc.hi; omega) u W a)
    have hzero : (natI (riseT us) == natI (riseT bs)) = ((costN m us bs : Int) == 0) := by
      rw [Bool.eq_iff_iff, beq_iff_eq, beq_iff_eq]
      have h5 := costN_zero hvc.len hvc.la hvc.lb
      constructor
      · intro e
        have := h5.2 (rise_eq.1 (natI_inj e))
        omega
      · intro e
        rw [rise_eq.2 (h5.1 (by omega))]
    have HEq := Lib.hid (fun a b W ha hb => Equal_any (natI (riseT us)) (natI (riseT bs)) a b W (leaf6 (by rw [(riseT_perm us).length_eq]; exact hvc.l6)) (leaf6 (by rw [(riseT_perm bs).length_eq]; exact hvc.symm.l6)) ha hb)
    rw [hzero] at HEq
    have h96 := cost_96 hvc
    obtain ⟨R, hR⟩ : ∃ R : Int × Int × Bool, R.2.2 = twoB (m : Int) (natI us) ys := ⟨(0, 0, _), rfl⟩
    -- the third one
    have HT : (∃ p q : Nat, costN m us bs ≤ p + q ∧ p ≤ 96 ∧ q ≤ 96 ∧ (∀ a b W, IntsV W a (natI us) → IntsV W b (ys.take 9) → Calls Try.prog 16 #[.int .i64 m, a, b] W fun e w' => e = .returned (.tuple #[.int .i64 p, .int .i64 0]) ∧ Below W.heap.size W w') ∧
          (∀ a b W, IntsV W a (ys.take 9) → IntsV W b (natI bs) → Calls Try.prog 16 #[.int .i64 m, a, b] W fun e w' => e = .returned (.tuple #[.int .i64 q, .int .i64 0]) ∧ Below W.heap.size W w')) ∨
        ((∀ a b W, IntsV W a (natI us) → IntsV W b (ys.take 9) → Calls Try.prog 16 #[.int .i64 m, a, b] W fun e w' => e = .returned (.tuple #[.int .i64 0, .int .i64 2]) ∧ Below W.heap.size W w') ∧
          (∀ a b W, IntsV W a (ys.take 9) → IntsV W b (natI bs) → Calls Try.prog 16 #[.int .i64 m, a, b] W fun e w' => e = .returned (.tuple #[.int .i64 0, .int .i64 2]) ∧ Below W.heap.size W w')) := by
      cases h4 : twoB (m : Int) (natI us) ys
      · right
        have e1 : twoB (m : Int) (natI us) (ys.take 9) = false := by rw [← (hvc.take).1, two_take]; exact h4
        have e2 : twoB (m : Int) (ys.take 9) (natI bs) = false := by rw [← (hvc.take).2, two_take, h3]; exact h4
        exact ⟨fun a b W ha hb => Cost_bad m _ _ (leaf6 hvc.l6) take9 e1 a b W ha hb, fun a b W ha hb => Cost_bad m _ _ take9 (leaf6 hvc.symm.l6) e2 a b W ha hb⟩
      · left
        rw [h4] at h3
        obtain ⟨m1, us1, cs, e1, e2, e3, hv1⟩ := two_nat h4
        obtain rfl : m = m1 := by omega
        obtain rfl := natI_inj e2
        subst e3
        obtain ⟨m2, cs2, bs2, f1, f2, f3, hv2⟩ := two_nat h3
        obtain rfl : m = m2 := by omega
        obtain rfl := natI_inj f2
        obtain rfl := natI_inj f3
        rw [(hv1.take).2]
        exact ⟨_, _, costN_tri hv1.len hv2.len hvc.la hvc.lb hv1.lb, cost_96 hv1, cost_96 hv2, fun a b W ha hb => Cost_ok m us cs hv1 a b W ha hb, fun a b W ha hb => Cost_ok m cs bs hv2 a b W ha hb⟩
    clear h2 h3 hvc hl hm hq hsym hzero hR
    clear R
    generalize bestL (prT m bs us) (leadL us.length us.length []) = best at *
    generalize hcc : costN m us bs = c at *
    generalize natI (riseT us) = rx at *
    generalize natI (riseT bs) = rz at *
    generalize prT m bs us = pr at *
    generalize natI us = xs at *
    generalize natI bs = zs at *
    clear hcc
    subst hv hu ht
    go_enter Try.func9, Try.ntmps9
    go_wp2_with fail
    refine (HLx.out _ H.out).mono ?_
    rintro e w1 ⟨v1, rfl, i1, b1⟩
    have B1 := Lib.hid b1
    have I1 := Lib.hid i1
    clear i1 b1
    go_wp2_with fail
    refine (HLz.out _ (K.out.later B1.out)).mono ?_
    rintro e w2 ⟨v2, rfl, i2, b2⟩
    have B2 := Lib.hid (below_nx B1.out b2)
    have C2 := Lib.hid (HC.out v1 v2 w2 (I1.out.later b2) i2)
    clear i2 b2
    go_wp2_with fail
    refine C2.out.mono ?_
    rintro e w3 ⟨rfl, b3⟩
    have B3 := Lib.hid (below_nx B2.out b3)
    clear b3
    go_wp2_with fail
    refine (HLz.out _ (K.out.later B3.out)).mono ?_
    rintro e w4 ⟨v4, rfl, i4, b4⟩
    have B4 := Lib.hid (below_nx B3.out b4)
    have I4 := Lib.hid i4
    clear i4 b4
    go_wp2_with fail
    refine (HLx.out _ (H.out.later B4.out)).mono ?_
    rintro e w5 ⟨v5, rfl, i5, b5⟩
    have B5 := Lib.hid (below_nx B4.out b5)
    have C5 := Lib.hid (HC2.out v4 v5 w5 (I4.out.later b5) i5)
    clear i5 b5
    go_wp2_with fail
    refine C5.out.mono ?_
    rintro e w6 ⟨rfl, b6⟩
    have B6 := Lib.hid (below_nx B5.out b6)
    clear b6
    go_wp2_with fail
    refine (HTw.out _ (H.out.later B6.out) (K.out.later B6.out)).mono ?_
    rintro e w7 ⟨rfl, rfl⟩
    go_wp2_with fail
    refine (HLx.out _ (H.out.later B6.out)).mono ?_
    rintro e w8 ⟨v8, rfl, i8, b8⟩
    have B8 := Lib.hid (below_nx B6.out b8)
    have I8 := Lib.hid i8
    clear i8 b8
    go_wp2_with fail
    refine (HLz.out _ (K.out.later B8.out)).mono ?_
    rintro e w9 ⟨v9, rfl, i9, b9⟩
    have B9 := Lib.hid (below_nx B8.out b9)
    have L9 := Lib.hid (HL.out v8 v9 w9 (I8.out.later b9) i9)
    clear i9 b9
    go_wp2_with fail
    refine L9.out.mono ?_
    rintro e w10 ⟨v10, l10, rfl, hl10, i10, b10⟩
    have B10 := Lib.hid (below_nx B9.out b10)
    have I10 := Lib.hid i10
    have HP1 := Lib.hid (HP.out l10 hl10)
    rw [HPe.out l10 hl10] at HP1
    clear i10 b10 hl10
    go_wp2_with fail
    refine (HLx.out _ (H.out.later B10.out)).mono ?_
    rintro e w11 ⟨v11, rfl, i11, b11⟩
    have B11 := Lib.hid (below_nx B10.out b11)
    have I11 := Lib.hid i11
    have J11 := Lib.hid (I10.out.later b11)
    clear i11 b11
    go_wp2_with fail
    refine (HLz.out _ (K.out.later B11.out)).mono ?_
    rintro e w12 ⟨v12, rfl, i12, b12⟩
    have B12 := Lib.hid (below_nx B11.out b12)
    have P12 := Lib.hid (HP1.out v11 v12 v10 w12 (I11.out.later b12) i12 (J11.out.later b12))
    clear i12 b12
    go_wp2_with fail
    refine P12.out.mono ?_
    rintro e w13 ⟨rfl, b13⟩
    have B13 := Lib.hid (below_nx B12.out b13)
    clear b13
    have hc0 : ¬ ((c : Int) < 0) := by omega
    go_wp2_with fail
    refine (HRx.out _ (H.out.later B13.out)).mono ?_
    rintro e w14 ⟨v14, rfl, i14, b14⟩
    have B14 := Lib.hid (below_nx B13.out b14)
    have I14 := Lib.hid i14
    clear i14 b14
    go_wp2_with fail
    refine (HRz.out _ (K.out.later B14.out)).mono ?_
    rintro e w15 ⟨v15, rfl, i15, b15⟩
    have B15 := Lib.hid (below_nx B14.out b15)
    have E15 := Lib.hid (HEq.out v14 v15 w15 (I14.out.later b15) i15)
    clear i15 b15
    go_wp2_with fail
    refine E15.out.mono ?_
    rintro e w16 ⟨rfl, q, rfl⟩
    obtain ⟨w17, hw17⟩ : ∃ W, w15.drewN q = W := ⟨_, rfl⟩
    have B17 := Lib.hid (show Below w.heap.size w w17 by rw [← hw17]; exact below_drewN B15.out q)
    rw [hw17]
    clear hw17
    go_wp2_with fail
    refine (HLx.out _ (H.out.later B17.out)).mono ?_
    rintro e w18 ⟨v18, rfl, i18, b18⟩
    have B18 := Lib.hid (below_nx B17.out b18)
    have I18 := Lib.hid i18
    clear i18 b18
    go_wp2_with fail
    refine (HLy.out _ (Q.out.later B18.out)).mono ?_
    rintro e w19 ⟨v19, rfl, i19, b19⟩
    have B19 := Lib.hid (below_nx B18.out b19)
    have I19 := Lib.hid i19
    have J19 := Lib.hid (I18.out.later b19)
    clear i19 b19
    rcases HT with ⟨p, q, hpq, hp, hq, T1, T2⟩ | ⟨T1, T2⟩
    · have U1 := Lib.hid (T1 v18 v19 w19 J19.out I19.out)
      have U2 := Lib.hid T2
      clear T1 T2
      go_wp2_with fail
      refine U1.out.mono ?_
      rintro e w20 ⟨rfl, b20⟩
      have B20 := Lib.hid (below_nx B19.out b20)
      clear b20
      go_wp2_with fail
      refine (HLy.out _ (Q.out.later B20.out)).mono ?_
      rintro e w21 ⟨v21, rfl, i21, b21⟩
      have B21 := Lib.hid (below_nx B20.out b21)
      have I21 := Lib.hid i21
      clear i21 b21
      go_wp2_with fail
      refine (HLz.out _ (K.out.later B21.out)).mono ?_
      rintro e w22 ⟨v22, rfl, i22, b22⟩
      have B22 := Lib.hid (below_nx B21.out b22)
      have U3 := Lib.hid (U2.out v21 v22 w22 (I21.out.later b22) i22)
      clear i22 b22
      go_wp2_with fail
      refine U3.out.mono ?_
      rintro e w23 ⟨rfl, b23⟩
      have B23 := Lib.hid (below_nx B22.out b23)
      clear b23
      have hle : (c : Int) ≤ (p : Int) + (q : Int) := by omega
      go_wp2_with fail
      refine (HAw.out _).mono ?_
      rintro e w24 ⟨rfl, b24⟩
      go_wp2
      go_ret
      exact ⟨rfl, below_nx B23.out b24⟩
    · have U1 := Lib.hid (T1 v18 v19 w19 J19.out I19.out)
      have U2 := Lib.hid T2
      clear T1 T2
      go_wp2_with fail
      refine U1.out.mono ?_
      rintro e w20 ⟨rfl, b20⟩
      have B20 := Lib.hid (below_nx B19.out b20)
      clear b20
      go_wp2_with fail
      refine (HLy.out _ (Q.out.later B20.out)).mono ?_
      rintro e w21 ⟨v21, rfl, i21, b21⟩
      have B21 := Lib.hid (below_nx B20.out b21)
      have I21 := Lib.hid i21
      clear i21 b21
      go_wp2_with fail
      refine (HLz.out _ (K.out.later B21.out)).mono ?_
      rintro e w22 ⟨v22, rfl, i22, b22⟩
      have B22 := Lib.hid (below_nx B21.out b22)
      have U3 := Lib.hid (U2.out v21 v22 w22 (I21.out.later b22) i22)
      clear i22 b22
      go_wp2_with fail
      refine U3.out.mono ?_
      rintro e w23 ⟨rfl, b23⟩
      have B23 := Lib.hid (below_nx B22.out b23)
      clear b23
      go_wp2_with fail
      refine (HAw.out _).mono ?_
      rintro e w24 ⟨rfl, b24⟩
      go_wp2
      go_ret
      exact ⟨rfl, below_nx B23.out b24⟩
  · have hbad : twoB n (xs.take 9) (zs.take 9) = false := by rw [two_take]; simpa using h2
    have hbad2 : twoB n (zs.take 9) (xs.take 9) = false := by rw [two_comm]; exact hbad
    have HC := Lib.hid (fun a b W ha hb => Cost_bad n (xs.take 9) (zs.take 9) take9 take9 hbad a b W ha hb)
    have HC2 := Lib.hid (fun a b W ha hb => Cost_bad n (zs.take 9) (xs.take 9) take9 take9 hbad2 a b W ha hb)
    clear hbad hbad2 h2 hl hm hq
    subst hv hu ht
    go_enter Try.func9, Try.ntmps9
    go_wp2_with fail
    refine (HLx.out _ H.out).mono ?_
    rintro e w1 ⟨v1, rfl, i1, b1⟩
    have B1 := Lib.hid b1
    have I1 := Lib.hid i1
    clear i1 b1
    go_wp2_with fail
    refine (HLz.out _ (K.out.later B1.out)).mono ?_
    rintro e w2 ⟨v2, rfl, i2, b2⟩
    have B2 := Lib.hid (below_nx B1.out b2)
    have C2 := Lib.hid (HC.out v1 v2 w2 (I1.out.later b2) i2)
    clear i2 b2
    go_wp2_with fail
    refine C2.out.mono ?_
    rintro e w3 ⟨rfl, b3⟩
    have B3 := Lib.hid (below_nx B2.out b3)
    clear b3
    go_wp2_with fail
    refine (HLz.out _ (K.out.later B3.out)).mono ?_
    rintro e w4 ⟨v4, rfl, i4, b4⟩
    have B4 := Lib.hid (below_nx B3.out b4)
    have I4 := Lib.hid i4
    clear i4 b4
    go_wp2_with fail
    refine (HLx.out _ (H.out.later B4.out)).mono ?_
    rintro e w5 ⟨v5, rfl, i5, b5⟩
    have B5 := Lib.hid (below_nx B4.out b5)
    have C5 := Lib.hid (HC2.out v4 v5 w5 (I4.out.later b5) i5)
    clear i5 b5
    go_wp2_with fail
    refine C5.out.mono ?_
    rintro e w6 ⟨rfl, b6⟩
    have B6 := Lib.hid (below_nx B5.out b6)
    clear b6
    go_wp2_with fail
    refine (HAw.out _).mono ?_
    rintro e w24 ⟨rfl, b24⟩
    go_wp2
    go_ret
    exact ⟨rfl, below_nx B6.out b24⟩
end Go.Proofs.Ytkpiakoijkflmaa
