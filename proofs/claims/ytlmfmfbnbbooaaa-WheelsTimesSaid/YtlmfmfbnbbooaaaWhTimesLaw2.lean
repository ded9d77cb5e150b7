/-
  The statement on products and quotients.
-/
import Derived.Test.YtlmfmfbnbbooaaaWhDivide
import Derived.Test.YtlmfmfbnbbooaaaWhTimesR
import Derived.Test.YtlmfmfbnbbooaaaWhSpectraLaw
namespace Go.Proofs.Ytlmfmfbnbbooaaa
open Go.ChangeShapes Go.WideShapes Go.ChangeAt Go.RowKit
set_option linter.unusedVariables false
set_option maxRecDepth 100000

theorem zeros_noT {n : Nat} {f : Nat → Nat} (h : ∀ k, k < n → f k ≠ 0) : zeN f n = 0 := by
  apply Nat.eq_of_testBit_eq
  intro i
  rw [zeN_bit, Nat.zero_testBit]
  by_cases hi : i < n
  · have := h i hi
    simp [this]
  · simp [hi]
theorem zeros_someT {n a : Nat} {f : Nat → Nat} (ha : a < n) (h : f a = 0) : zeN f n ≠ 0 := by
  intro e
  have := zeN_bit f a n
  rw [e, Nat.zero_testBit, h] at this
  simp [ha] at this
theorem IntsV.nilT (W : World) : IntsV W (.slice none 0 0) [] := ⟨none, 0, rfl, Nat.le_refl _, fun h => by cases h⟩

set_option maxHeartbeats 4000000 in
theorem WheelsTimes_walk (n : Int) (xs ys : List Int) (v u : Value) (w : World) (_wf : (Lit.int .i64 n).wf = true) (hl : xs.length ≤ maxLen) (h : IntsV w v xs) (hm' : ys.length ≤ maxLen) (h' : IntsV w u ys) :
    Calls Try.prog 3 #[.int .i64 n, v, u] w fun e w' => e = .returned (.bool true) ∧ Below w.heap.size w w' := by
  have HAw := Lib.hid (fun W => wawake_any W)
  have HLf := Lib.hid (fun W (h : IntsV W v xs) => wlist_any xs v W hl h)
  have HLg := Lib.hid (fun W (h : IntsV W u ys) => wlist_any ys u W hm' h)
  have HRf := Lib.hid (fun W (h : IntsV W v xs) => RWheel_any n xs v W hl h)
  have HRg := Lib.hid (fun W (h : IntsV W u ys) => RWheel_any n ys u W hm' h)
  have HV := Lib.hid h
  have HU := Lib.hid h'
  by_cases hbb : (circB n && wheelB n.toNat xs) = true ∧ (circB n && wheelB n.toNat ys) = true
  · obtain ⟨hb, hb2⟩ := hbb
    rw [hb] at HRf
    rw [hb2] at HRg
    obtain ⟨m, l, rfl, rfl, hm, hw⟩ := good1 hb
    obtain ⟨m', l2, hmm, rfl, _, hx⟩ := good1 hb2
    have hx : WhL m l2 := by rw [show m = m' by omega]; exact hx
    rw [hw.take hm] at HLf
    rw [hx.take hm] at HLg
    have hm0 := hm.pos
    have hm17 := hm.2
    have hf := hw.wh hm
    have hg := hx.wh hm
    have HT := Lib.hid (fun a b W (h : IntsV W a (natI l)) (k : IntsV W b (natI l2)) => Times_ok m hm l l2 hw hx a b W h k)
    have HRT := Lib.hid (fun W (h : IntsV W v (natI l)) (k : IntsV W u (natI l2)) => (RTimes_any m hm (ofL l) (ofL l2) hf.lt hg.lt v u W (by rw [hw.taf]; exact h) (by rw [hx.taf]; exact k)).mono (fun e w' h => show ∃ v', e = .returned v' ∧ IntsV w' v' (natI (tabN m (tiF m (ofL l) (ofL l2)))) ∧ Below W.heap.size W w' from by
      obtain ⟨B, e1, _, h2⟩ := h
      exact ⟨_, e1, h2.list, h2.hb⟩))
    have HET := Lib.hid (fun a b W ha hb => by have := Equal_any (natI (tabN m (tiF m (ofL l) (ofL l2)))) (natI (tabN m (tiF m (ofL l) (ofL l2)))) a b W (tab_max hm _) (tab_max hm _) ha hb; rwa [show (natI (tabN m (tiF m (ofL l) (ofL l2))) == natI (tabN m (tiF m (ofL l) (ofL l2)))) = true from beq_self_eq_true _] at this)
    by_cases hz : ∃ k, k < m ∧ spF m (ofL l2) k = 0
    · obtain ⟨k0, hk0, hz0⟩ := hz
      have hzs := zeros_someT hk0 hz0
      have HD := Lib.hid (fun a b W (h : IntsV W a (natI l)) (k : IntsV W b (natI l2)) => Divide_state m hm l l2 hw hx hzs a b W h k)
      have HRD := Lib.hid (fun W (h : IntsV W v (natI l)) (k : IntsV W u (natI l2)) => (RDivide_any m hm (ofL l) (ofL l2) hf.lt hg.lt v u W (by rw [hw.taf]; exact h) (by rw [hx.taf]; exact k)).mono (fun e w' h => show e = .returned (.tuple #[.slice none 0 0, .int .i64 5]) ∧ Below W.heap.size W w' from by
        obtain ⟨v', hB, ⟨_, e1, _⟩ | ⟨h1, _⟩⟩ := h
        · exact ⟨e1, hB⟩
        · exact absurd hz0 (h1 k0 hk0)))
      have HED := Lib.hid (fun W => by have := Equal_any [] [] (.slice none 0 0) (.slice none 0 0) W (by simp) (by simp) (IntsV.nilT W) (IntsV.nilT W); exact this)
      obtain ⟨ao, cap, hv, _⟩ := h
      obtain ⟨bo, cap', hu, _⟩ := h'
      subst hv hu
      clear hb hb2 hl hm' hm hw hx hf hg hmm hzs hz0 hk0
      go_enter Try.func3, Try.ntmps3
      go_wp2_with fail
      refine (HLf.out _ HV.out).mono ?_
      rintro e u1 ⟨v1, rfl, i1, b1⟩
      have L_1 := Lib.hid i1
      have B1 := Lib.hid (b1)
      clear b1 i1
      go_wp2_with fail
      refine (HLg.out _ (HU.out.later B1.out)).mono ?_
      rintro e u2 ⟨v2, rfl, i2, b2⟩
      have L_2 := Lib.hid (L_1.out.later b2)
      have M_2 := Lib.hid i2
      have B2 := Lib.hid (below_nx B1.out b2)
      clear b2 i2
      go_wp2_with fail
      refine (HT.out _ _ _ L_2.out M_2.out).mono ?_
      rintro e u3 ⟨v3, rfl, i3, b3⟩
      have L_3 := Lib.hid (L_2.out.later b3)
      have M_3 := Lib.hid (M_2.out.later b3)
      have P_3 := Lib.hid i3
      have B3 := Lib.hid (below_nx B2.out b3)
      clear b3 i3
      go_wp2_with fail
      refine (HLf.out _ (HV.out.later B3.out)).mono ?_
      rintro e u4 ⟨v4, rfl, i4, b4⟩
      have P_4 := Lib.hid (P_3.out.later b4)
      have L_4 := Lib.hid i4
      have B4 := Lib.hid (below_nx B3.out b4)
      clear b4 i4
      go_wp2_with fail
      refine (HLg.out _ (HU.out.later B4.out)).mono ?_
      rintro e u5 ⟨v5, rfl, i5, b5⟩
      have P_5 := Lib.hid (P_4.out.later b5)
      have L_5 := Lib.hid (L_4.out.later b5)
      have M_5 := Lib.hid i5
      have B5 := Lib.hid (below_nx B4.out b5)
      clear b5 i5
      go_wp2_with fail
      refine (HD.out _ _ _ L_5.out M_5.out).mono ?_
      rintro e u6 ⟨rfl, b6⟩
      have P_6 := Lib.hid (P_5.out.later b6)
      have L_6 := Lib.hid (L_5.out.later b6)
      have M_6 := Lib.hid (M_5.out.later b6)
      have B6 := Lib.hid (below_nx B5.out b6)
      clear b6
      go_wp2_with fail
      refine (HRf.out _ (HV.out.later B6.out)).mono ?_
      rintro e u7 ⟨rfl, rfl⟩
      go_wp2_with fail
      refine (HRg.out _ (HU.out.later B6.out)).mono ?_
      rintro e u8 ⟨rfl, rfl⟩
      go_wp2_with fail
      refine (HRD.out _ (HV.out.later B6.out) (HU.out.later B6.out)).mono ?_
      rintro e u9 ⟨rfl, b9⟩
      have P_9 := Lib.hid (P_6.out.later b9)
      have B9 := Lib.hid (below_nx B6.out b9)
      clear b9
      go_wp2_with fail
      refine (HRT.out _ (HV.out.later B9.out) (HU.out.later B9.out)).mono ?_
      rintro e u10 ⟨v10, rfl, i10, b10⟩
      have P_10 := Lib.hid (P_9.out.later b10)
      have Q_10 := Lib.hid i10
      have B10 := Lib.hid (below_nx B9.out b10)
      clear b10 i10
      go_wp2_with fail
      refine (HET.out _ _ _ P_10.out Q_10.out).mono ?_
      rintro e ue ⟨rfl, q11, rfl⟩
      have B11 := Lib.hid (bl_drewN B10.out q11)
      generalize World.drewN _ q11 = uq11 at *
      go_wp2_with fail
      refine (HED.out _).mono ?_
      rintro e ue ⟨rfl, q12, rfl⟩
      have B12 := Lib.hid (bl_drewN B11.out q12)
      generalize World.drewN _ q12 = uq12 at *
      go_wp2_with fail
      refine (HAw.out _).mono ?_
      rintro e uz ⟨rfl, bz⟩
      go_wp2
      go_ret
      exact ⟨rfl, below_nx B12.out bz⟩
    · have hz2 : ∀ k, k < m → spF m (ofL l2) k ≠ 0 := fun k hk e => hz ⟨k, hk, e⟩
      have HD := Lib.hid (fun a b W (h : IntsV W a (natI l)) (k : IntsV W b (natI l2)) => Divide_ok m hm l l2 hw hx (zeros_noT hz2) a b W h k)
      have HRD := Lib.hid (fun W (h : IntsV W v (natI l)) (k : IntsV W u (natI l2)) => (RDivide_any m hm (ofL l) (ofL l2) hf.lt hg.lt v u W (by rw [hw.taf]; exact h) (by rw [hx.taf]; exact k)).mono (fun e w' h => show ∃ v', e = .returned (.tuple #[v', .int .i64 0]) ∧ IntsV w' v' (natI (tabN m (baF m (piF m (spF m (ofL l)) (ivF m (spF m (ofL l2))))))) ∧ Below W.heap.size W w' from by
        obtain ⟨v', hB, ⟨h1, _⟩ | ⟨_, e1, h2⟩⟩ := h
        · exact absurd h1 hz
        · exact ⟨v', e1, h2, hB⟩))
      have HED := Lib.hid (fun a b W ha hb => by have := Equal_any (natI (tabN m (baF m (piF m (spF m (ofL l)) (ivF m (spF m (ofL l2))))))) (natI (tabN m (baF m (piF m (spF m (ofL l)) (ivF m (spF m (ofL l2))))))) a b W (tab_max hm _) (tab_max hm _) ha hb; rwa [show (natI (tabN m (baF m (piF m (spF m (ofL l)) (ivF m (spF m (ofL l2)))))) == natI (tabN m (baF m (piF m (spF m (ofL l)) (ivF m (spF m (ofL l2))))))) = true from beq_self_eq_true _] at this)
      obtain ⟨ao, cap, hv, _⟩ := h
      obtain ⟨bo, cap', hu, _⟩ := h'
      subst hv hu
      clear hb hb2 hl hm' hm hw hx hf hg hmm hz hz2
      go_enter Try.func3, Try.ntmps3
      go_wp2_with fail
      refine (HLf.out _ HV.out).mono ?_
      rintro e u1 ⟨v1, rfl, i1, b1⟩
      have L_1 := Lib.hid i1
      have B1 := Lib.hid (b1)
      clear b1 i1
      go_wp2_with fail
      refine (HLg.out _ (HU.out.later B1.out)).mono ?_
      rintro e u2 ⟨v2, rfl, i2, b2⟩
      have L_2 := Lib.hid (L_1.out.later b2)
      have M_2 := Lib.hid i2
      have B2 := Lib.hid (below_nx B1.out b2)
      clear b2 i2
      go_wp2_with fail
      refine (HT.out _ _ _ L_2.out M_2.out).mono ?_
      rintro e u3 ⟨v3, rfl, i3, b3⟩
      have L_3 := Lib.hid (L_2.out.later b3)
      have M_3 := Lib.hid (M_2.out.later b3)
      have P_3 := Lib.hid i3
      have B3 := Lib.hid (below_nx B2.out b3)
      clear b3 i3
      go_wp2_with fail
      refine (HLf.out _ (HV.out.later B3.out)).mono ?_
      rintro e u4 ⟨v4, rfl, i4, b4⟩
      have P_4 := Lib.hid (P_3.out.later b4)
      have L_4 := Lib.hid i4
      have B4 := Lib.hid (below_nx B3.out b4)
      clear b4 i4
      go_wp2_with fail
      refine (HLg.out _ (HU.out.later B4.out)).mono ?_
      rintro e u5 ⟨v5, rfl, i5, b5⟩
      have P_5 := Lib.hid (P_4.out.later b5)
      have L_5 := Lib.hid (L_4.out.later b5)
      have M_5 := Lib.hid i5
      have B5 := Lib.hid (below_nx B4.out b5)
      clear b5 i5
      go_wp2_with fail
      refine (HD.out _ _ _ L_5.out M_5.out).mono ?_
      rintro e u6 ⟨v6, rfl, i6, b6⟩
      have P_6 := Lib.hid (P_5.out.later b6)
      have L_6 := Lib.hid (L_5.out.later b6)
      have M_6 := Lib.hid (M_5.out.later b6)
      have D_6 := Lib.hid i6
      have B6 := Lib.hid (below_nx B5.out b6)
      clear b6 i6
      go_wp2_with fail
      refine (HRf.out _ (HV.out.later B6.out)).mono ?_
      rintro e u7 ⟨rfl, rfl⟩
      go_wp2_with fail
      refine (HRg.out _ (HU.out.later B6.out)).mono ?_
      rintro e u8 ⟨rfl, rfl⟩
      go_wp2_with fail
      refine (HRD.out _ (HV.out.later B6.out) (HU.out.later B6.out)).mono ?_
      rintro e u9 ⟨v9, rfl, i9, b9⟩
      have P_9 := Lib.hid (P_6.out.later b9)
      have D_9 := Lib.hid (D_6.out.later b9)
      have E_9 := Lib.hid i9
      have B9 := Lib.hid (below_nx B6.out b9)
      clear b9 i9
      go_wp2_with fail
      refine (HRT.out _ (HV.out.later B9.out) (HU.out.later B9.out)).mono ?_
      rintro e u10 ⟨v10, rfl, i10, b10⟩
      have P_10 := Lib.hid (P_9.out.later b10)
      have D_10 := Lib.hid (D_9.out.later b10)
      have E_10 := Lib.hid (E_9.out.later b10)
      have Q_10 := Lib.hid i10
      have B10 := Lib.hid (below_nx B9.out b10)
      clear b10 i10
      go_wp2_with fail
      refine (HET.out _ _ _ P_10.out Q_10.out).mono ?_
      rintro e ue ⟨rfl, q11, rfl⟩
      have B11 := Lib.hid (bl_drewN B10.out q11)
      have D_10q := Lib.hid (D_10.out.later (bl_drewN (Below.refl _ _) q11))
      have E_10q := Lib.hid (E_10.out.later (bl_drewN (Below.refl _ _) q11))
      generalize World.drewN _ q11 = uq11 at *
      go_wp2_with fail
      refine (HED.out _ _ _ D_10q.out E_10q.out).mono ?_
      rintro e ue ⟨rfl, q12, rfl⟩
      have B12 := Lib.hid (bl_drewN B11.out q12)
      generalize World.drewN _ q12 = uq12 at *
      go_wp2_with fail
      refine (HAw.out _).mono ?_
      rintro e uz ⟨rfl, bz⟩
      go_wp2
      go_ret
      exact ⟨rfl, below_nx B12.out bz⟩
  · have hbb2 : (circB n && [xs.take 19, ys.take 19].all (wheelB n.toNat)) = false := by
      rw [Bool.eq_false_iff]
      intro e
      apply hbb
      rw [Bool.and_eq_true] at e
      obtain ⟨e1, e2⟩ := e
      simp only [List.all_cons, List.all_nil, Bool.and_true, Bool.and_eq_true] at e2
      have a1 := wheelB_take n xs
      have a2 := wheelB_take n ys
      rw [e1, e2.1] at a1
      rw [e1, e2.2] at a2
      rw [e1]
      exact ⟨a1.symm, a2.symm⟩
    have HTb := Lib.hid (fun a b W (h : IntsV W a (xs.take 19)) (k : IntsV W b (ys.take 19)) => Times_bad n _ _ a b W take19 h take19 k hbb2)
    have HDb := Lib.hid (fun a b W (h : IntsV W a (xs.take 19)) (k : IntsV W b (ys.take 19)) => Divide_bad n _ _ a b W take19 h take19 k hbb2)
    obtain ⟨ao, cap, hv, _⟩ := h
    obtain ⟨bo, cap', hu, _⟩ := h'
    subst hv hu
    cases h1 : (circB n && wheelB n.toNat xs)
    · rw [h1] at HRf
      clear hbb hbb2 hl hm' h1
      go_enter Try.func3, Try.ntmps3
      go_wp2_with fail
      refine (HLf.out _ HV.out).mono ?_
      rintro e u1 ⟨v1, rfl, i1, b1⟩
      have L_1 := Lib.hid i1
      have B1 := Lib.hid (b1)
      clear b1 i1
      go_wp2_with fail
      refine (HLg.out _ (HU.out.later B1.out)).mono ?_
      rintro e u2 ⟨v2, rfl, i2, b2⟩
      have L_2 := Lib.hid (L_1.out.later b2)
      have M_2 := Lib.hid i2
      have B2 := Lib.hid (below_nx B1.out b2)
      clear b2 i2
      go_wp2_with fail
      refine (HTb.out _ _ _ L_2.out M_2.out).mono ?_
      rintro e u3 ⟨rfl, b3⟩
      have L_3 := Lib.hid (L_2.out.later b3)
      have M_3 := Lib.hid (M_2.out.later b3)
      have B3 := Lib.hid (below_nx B2.out b3)
      clear b3
      go_wp2_with fail
      refine (HLf.out _ (HV.out.later B3.out)).mono ?_
      rintro e u4 ⟨v4, rfl, i4, b4⟩
      have L_4 := Lib.hid i4
      have B4 := Lib.hid (below_nx B3.out b4)
      clear b4 i4
      go_wp2_with fail
      refine (HLg.out _ (HU.out.later B4.out)).mono ?_
      rintro e u5 ⟨v5, rfl, i5, b5⟩
      have L_5 := Lib.hid (L_4.out.later b5)
      have M_5 := Lib.hid i5
      have B5 := Lib.hid (below_nx B4.out b5)
      clear b5 i5
      go_wp2_with fail
      refine (HDb.out _ _ _ L_5.out M_5.out).mono ?_
      rintro e u6 ⟨rfl, b6⟩
      have L_6 := Lib.hid (L_5.out.later b6)
      have M_6 := Lib.hid (M_5.out.later b6)
      have B6 := Lib.hid (below_nx B5.out b6)
      clear b6
      go_wp2_with fail
      refine (HRf.out _ (HV.out.later B6.out)).mono ?_
      rintro e u7 ⟨rfl, rfl⟩
      go_wp2_with fail
      refine (HAw.out _).mono ?_
      rintro e uz ⟨rfl, bz⟩
      go_wp2
      go_ret
      exact ⟨rfl, below_nx B6.out bz⟩
    · rw [h1] at HRf
      have h2 : (circB n && wheelB n.toNat ys) = false := by
        rw [Bool.eq_false_iff]
        exact fun h2 => hbb ⟨h1, h2⟩
      rw [h2] at HRg
      clear hbb hbb2 hl hm' h1 h2
      go_enter Try.func3, Try.ntmps3
      go_wp2_with fail
      refine (HLf.out _ HV.out).mono ?_
      rintro e u1 ⟨v1, rfl, i1, b1⟩
      have L_1 := Lib.hid i1
      have B1 := Lib.hid (b1)
      clear b1 i1
      go_wp2_with fail
      refine (HLg.out _ (HU.out.later B1.out)).mono ?_
      rintro e u2 ⟨v2, rfl, i2, b2⟩
      have L_2 := Lib.hid (L_1.out.later b2)
      have M_2 := Lib.hid i2
      have B2 := Lib.hid (below_nx B1.out b2)
      clear b2 i2
      go_wp2_with fail
      refine (HTb.out _ _ _ L_2.out M_2.out).mono ?_
      rintro e u3 ⟨rfl, b3⟩
      have L_3 := Lib.hid (L_2.out.later b3)
      have M_3 := Lib.hid (M_2.out.later b3)
      have B3 := Lib.hid (below_nx B2.out b3)
      clear b3
      go_wp2_with fail
      refine (HLf.out _ (HV.out.later B3.out)).mono ?_
      rintro e u4 ⟨v4, rfl, i4, b4⟩
      have L_4 := Lib.hid i4
      have B4 := Lib.hid (below_nx B3.out b4)
      clear b4 i4
      go_wp2_with fail
      refine (HLg.out _ (HU.out.later B4.out)).mono ?_
      rintro e u5 ⟨v5, rfl, i5, b5⟩
      have L_5 := Lib.hid (L_4.out.later b5)
      have M_5 := Lib.hid i5
      have B5 := Lib.hid (below_nx B4.out b5)
      clear b5 i5
      go_wp2_with fail
      refine (HDb.out _ _ _ L_5.out M_5.out).mono ?_
      rintro e u6 ⟨rfl, b6⟩
      have L_6 := Lib.hid (L_5.out.later b6)
      have M_6 := Lib.hid (M_5.out.later b6)
      have B6 := Lib.hid (below_nx B5.out b6)
      clear b6
      go_wp2_with fail
      refine (HRf.out _ (HV.out.later B6.out)).mono ?_
      rintro e u7 ⟨rfl, rfl⟩
      go_wp2_with fail
      refine (HRg.out _ (HU.out.later B6.out)).mono ?_
      rintro e u8 ⟨rfl, rfl⟩
      go_wp2_with fail
      refine (HAw.out _).mono ?_
      rintro e uz ⟨rfl, bz⟩
      go_wp2
      go_ret
      exact ⟨rfl, below_nx B6.out bz⟩
end Go.Proofs.Ytlmfmfbnbbooaaa
