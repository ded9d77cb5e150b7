/-
  The statement on Price and Cross.
-/
import Derived.Test.YtfglmdlmjcfleaaVoCross2
namespace Go.Proofs.Ytfglmdlmjcfleaa
open Go.ChangeShapes Go.WideShapes Go.ChangeAt Go.RowKit
set_option maxRecDepth 100000

theorem ld_take (k : Nat) (hk : k ≤ 6) (ls : List Int) : ldB k (ls.take 9) = ldB k ls := by
  by_cases h : ls.length ≤ 9
  · rw [List.take_of_length_le h]
  · rw [ld_len (xs := ls) (by omega), ld_len (xs := ls.take 9) (by rw [List.length_take]; omega)]

set_option maxHeartbeats 2000000 in
theorem VoicesPrices_walk (n : Int) (xs zs ls : List Int) (v u t : Value) (w : World) (_wf : (Lit.int .i64 n).wf = true) (hl : xs.length ≤ maxLen) (h : IntsV w v xs) (hm : zs.length ≤ maxLen) (k : IntsV w u zs) (hq : ls.length ≤ maxLen) (q : IntsV w t ls) :
    Calls Try.prog 4 #[.int .i64 n, v, u, t] w fun e w' => e = .returned (.bool true) ∧ Below w.heap.size w w' := by
  have HAw := Lib.hid (fun W => vawake_any W)
  have HLx := Lib.hid (fun W hW => vlist_any xs v W hl hW)
  have HLz := Lib.hid (fun W hW => vlist_any zs u W hm hW)
  have HLl := Lib.hid (fun W hW => vlist_any ls t W hq hW)
  have HTw := Lib.hid (fun W a b => RTwo_any n xs zs v u W hl hm a b)
  have H := Lib.hid h
  have K := Lib.hid k
  have Q := Lib.hid q
  have hl2 := hl
  unfold maxLen at hl2
  obtain ⟨ao, cap, hv, _⟩ := h
  obtain ⟨bo, cap', hu, _⟩ := k
  obtain ⟨co, cap'', ht, _⟩ := q
  by_cases hg : twoB n xs zs = true ∧ ldB xs.length ls = true
  · obtain ⟨h2, h3⟩ := hg
    have HRL := Lib.hid (fun W a => RLeading_any xs.length (by have := two_len h2; omega) ls t W hq a)
    rw [h3] at HRL
    rw [h2] at HTw
    obtain ⟨m, us, bs, rfl, rfl, rfl, hvc⟩ := two_nat h2
    rw [natI_length] at h3
    obtain ⟨l, rfl, hll, hf⟩ := ld_nat h3
    rw [(hvc.take).1] at HLx
    rw [(hvc.take).2] at HLz
    rw [List.take_of_length_le (show (natI l).length ≤ 9 by rw [natI_length, hll]; have := hvc.l6; omega)] at HLl
    have HP := Lib.hid (fun a b c W ha hb hc => Price_ok m us bs l hvc hll hf a b c W ha hb hc)
    have HC := Lib.hid (fun a b c W ha hb hc => Cross_ok m us bs l hvc hll hf a b c W ha hb hc)
    have HRP := Lib.hid (fun a b c W ha hb hc => RPrice_any m us bs l hvc hll hf a b c W ha hb hc)
    have HRC := Lib.hid (fun a b c W ha hb hc => RCross_any m us bs l hvc hll hf a b c W ha hb hc)
    clear h2 h3 hvc hll hf hl hm hq
    generalize prT m bs us l = pr at *
    generalize crossB m us bs l = cr at *
    generalize natI us = xs at *
    generalize natI bs = zs at *
    generalize natI l = ls at *
    subst hv hu ht
    go_enter Try.func4, Try.ntmps4
    go_wp2_with fail
    refine (HLx.out _ H.out).mono ?_
    rintro e w1 ⟨v1, rfl, i1, b1⟩
    have B1 := Lib.hid b1
    have I1 := Lib.hid i1
    have K1 := Lib.hid (K.out.later b1)
    have Q1 := Lib.hid (Q.out.later b1)
    clear i1 b1
    go_wp2_with fail
    refine (HLz.out _ K1.out).mono ?_
    rintro e w2 ⟨v2, rfl, i2, b2⟩
    have B2 := Lib.hid (below_nx B1.out b2)
    have I2 := Lib.hid i2
    have J2 := Lib.hid (I1.out.later b2)
    have Q2 := Lib.hid (Q1.out.later b2)
    clear i2 b2
    go_wp2_with fail
    refine (HLl.out _ Q2.out).mono ?_
    rintro e w3 ⟨v3, rfl, i3, b3⟩
    have B3 := Lib.hid (below_nx B2.out b3)
    have HP3 := Lib.hid (HP.out v1 v2 v3 w3 (J2.out.later b3) (I2.out.later b3) i3)
    clear i3 b3
    go_wp2_with fail
    refine HP3.out.mono ?_
    rintro e w4 ⟨rfl, b4⟩
    have B4 := Lib.hid (below_nx B3.out b4)
    clear b4
    go_wp2_with fail
    refine (HLx.out _ (H.out.later B4.out)).mono ?_
    rintro e w5 ⟨v5, rfl, i5, b5⟩
    have B5 := Lib.hid (below_nx B4.out b5)
    have I5 := Lib.hid i5
    clear i5 b5
    go_wp2_with fail
    refine (HLz.out _ (K.out.later B5.out)).mono ?_
    rintro e w6 ⟨v6, rfl, i6, b6⟩
    have B6 := Lib.hid (below_nx B5.out b6)
    have I6 := Lib.hid i6
    have J6 := Lib.hid (I5.out.later b6)
    clear i6 b6
    go_wp2_with fail
    refine (HLl.out _ (Q.out.later B6.out)).mono ?_
    rintro e w7 ⟨v7, rfl, i7, b7⟩
    have B7 := Lib.hid (below_nx B6.out b7)
    have HC7 := Lib.hid (HC.out v5 v6 v7 w7 (J6.out.later b7) (I6.out.later b7) i7)
    clear i7 b7
    go_wp2_with fail
    refine HC7.out.mono ?_
    rintro e w8 ⟨rfl, b8⟩
    have B8 := Lib.hid (below_nx B7.out b8)
    clear b8
    go_wp2_with fail
    refine (HTw.out _ (H.out.later B8.out) (K.out.later B8.out)).mono ?_
    rintro e w9 ⟨rfl, rfl⟩
    go_wp2_with fail
    refine (HRL.out _ (Q.out.later B8.out)).mono ?_
    rintro e w9 ⟨rfl, rfl⟩
    go_wp2_with fail
    refine (HRP.out _ _ _ _ (H.out.later B8.out) (K.out.later B8.out) (Q.out.later B8.out)).mono ?_
    rintro e w9 ⟨rfl, d9, rfl⟩
    obtain ⟨w10, hw10⟩ : ∃ W, w8.drewN d9 = W := ⟨_, rfl⟩
    have B10 := Lib.hid (show Below w.heap.size w w10 by rw [← hw10]; exact below_drewN B8.out d9)
    rw [hw10]
    clear hw10
    go_wp2_with fail
    refine (HRC.out _ _ _ _ (H.out.later B10.out) (K.out.later B10.out) (Q.out.later B10.out)).mono ?_
    rintro e w11 ⟨rfl, d11, rfl⟩
    obtain ⟨w12, hw12⟩ : ∃ W, w10.drewN d11 = W := ⟨_, rfl⟩
    have B12 := Lib.hid (show Below w.heap.size w w12 by rw [← hw12]; exact below_drewN B10.out d11)
    rw [hw12]
    clear hw12
    go_wp2_with fail
    refine (HAw.out _).mono ?_
    rintro e w13 ⟨rfl, b13⟩
    go_wp2
    go_ret
    exact ⟨rfl, below_nx B12.out b13⟩
  · have hbad : twoB n (xs.take 9) (zs.take 9) = false ∨ ldB (xs.take 9).length (ls.take 9) = false := by
      rw [two_take]
      cases h1 : twoB n xs zs
      · left; rfl
      · right
        have l6 := two_len h1
        rw [List.take_of_length_le (show xs.length ≤ 9 by omega), ld_take _ l6]
        cases h2 : ldB xs.length ls
        · rfl
        · exact (hg ⟨h1, h2⟩).elim
    have HP := Lib.hid (fun a b c W ha hb hc => Price_bad n (xs.take 9) (zs.take 9) (ls.take 9) take9 take9 take9 hbad a b c W ha hb hc)
    have HC := Lib.hid (fun a b c W ha hb hc => Cross_bad n (xs.take 9) (zs.take 9) (ls.take 9) take9 take9 take9 hbad a b c W ha hb hc)
    have HRL := Lib.hid (fun (h2 : twoB n xs zs = true) W a => RLeading_any xs.length (by have := two_len h2; omega) ls t W hq a)
    have HG := Lib.hid hg
    clear hbad hg hl hm hq
    subst hv hu ht
    go_enter Try.func4, Try.ntmps4
    go_wp2_with fail
    refine (HLx.out _ H.out).mono ?_
    rintro e w1 ⟨v1, rfl, i1, b1⟩
    have B1 := Lib.hid b1
    have I1 := Lib.hid i1
    have K1 := Lib.hid (K.out.later b1)
    have Q1 := Lib.hid (Q.out.later b1)
    clear i1 b1
    go_wp2_with fail
    refine (HLz.out _ K1.out).mono ?_
    rintro e w2 ⟨v2, rfl, i2, b2⟩
    have B2 := Lib.hid (below_nx B1.out b2)
    have I2 := Lib.hid i2
    have J2 := Lib.hid (I1.out.later b2)
    have Q2 := Lib.hid (Q1.out.later b2)
    clear i2 b2
    go_wp2_with fail
    refine (HLl.out _ Q2.out).mono ?_
    rintro e w3 ⟨v3, rfl, i3, b3⟩
    have B3 := Lib.hid (below_nx B2.out b3)
    have HP3 := Lib.hid (HP.out v1 v2 v3 w3 (J2.out.later b3) (I2.out.later b3) i3)
    clear i3 b3
    go_wp2_with fail
    refine HP3.out.mono ?_
    rintro e w4 ⟨rfl, b4⟩
    have B4 := Lib.hid (below_nx B3.out b4)
    clear b4
    go_wp2_with fail
    refine (HLx.out _ (H.out.later B4.out)).mono ?_
    rintro e w5 ⟨v5, rfl, i5, b5⟩
    have B5 := Lib.hid (below_nx B4.out b5)
    have I5 := Lib.hid i5
    clear i5 b5
    go_wp2_with fail
    refine (HLz.out _ (K.out.later B5.out)).mono ?_
    rintro e w6 ⟨v6, rfl, i6, b6⟩
    have B6 := Lib.hid (below_nx B5.out b6)
    have I6 := Lib.hid i6
    have J6 := Lib.hid (I5.out.later b6)
    clear i6 b6
    go_wp2_with fail
    refine (HLl.out _ (Q.out.later B6.out)).mono ?_
    rintro e w7 ⟨v7, rfl, i7, b7⟩
    have B7 := Lib.hid (below_nx B6.out b7)
    have HC7 := Lib.hid (HC.out v5 v6 v7 w7 (J6.out.later b7) (I6.out.later b7) i7)
    clear i7 b7
    go_wp2_with fail
    refine HC7.out.mono ?_
    rintro e w8 ⟨rfl, b8⟩
    have B8 := Lib.hid (below_nx B7.out b8)
    clear b8
    have HT8 := Lib.hid (HTw.out _ (H.out.later B8.out) (K.out.later B8.out))
    cases h1 : twoB n xs zs
    · rw [h1] at HT8
      clear h1
      go_wp2_with fail
      refine HT8.out.mono ?_
      rintro e w9 ⟨rfl, rfl⟩
      go_wp2_with fail
      refine (HAw.out _).mono ?_
      rintro e w13 ⟨rfl, b13⟩
      go_wp2
      go_ret
      exact ⟨rfl, below_nx B8.out b13⟩
    · have h2 : ldB xs.length ls = false := by
        cases h2 : ldB xs.length ls
        · rfl
        · exact (HG.out ⟨h1, h2⟩).elim
      have HR8 := Lib.hid (HRL.out h1 _ (Q.out.later B8.out))
      rw [h2] at HR8
      rw [h1] at HT8
      clear h1 h2
      go_wp2_with fail
      refine HT8.out.mono ?_
      rintro e w9 ⟨rfl, rfl⟩
      go_wp2_with fail
      refine HR8.out.mono ?_
      rintro e w9 ⟨rfl, rfl⟩
      go_wp2_with fail
      refine (HAw.out _).mono ?_
      rintro e w13 ⟨rfl, b13⟩
      go_wp2
      go_ret
      exact ⟨rfl, below_nx B8.out b13⟩
end Go.Proofs.Ytfglmdlmjcfleaa
