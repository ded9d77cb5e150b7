/-
  The statement on the first of the cheapest leadings without crossing.
-/
import Derived.Test.YtkpiakoijkflmaaVoCalmLaw
import Derived.Test.YtkpiakoijkflmaaVoMetricLaw
import Derived.Test.YtkpiakoijkflmaaVoPricesLaw
import Derived.Test.YtkpiakoijkflmaaShComp
namespace Go.Proofs.Ytkpiakoijkflmaa
open Go.ChangeShapes Go.WideShapes Go.ChangeAt Go.RowKit
set_option maxRecDepth 100000

theorem comp_pre (c : List Int) {x y : Int} (h : x < y) (a b : List Int) : compL (c ++ x :: a) (c ++ y :: b) = -1 := by
  have h1 := compL_drop c.length (xs := c ++ x :: a) (ys := c ++ y :: b) (by simp) (by simp) (by simp)
  rw [h1, List.drop_left, List.drop_left, compL, if_pos h]
theorem leadL_order {k : Nat} : ∀ (f : Nat) (c : List Nat), (leadL k f c).Pairwise fun a b => compL (natI a) (natI b) ≤ 0
  | 0, c => by simp [leadL]
  | f + 1, c => by
    unfold leadL
    rw [List.pairwise_flatMap]
    refine ⟨fun x _ => ?_, List.pairwise_lt_range.imp fun {x y} hxy a ha b hb => ?_⟩
    · split
      · simp
      · exact leadL_order f _
    · split at ha
      · simp at ha
      · split at hb
        · simp at hb
        · obtain ⟨p, rfl⟩ := leadL_pre ha
          obtain ⟨q, rfl⟩ := leadL_pre hb
          have e : ∀ (z : Nat) (r : List Nat), natI ((c ++ [z]) ++ r) = natI c ++ (z : Int) :: natI r := fun z r => by simp [natI]
          rw [e, e, comp_pre (natI c) (by omega : (x : Int) < y)]
          omega
theorem calm_first {n : Nat} {us bs l m : List Nat} (h : calmL n us bs = some l) (hm : m.length = us.length) (hf : Fits us.length 0 m) (hp : prT n bs us m = costN n us bs) (hx : crossB n us bs m = false) : compL (natI l) (natI m) ≤ 0 := by
  unfold calmL at h
  obtain ⟨_, as', bs', e, hn⟩ := List.find?_eq_some_iff_append.1 h
  have hin := lead_in hm hf
  have ho := leadL_order (k := us.length) us.length []
  rw [e] at hin ho
  rcases List.mem_append.1 hin with h1 | h1
  · have := hn m h1
    rw [hp, hx] at this
    simp at this
  · rcases List.mem_cons.1 h1 with rfl | h1
    · rw [compL_self]; omega
    · exact (List.pairwise_cons.1 (List.pairwise_append.1 ho).2.1).1 m h1

set_option maxHeartbeats 4000000 in
theorem VoicesQuiet_walk (n : Int) (xs zs ls : List Int) (v u t : Value) (w : World) (_wf : (Lit.int .i64 n).wf = true) (hl : xs.length ≤ maxLen) (h : IntsV w v xs) (hm : zs.length ≤ maxLen) (k : IntsV w u zs) (hq : ls.length ≤ maxLen) (q : IntsV w t ls) :
    Calls Try.prog 10 #[.int .i64 n, v, u, t] w fun e w' => e = .returned (.bool true) ∧ Below w.heap.size w w' := by
  have HAw := Lib.hid (fun W => vawake_any W)
  have HLx := Lib.hid (fun W hW => vlist_any xs v W hl hW)
  have HLz := Lib.hid (fun W hW => vlist_any zs u W hm hW)
  have HLl := Lib.hid (fun W hW => vlist_any ls t W hq hW)
  have HTw := Lib.hid (fun W a b => RTwo_any n xs zs v u W hl hm a b)
  have H := Lib.hid h
  have K := Lib.hid k
  have Q := Lib.hid q
  obtain ⟨ao, cap, hv, _⟩ := h
  obtain ⟨bo, cap', hu, _⟩ := k
  obtain ⟨co, cap'', ht, _⟩ := q
  by_cases h2 : twoB n xs zs = true
  · rw [h2] at HTw
    obtain ⟨m, us, bs, rfl, rfl, rfl, hvc⟩ := two_nat h2
    rw [(hvc.take).1] at HLx
    rw [(hvc.take).2] at HLz
    have hk6 := hvc.l6
    have hk1 := hvc.l1
    have HC := Lib.hid (fun a b W ha hb => Cost_ok m us bs hvc a b W ha hb)
    have HL := Lib.hid (fun a b W ha hb => Calm_ok m us bs hvc a b W ha hb)
    obtain ⟨l, hcl, hll, hlf, hlp, hlx⟩ := calm_some hvc
    have HP := Lib.hid (fun a b d W ha hb hd => Price_ok m us bs l hvc hll hlf a b d W ha hb hd)
    have HX := Lib.hid (fun a b d W ha hb hd => Cross_ok m us bs l hvc hll hlf a b d W ha hb hd)
    rw [hlp] at HP
    rw [hlx] at HX
    have HRL := Lib.hid (fun (d : Value) W hd => RLeading_any us.length (by omega) (natI l) d W (by rw [natI_length]; unfold maxLen; omega) hd)
    rw [ld_of hll hlf] at HRL
    have HCn := Lib.hid (fun (d : Value) W hd => Clone_any (natI l) d W (by rw [natI_length]; omega) hd)
    have HCm := Lib.hid hcl
    have hnl : (natI l).length = us.length := by rw [natI_length]; exact hll
    have h96 := cost_96 hvc
    -- the other leading
    have HT : ((∀ a b d W, IntsV W a (natI us) → IntsV W b (natI bs) → IntsV W d (ls.take 9) → Calls Try.prog 39 #[.int .i64 m, a, b, d] W fun e w' => e = .returned (.tuple #[.int .i64 0, .int .i64 2]) ∧ Below W.heap.size W w')) ∨
        (∃ (p : Nat) (x : Bool) (r : Int), costN m us bs ≤ p ∧ p ≤ 96 ∧ (p = costN m us bs → x = false → r ≤ 0) ∧
          (∀ a b d W, IntsV W a (natI us) → IntsV W b (natI bs) → IntsV W d (ls.take 9) → Calls Try.prog 39 #[.int .i64 m, a, b, d] W fun e w' => e = .returned (.tuple #[.int .i64 p, .int .i64 0]) ∧ Below W.heap.size W w') ∧
          (∀ a b d W, IntsV W a (natI us) → IntsV W b (natI bs) → IntsV W d (ls.take 9) → Calls Try.prog 43 #[.int .i64 m, a, b, d] W fun e w' => e = .returned (.tuple #[.bool x, .int .i64 0]) ∧ Below W.heap.size W w') ∧
          (∀ a W, IntsV W a (natI l) → IntsV W t ls → Calls Try.prog 44 #[a, t] W fun e w' => e = .returned (.int .i64 r) ∧ W = w')) := by
      cases h4 : ldB us.length ls
      · left
        intro a b d W ha hb hd
        have e1 : ldB (natI us).length (ls.take 9) = false := by rw [natI_length, ld_take _ hk6]; exact h4
        exact (Price_bad m (natI us) (natI bs) (ls.take 9) (leaf6 hk6) (leaf6 hvc.symm.l6) take9 (.inr e1) a b d W ha hb hd).mono fun e w' h => ⟨h.1, h.2⟩
      · right
        obtain ⟨o, rfl, hol, hof⟩ := ld_nat h4
        have e9 : (natI o).take 9 = natI o := List.take_of_length_le (by rw [natI_length]; omega)
        have hle := cost_le (n := m) (bs := bs) («as» := us) (l := o) (T := 0) (by omega) (by rw [← hvc.len]; exact hof)
        have h97 := prT_100 hvc us.length o
        rw [List.take_length] at h97
        rw [e9]
        exact ⟨prT m bs us o, crossB m us bs o, compL (natI l) (natI o), hle, h97, fun e1 e2 => calm_first hcl hol hof e1 e2,
          fun a b d W ha hb hd => Price_ok m us bs o hvc hol hof a b d W ha hb hd, fun a b d W ha hb hd => Cross_ok m us bs o hvc hol hof a b d W ha hb hd,
          fun a W ha hb => Compare_any (natI l) (natI o) a t W (by rw [natI_length]; unfold maxLen; omega) hq ha hb⟩
    rw [natI_length] at hv hu
    have hlen2 := hvc.len
    rw [← hlen2] at hu
    clear h2 hvc hl hm hq hcl hll hlf hlp hlx hlen2 hnl
    generalize calmL m us bs = best at *
    generalize costN m us bs = c at *
    generalize us.length = kk at *
    generalize natI us = xs at *
    generalize natI bs = zs at *
    subst hv hu ht
    go_enter Try.func10, Try.ntmps10
    go_wp2_with fail
    refine (HLx.out _ H.out).mono ?_
    rintro e w1 ⟨v1, rfl, i1, b1⟩
    have B1 := Lib.hid b1
    have I1 := Lib.hid i1
    clear i1 b1
    go_wp2_with fail
    refine (HLz.out _ (K.out.later B1.out)).mono ?_
    rintro e w2 ⟨v2, rfl, i2, b2⟩
    have B2 := Lib.hid (below_nx B1.out b2)
    have C2 := Lib.hid (HL.out v1 v2 w2 (I1.out.later b2) i2)
    clear i2 b2
    go_wp2_with fail
    refine C2.out.mono ?_
    rintro e w3 ⟨vl, l', rfl, hl', i3, b3⟩
    obtain rfl : l' = l := by have := HCm.out; rw [hl'] at this; exact Option.some.inj this
    have B3 := Lib.hid (below_nx B2.out b3)
    have I3 := Lib.hid i3
    clear i3 b3 hl'
    go_wp2_with fail
    refine (HLx.out _ (H.out.later B3.out)).mono ?_
    rintro e w4 ⟨v4, rfl, i4, b4⟩
    have B4 := Lib.hid (below_nx B3.out b4)
    have I4 := Lib.hid i4
    have I3 := Lib.hid (I3.out.later b4)
    clear i4 b4
    go_wp2_with fail
    refine (HLz.out _ (K.out.later B4.out)).mono ?_
    rintro e w5 ⟨v5, rfl, i5, b5⟩
    have B5 := Lib.hid (below_nx B4.out b5)
    have I5 := Lib.hid i5
    have I3 := Lib.hid (I3.out.later b5)
    have I4 := Lib.hid (I4.out.later b5)
    clear i5 b5
    go_wp2_with fail
    refine (HC.out v4 v5 w5 I4.out I5.out).mono ?_
    rintro e w6 ⟨rfl, b6⟩
    have B6 := Lib.hid (below_nx B5.out b6)
    have I3 := Lib.hid (I3.out.later b6)
    clear b6
    go_wp2_with fail
    refine (HTw.out _ (H.out.later B6.out) (K.out.later B6.out)).mono ?_
    rintro e w7 ⟨rfl, rfl⟩
    go_wp2_with fail
    refine (HRL.out _ _ I3.out).mono ?_
    rintro e w7 ⟨rfl, rfl⟩
    go_wp2_with fail
    refine (HLx.out _ (H.out.later B6.out)).mono ?_
    rintro e w8 ⟨v8, rfl, i8, b8⟩
    have B8 := Lib.hid (below_nx B6.out b8)
    have I8 := Lib.hid i8
    have I3 := Lib.hid (I3.out.later b8)
    clear i8 b8
    go_wp2_with fail
    refine (HLz.out _ (K.out.later B8.out)).mono ?_
    rintro e w9 ⟨v9, rfl, i9, b9⟩
    have B9 := Lib.hid (below_nx B8.out b9)
    have I9 := Lib.hid i9
    have I3 := Lib.hid (I3.out.later b9)
    have I8 := Lib.hid (I8.out.later b9)
    clear i9 b9
    go_wp2_with fail
    refine (HCn.out _ _ I3.out).mono ?_
    rintro e w10 ⟨v10, rfl, i10, b10⟩
    have B10 := Lib.hid (below_nx B9.out b10)
    have I10 := Lib.hid i10
    have I3 := Lib.hid (I3.out.later b10)
    have I8 := Lib.hid (I8.out.later b10)
    have I9 := Lib.hid (I9.out.later b10)
    clear i10 b10
    go_wp2_with fail
    refine (HP.out v8 v9 v10 w10 I8.out I9.out I10.out).mono ?_
    rintro e w11 ⟨rfl, b11⟩
    have B11 := Lib.hid (below_nx B10.out b11)
    have I3 := Lib.hid (I3.out.later b11)
    clear b11
    go_wp2_with fail
    refine (HLx.out _ (H.out.later B11.out)).mono ?_
    rintro e w12 ⟨v12, rfl, i12, b12⟩
    have B12 := Lib.hid (below_nx B11.out b12)
    have I12 := Lib.hid i12
    have I3 := Lib.hid (I3.out.later b12)
    clear i12 b12
    go_wp2_with fail
    refine (HLz.out _ (K.out.later B12.out)).mono ?_
    rintro e w13 ⟨v13, rfl, i13, b13⟩
    have B13 := Lib.hid (below_nx B12.out b13)
    have I13 := Lib.hid i13
    have I3 := Lib.hid (I3.out.later b13)
    have I12 := Lib.hid (I12.out.later b13)
    clear i13 b13
    go_wp2_with fail
    refine (HCn.out _ _ I3.out).mono ?_
    rintro e w14 ⟨v14, rfl, i14, b14⟩
    have B14 := Lib.hid (below_nx B13.out b14)
    have I14 := Lib.hid i14
    have I3 := Lib.hid (I3.out.later b14)
    have I12 := Lib.hid (I12.out.later b14)
    have I13 := Lib.hid (I13.out.later b14)
    clear i14 b14
    go_wp2_with fail
    refine (HX.out v12 v13 v14 w14 I12.out I13.out I14.out).mono ?_
    rintro e w15 ⟨rfl, b15⟩
    have B15 := Lib.hid (below_nx B14.out b15)
    have I3 := Lib.hid (I3.out.later b15)
    clear b15
    go_wp2_with fail
    refine (HLx.out _ (H.out.later B15.out)).mono ?_
    rintro e w16 ⟨v16, rfl, i16, b16⟩
    have B16 := Lib.hid (below_nx B15.out b16)
    have I16 := Lib.hid i16
    have I3 := Lib.hid (I3.out.later b16)
    clear i16 b16
    go_wp2_with fail
    refine (HLz.out _ (K.out.later B16.out)).mono ?_
    rintro e w17 ⟨v17, rfl, i17, b17⟩
    have B17 := Lib.hid (below_nx B16.out b17)
    have I17 := Lib.hid i17
    have I3 := Lib.hid (I3.out.later b17)
    have I16 := Lib.hid (I16.out.later b17)
    clear i17 b17
    go_wp2_with fail
    refine (HLl.out _ (Q.out.later B17.out)).mono ?_
    rintro e w18 ⟨v18, rfl, i18, b18⟩
    have B18 := Lib.hid (below_nx B17.out b18)
    have I18 := Lib.hid i18
    have I3 := Lib.hid (I3.out.later b18)
    have I16 := Lib.hid (I16.out.later b18)
    have I17 := Lib.hid (I17.out.later b18)
    clear i18 b18
    rcases HT with T1 | ⟨p, x, r, hcp, hp96, hr, T1, T2, T3⟩
    · have U1 := Lib.hid (T1 v16 v17 v18 w18 I16.out I17.out I18.out)
      clear T1
      go_wp2_with fail
      refine U1.out.mono ?_
      rintro e w19 ⟨rfl, b19⟩
      have B19 := Lib.hid (below_nx B18.out b19)
      clear b19
      go_wp2_with fail
      refine (HAw.out _).mono ?_
      rintro e w24 ⟨rfl, b24⟩
      go_wp2
      go_ret
      exact ⟨rfl, below_nx B19.out b24⟩
    · have U1 := Lib.hid (T1 v16 v17 v18 w18 I16.out I17.out I18.out)
      have U2 := Lib.hid T2
      have U3 := Lib.hid T3
      have HR := Lib.hid hr
      clear T1 T2 T3 hr
      go_wp2_with fail
      refine U1.out.mono ?_
      rintro e w19 ⟨rfl, b19⟩
      have B19 := Lib.hid (below_nx B18.out b19)
      have I3 := Lib.hid (I3.out.later b19)
      clear b19
      go_wp2_with fail
      refine (HLx.out _ (H.out.later B19.out)).mono ?_
      rintro e w20 ⟨v20, rfl, i20, b20⟩
      have B20 := Lib.hid (below_nx B19.out b20)
      have I20 := Lib.hid i20
      have I3 := Lib.hid (I3.out.later b20)
      clear i20 b20
      go_wp2_with fail
      refine (HLz.out _ (K.out.later B20.out)).mono ?_
      rintro e w21 ⟨v21, rfl, i21, b21⟩
      have B21 := Lib.hid (below_nx B20.out b21)
      have I21 := Lib.hid i21
      have I3 := Lib.hid (I3.out.later b21)
      have I20 := Lib.hid (I20.out.later b21)
      clear i21 b21
      go_wp2_with fail
      refine (HLl.out _ (Q.out.later B21.out)).mono ?_
      rintro e w22 ⟨v22, rfl, i22, b22⟩
      have B22 := Lib.hid (below_nx B21.out b22)
      have I22 := Lib.hid i22
      have I3 := Lib.hid (I3.out.later b22)
      have I20 := Lib.hid (I20.out.later b22)
      have I21 := Lib.hid (I21.out.later b22)
      clear i22 b22
      go_wp2_with fail
      refine (U2.out v20 v21 v22 w22 I20.out I21.out I22.out).mono ?_
      rintro e w23 ⟨rfl, b23⟩
      have B23 := Lib.hid (below_nx B22.out b23)
      have I3 := Lib.hid (I3.out.later b23)
      clear b23
      have UC := Lib.hid (U3.out vl w23 I3.out (Q.out.later B23.out))
      have hge : (c : Int) ≤ (p : Int) := by omega
      by_cases h7 : c < p
      · have h8 : (c : Int) < (p : Int) := by omega
        clear h7
        go_wp2_with fail
        refine (HAw.out _).mono ?_
        rintro e w24 ⟨rfl, b24⟩
        go_wp2
        go_ret
        exact ⟨rfl, below_nx B23.out b24⟩
      · obtain rfl : p = c := by omega
        clear h7
        cases x
        · have hr0 := HR.out rfl rfl
          go_wp2_with fail
          refine UC.out.mono ?_
          rintro e w24 ⟨rfl, rfl⟩
          go_wp2_with fail
          refine (HAw.out _).mono ?_
          rintro e w25 ⟨rfl, b25⟩
          go_wp2
          go_ret
          exact ⟨rfl, below_nx B23.out b25⟩
        · go_wp2_with fail
          refine (HAw.out _).mono ?_
          rintro e w24 ⟨rfl, b24⟩
          go_wp2
          go_ret
          exact ⟨rfl, below_nx B23.out b24⟩
  · have hbad : twoB n (xs.take 9) (zs.take 9) = false := by rw [two_take]; simpa using h2
    have HC := Lib.hid (fun a b W ha hb => Cost_bad n (xs.take 9) (zs.take 9) take9 take9 hbad a b W ha hb)
    have HL := Lib.hid (fun a b W ha hb => Calm_bad n (xs.take 9) (zs.take 9) take9 take9 hbad a b W ha hb)
    clear hbad h2 hl hm hq
    subst hv hu ht
    go_enter Try.func10, Try.ntmps10
    go_wp2_with fail
    refine (HLx.out _ H.out).mono ?_
    rintro e w1 ⟨v1, rfl, i1, b1⟩
    have B1 := Lib.hid b1
    have I1 := Lib.hid i1
    clear i1 b1
    go_wp2_with fail
    refine (HLz.out _ (K.out.later B1.out)).mono ?_
    rintro e w2 ⟨v2, rfl, i2, b2⟩
    have B2 := Lib.hid (below_nx B1.out b2)
    have C2 := Lib.hid (HL.out v1 v2 w2 (I1.out.later b2) i2)
    clear i2 b2
    go_wp2_with fail
    refine C2.out.mono ?_
    rintro e w3 ⟨rfl, b3⟩
    have B3 := Lib.hid (below_nx B2.out b3)
    clear b3
    go_wp2_with fail
    refine (HLx.out _ (H.out.later B3.out)).mono ?_
    rintro e w4 ⟨v4, rfl, i4, b4⟩
    have B4 := Lib.hid (below_nx B3.out b4)
    have I4 := Lib.hid i4
    clear i4 b4
    go_wp2_with fail
    refine (HLz.out _ (K.out.later B4.out)).mono ?_
    rintro e w5 ⟨v5, rfl, i5, b5⟩
    have B5 := Lib.hid (below_nx B4.out b5)
    have L5 := Lib.hid (HC.out v4 v5 w5 (I4.out.later b5) i5)
    clear i5 b5
    go_wp2_with fail
    refine L5.out.mono ?_
    rintro e w6 ⟨rfl, b6⟩
    have B6 := Lib.hid (below_nx B5.out b6)
    clear b6
    go_wp2_with fail
    refine (HAw.out _).mono ?_
    rintro e w12 ⟨rfl, b12⟩
    go_wp2
    go_ret
    exact ⟨rfl, below_nx B6.out b12⟩
end Go.Proofs.Ytkpiakoijkflmaa
