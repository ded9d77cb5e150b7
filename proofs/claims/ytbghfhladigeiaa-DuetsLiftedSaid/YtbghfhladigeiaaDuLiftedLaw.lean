/-
  The statement on two parts that are lifted.
-/
import Derived.Test.YtbghfhladigeiaaDuWorthF
namespace Go.Proofs.Ytbghfhladigeiaa
open Go.ChangeShapes Go.WideShapes Go.ChangeAt Go.RowKit
set_option maxRecDepth 100000

set_option maxHeartbeats 4000000 in
theorem DuetsLifted_walk (gs ss : List Int) (b' : Int) (g s : Value) (w : World) (hl : gs.length ≤ maxLen) (h : IntsV w g gs) (hm : ss.length ≤ maxLen) (k : IntsV w s ss) (wk : (Lit.int .i64 b').wf = true) :
    Calls Try.prog 12 #[g, s, .int .i64 b'] w fun e w' => e = .returned (.bool true) ∧ Below w.heap.size w w' := by
  have HAw := Lib.hid (fun W => dawake_any W)
  have HLg := Lib.hid (fun W hW => dlist_any gs g W hl hW)
  have HLs := Lib.hid (fun W hW => dlist_any ss s W hm hW)
  have HPr := Lib.hid (fun W a b => lpair_any gs ss g s W hl hm a b)
  have H := Lib.hid h
  have K := Lib.hid k
  have hwf := wf64 wk
  have hDs : ∀ u W, IntsV W u (ss.take 11) → Calls Try.prog 36 #[u, .int .i64 b'] W fun e w' => ∃ v d, e = .returned (.tuple #[v, .int .i64 d]) ∧ Below W.heap.size W w' := fun u W hu => by
    rcases Lift_cases (ss.take 11) b' take11 hwf with ⟨_, h⟩ | ⟨c, _, h⟩
    · exact (h u W hu).mono fun e w' h => by obtain ⟨v, h1, _, h3⟩ := h; exact ⟨v, 0, h1, h3⟩
    · exact (h u W hu).mono fun e w' h => ⟨_, c, h.1, h.2⟩
  rcases Lift_cases (gs.take 11) b' take11 hwf with ⟨⟨p1, p2, p3, p4⟩, h1⟩ | ⟨c, hc, h1⟩
  · rw [dpart_take] at p1
    rw [dtake p1] at p4 h1 HLg
    have H1 := Lib.hid h1
    clear h1 hDs
    rcases Lift_cases (ss.take 11) b' take11 hwf with ⟨⟨q1, q2, q3, q4⟩, h2⟩ | ⟨c, hc, h2⟩
    · rw [dpart_take] at q1
      rw [dtake q1] at q4 h2 HLs
      have H2 := Lib.hid h2
      clear h2
      cases hp : pairB gs ss
      · rw [hp] at HPr
        obtain ⟨ao, cap, hv, -⟩ := h
        obtain ⟨bo, cap', hu, -⟩ := k
        subst hv hu
        clear hp hl hm p1 p2 p3 p4 q1 q2 q3 q4 hwf wk
        go_enter Try.func12, Try.ntmps12
        go_wp2_with fail
        refine (HLg.out _ H.out).mono ?_
        rintro e w1 ⟨v1, rfl, i1, b1⟩
        have B1 := Lib.hid b1
        have C1 := Lib.hid (H1.out v1 w1 i1)
        clear i1 b1
        go_wp2_with fail
        refine C1.out.mono ?_
        rintro e w2 ⟨v2, rfl, i2, b2⟩
        have B2 := Lib.hid (below_nx B1.out b2)
        clear i2 b2
        go_wp2_with fail
        refine (HLs.out _ (K.out.later B2.out)).mono ?_
        rintro e w3 ⟨v3, rfl, i3, b3⟩
        have B3 := Lib.hid (below_nx B2.out b3)
        have C3 := Lib.hid (H2.out v3 w3 i3)
        clear i3 b3
        go_wp2_with fail
        refine C3.out.mono ?_
        rintro e w4 ⟨v4, rfl, i4, b4⟩
        have B4 := Lib.hid (below_nx B3.out b4)
        clear i4 b4
        go_wp2_with fail
        refine (HPr.out _ (H.out.later B4.out) (K.out.later B4.out)).mono ?_
        rintro e w5 ⟨rfl, rfl⟩
        go_wp2_with fail
        refine (HAw.out _).mono ?_
        rintro e w6 ⟨rfl, b6⟩
        go_wp2
        go_ret
        exact ⟨rfl, below_nx B4.out b6⟩
      · obtain ⟨_, _, hlen⟩ := pair_parts hp
        have g1 := dpart_len p1
        have s1 := dpart_len q1
        rw [hp] at HPr
        have hp2 : pairB (liftP b' gs) (liftP b' ss) = true := by
          rw [pair_cases, part_lift p1 p4, part_lift q1 q4, liftP_len, liftP_len]
          exact decide_eq_true hlen
        have HC := Lib.hid (fun a b W ha hb => Check_ok gs ss a b W hp ha hb)
        have HC2 := Lib.hid (fun a b W ha hb => Check_ok (liftP b' gs) (liftP b' ss) a b W hp2 ha hb)
        have HW := Lib.hid (fun a b W ha hb => Worth_ok gs ss a b W hp ha hb)
        have HW2 := Lib.hid (fun a b W ha hb => Worth_ok (liftP b' gs) (liftP b' ss) a b W hp2 ha hb)
        rw [check_lift hlen] at HC2
        rw [worth_lift hlen] at HW2
        obtain ⟨f1, f2, f3, hcv⟩ : ∃ f1 f2 f3 : Int, checkV gs ss = .tuple #[.int .i64 f1, .int .i64 f2, .int .i64 f3] := ⟨_, _, _, rfl⟩
        obtain ⟨n1, n2, hwv⟩ : ∃ n1 n2 : Int, worthV gs ss = .tuple #[.int .i64 n1, .int .i64 n2] := ⟨_, _, rfl⟩
        rw [hcv] at HC HC2
        rw [hwv] at HW HW2
        have HCl1 := Lib.hid (fun a W ha => Clone_any (liftP b' gs) a W (by rw [liftP_len]; omega) ha)
        have HCl2 := Lib.hid (fun a W ha => Clone_any (liftP b' ss) a W (by rw [liftP_len]; omega) ha)
        have HBk := Lib.hid (fun a W ha => Lift_in (liftP b' gs) (-b') a W (part_lift p1 p4) (by rw [lift_in p4 (by omega) (by omega), lift_back]; exact g1.2.2) ha)
        rw [lift_in p4 (by omega) (by omega), lift_back] at HBk
        have HQ := Lib.hid (fun a b W ha hb => Equal_any gs gs a b W hl hl ha hb)
        rw [show (gs == gs) = true from beq_self_eq_true _] at HQ
        have HNx := Lib.hid (fun i (hi : i < gs.length) => And.intro (note_at g1.2.2 hi) (nAt_lift (b' := b') hi))
        obtain ⟨ba, oa, ca, hv, hc1⟩ := d_cells h (by omega)
        obtain ⟨bo, cap', hu, -⟩ := k
        have HC1 := Lib.hid hc1
        have HE := Lib.hid (fun (u : Value) W (hu : IntsV W u (liftP b' gs)) => d_cells hu (by rw [liftP_len]; omega))
        rw [liftP_len] at HE
        obtain ⟨L, hL⟩ : ∃ L, gs.length = L := ⟨_, rfl⟩
        have l1 : 1 ≤ L := by omega
        have l8 : L ≤ 8 := by omega
        rw [hL] at hv hc1 HC1 HE HNx
        subst hv hu
        have e1 : (f1 != f1) = false := by rw [bne_eq_false_iff_eq]
        have e2 : (f2 != f2) = false := by rw [bne_eq_false_iff_eq]
        have e3 : (f3 != f3) = false := by rw [bne_eq_false_iff_eq]
        have e4 : (n1 != n1) = false := by rw [bne_eq_false_iff_eq]
        have e5 : (n2 != n2) = false := by rw [bne_eq_false_iff_eq]
        have e6 : ((L : Int) != (L : Int)) = false := by rw [bne_eq_false_iff_eq]
        have e7 : decide (b' < -20) = false := decide_eq_false (by omega)
        have e8 : decide (20 < b') = false := decide_eq_false (by omega)
        clear hp hp2 hl hm g1 s1 hlen h hc1 hL p1 p4 q1 q2 q3 q4 hwf wk hcv hwv
        generalize liftP b' gs = ls at *
        generalize liftP b' ss = us at *
        go_enter Try.func12, Try.ntmps12
        go_wp2_with fail
        refine (HLg.out _ H.out).mono ?_
        rintro e w1 ⟨v1, rfl, i1, b1⟩
        have B1 := Lib.hid b1
        have C1 := Lib.hid (H1.out v1 w1 i1)
        clear i1 b1
        go_wp2_with fail
        refine C1.out.mono ?_
        rintro e w2 ⟨v2, rfl, i2, b2⟩
        have B2 := Lib.hid (below_nx B1.out b2)
        obtain ⟨bl, ol, cl, el, hl2⟩ := HE.out v2 w2 i2
        subst el
        have I2 := Lib.hid i2
        have HLc := Lib.hid hl2
        clear i2 b2 hl2
        go_wp2_with fail
        refine (HLs.out _ (K.out.later B2.out)).mono ?_
        rintro e w3 ⟨v3, rfl, i3, b3⟩
        have B3 := Lib.hid (below_nx B2.out b3)
        have I3 := Lib.hid (I2.out.later b3)
        have HL3 := Lib.hid (fun i hi => cell_later b3 (HLc.out i hi))
        have C3 := Lib.hid (H2.out v3 w3 i3)
        clear i3 b3
        go_wp2_with fail
        refine C3.out.mono ?_
        rintro e w4 ⟨v4, rfl, i4, b4⟩
        have B4 := Lib.hid (below_nx B3.out b4)
        have I4 := Lib.hid (I3.out.later b4)
        have J4 := Lib.hid i4
        have HL4 := Lib.hid (fun i hi => cell_later b4 (HL3.out i hi))
        clear i4 b4
        go_wp2_with fail
        refine (HPr.out _ (H.out.later B4.out) (K.out.later B4.out)).mono ?_
        rintro e w5 ⟨rfl, rfl⟩
        have IA4 := I4
        have IB4 := J4
        go_wp2_with fail
        refine (HLg.out _ (H.out.later B4.out)).mono ?_
        rintro e w5 ⟨v5, rfl, i, b⟩
        have B5 := Lib.hid (below_nx B4.out b)
        have IA5 := Lib.hid (IA4.out.later b)
        have IB5 := Lib.hid (IB4.out.later b)
        have X5 := Lib.hid i
        clear i
        clear b
        go_wp2_with fail
        refine (HLs.out _ (K.out.later B5.out)).mono ?_
        rintro e w6 ⟨v6, rfl, i, b⟩
        have B6 := Lib.hid (below_nx B5.out b)
        have IA6 := Lib.hid (IA5.out.later b)
        have IB6 := Lib.hid (IB5.out.later b)
        have X6 := Lib.hid (X5.out.later b)
        have Y6 := Lib.hid i
        clear i
        clear b
        go_wp2_with fail
        refine (HC.out v5 v6 w6 X6.out Y6.out).mono ?_
        rintro e w7 ⟨rfl, b⟩
        have B7 := Lib.hid (below_nx B6.out b)
        have IA7 := Lib.hid (IA6.out.later b)
        have IB7 := Lib.hid (IB6.out.later b)
        clear b
        go_wp2_with fail
        refine (HCl1.out _ _ IA7.out).mono ?_
        rintro e w8 ⟨v8, rfl, i, b⟩
        have B8 := Lib.hid (below_nx B7.out b)
        have IA8 := Lib.hid (IA7.out.later b)
        have IB8 := Lib.hid (IB7.out.later b)
        have X8 := Lib.hid i
        clear i
        clear b
        go_wp2_with fail
        refine (HCl2.out _ _ IB8.out).mono ?_
        rintro e w9 ⟨v9, rfl, i, b⟩
        have B9 := Lib.hid (below_nx B8.out b)
        have IA9 := Lib.hid (IA8.out.later b)
        have IB9 := Lib.hid (IB8.out.later b)
        have X9 := Lib.hid (X8.out.later b)
        have Y9 := Lib.hid i
        clear i
        clear b
        go_wp2_with fail
        refine (HC2.out v8 v9 w9 X9.out Y9.out).mono ?_
        rintro e w10 ⟨rfl, b⟩
        have B10 := Lib.hid (below_nx B9.out b)
        have IA10 := Lib.hid (IA9.out.later b)
        have IB10 := Lib.hid (IB9.out.later b)
        clear b
        go_wp2_with fail
        refine (HLg.out _ (H.out.later B10.out)).mono ?_
        rintro e w11 ⟨v11, rfl, i, b⟩
        have B11 := Lib.hid (below_nx B10.out b)
        have IA11 := Lib.hid (IA10.out.later b)
        have IB11 := Lib.hid (IB10.out.later b)
        have X11 := Lib.hid i
        clear i
        clear b
        go_wp2_with fail
        refine (HLs.out _ (K.out.later B11.out)).mono ?_
        rintro e w12 ⟨v12, rfl, i, b⟩
        have B12 := Lib.hid (below_nx B11.out b)
        have IA12 := Lib.hid (IA11.out.later b)
        have IB12 := Lib.hid (IB11.out.later b)
        have X12 := Lib.hid (X11.out.later b)
        have Y12 := Lib.hid i
        clear i
        clear b
        go_wp2_with fail
        refine (HW.out v11 v12 w12 X12.out Y12.out).mono ?_
        rintro e w13 ⟨rfl, b⟩
        have B13 := Lib.hid (below_nx B12.out b)
        have IA13 := Lib.hid (IA12.out.later b)
        have IB13 := Lib.hid (IB12.out.later b)
        clear b
        go_wp2_with fail
        refine (HCl1.out _ _ IA13.out).mono ?_
        rintro e w14 ⟨v14, rfl, i, b⟩
        have B14 := Lib.hid (below_nx B13.out b)
        have IA14 := Lib.hid (IA13.out.later b)
        have IB14 := Lib.hid (IB13.out.later b)
        have X14 := Lib.hid i
        clear i
        clear b
        go_wp2_with fail
        refine (HCl2.out _ _ IB14.out).mono ?_
        rintro e w15 ⟨v15, rfl, i, b⟩
        have B15 := Lib.hid (below_nx B14.out b)
        have IA15 := Lib.hid (IA14.out.later b)
        have IB15 := Lib.hid (IB14.out.later b)
        have X15 := Lib.hid (X14.out.later b)
        have Y15 := Lib.hid i
        clear i
        clear b
        go_wp2_with fail
        refine (HW2.out v14 v15 w15 X15.out Y15.out).mono ?_
        rintro e w16 ⟨rfl, b⟩
        have B16 := Lib.hid (below_nx B15.out b)
        have IA16 := Lib.hid (IA15.out.later b)
        have IB16 := Lib.hid (IB15.out.later b)
        clear b
        obtain ⟨bb, ob, cb, eb, hbl⟩ := HE.out _ _ IA16.out
        cases eb
        have HLn := Lib.hid hbl
        clear hbl
        go_wp2_with fail
        go_loopw [136] (fun t wr => ∃ j d : Nat, j ≤ L ∧ t = .int .i64 j ∧ wr = w16.drewN d) (fun t _ => L - (intOf t).toNat)
        case atStart => exact ⟨0, 0, Nat.zero_le _, rfl, rfl⟩
        case round =>
          obtain ⟨j, d, hj, rfl, rfl⟩ := hrel
          by_cases hlt : j < L
          · have a1 : (w16.drewN d).cell? ⟨bl, ol + j, none⟩ = some (.int .i64 (nAt ls j)) := HLn.out j hlt
            have a3 : (w16.drewN d).cell? ⟨ba, oa + j, none⟩ = some (.int .i64 (nAt gs j)) := cell_later (below_drewN B16.out d) (HC1.out j hlt)
            have hn := HNx.out j hlt
            rw [hn.2] at a1
            generalize nAt gs j = x at *
            obtain ⟨⟨n1', n2'⟩, n3'⟩ := hn
            have q1 : ((x + b' - x) != b') = false := by rw [bne_eq_false_iff_eq]; omega
            clear n3'
            obtain ⟨wj, hwj⟩ : ∃ wj, w16.drewN d = wj := ⟨_, rfl⟩
            rw [hwj] at a1 a3 ⊢
            have HWJ := Lib.hid hwj
            clear hwj
            go_wp2
            go_quiet (fail)
            go_wp2
            go_roundw
            case rel => exact ⟨j + 1, d + nq, by omega, by go_num, by rw [← HWJ.out]; first | rfl | simp only [World.drewN_drewN]⟩
            case measure => simp only [intOf]; omega
          · have BD := Lib.hid (below_drewN B16.out d)
            have ID := Lib.hid (IA16.out.later (below_drewN (Below.refl w16.heap.size w16) d))
            generalize w16.drewN d = wd at *
            go_wp2_with fail
            refine (HBk.out _ _ ID.out).mono ?_
            rintro e w17 ⟨v17, rfl, i17, b17⟩
            have B17 := Lib.hid (below_nx BD.out b17)
            have Q17 := Lib.hid (HQ.out v17 _ w17 i17 (H.out.later B17.out))
            clear i17 b17
            go_wp2_with fail
            refine Q17.out.mono ?_
            rintro e w18 ⟨rfl, q, rfl⟩
            obtain ⟨w19, hw19⟩ : ∃ W, w17.drewN q = W := ⟨_, rfl⟩
            have B19 := Lib.hid (show Below w.heap.size w w19 by rw [← hw19]; exact below_drewN B17.out q)
            rw [hw19]
            clear hw19
            go_wp2_with fail
            refine (HAw.out _).mono ?_
            rintro e w20 ⟨rfl, b20⟩
            go_wp2
            go_ret
            exact ⟨rfl, below_nx B19.out b20⟩
    · clear hl hm p1 p2 p3 p4 hwf wk
      have H2 := Lib.hid h2
      clear h2
      obtain ⟨ao, cap, hv, -⟩ := h
      obtain ⟨bo, cap', hu, -⟩ := k
      subst hv hu
      rcases hc with rfl | rfl
      all_goals
        go_enter Try.func12, Try.ntmps12
        go_wp2_with fail
        refine (HLg.out _ H.out).mono ?_
        rintro e w1 ⟨v1, rfl, i1, b1⟩
        have B1 := Lib.hid b1
        have C1 := Lib.hid (H1.out v1 w1 i1)
        clear i1 b1
        go_wp2_with fail
        refine C1.out.mono ?_
        rintro e w2 ⟨v2, rfl, i2, b2⟩
        have B2 := Lib.hid (below_nx B1.out b2)
        clear i2 b2
        go_wp2_with fail
        refine (HLs.out _ (K.out.later B2.out)).mono ?_
        rintro e w3 ⟨v3, rfl, i3, b3⟩
        have B3 := Lib.hid (below_nx B2.out b3)
        have C3 := Lib.hid (H2.out v3 w3 i3)
        clear i3 b3
        go_wp2_with fail
        refine C3.out.mono ?_
        rintro e w4 ⟨rfl, b4⟩
        have B4 := Lib.hid (below_nx B3.out b4)
        clear b4
        go_wp2_with fail
        refine (HAw.out _).mono ?_
        rintro e w6 ⟨rfl, b6⟩
        go_wp2
        go_ret
        exact ⟨rfl, below_nx B4.out b6⟩
  · clear hl hm hwf wk
    have H1 := Lib.hid h1
    have H2 := Lib.hid hDs
    clear h1 hDs
    obtain ⟨ao, cap, hv, -⟩ := h
    obtain ⟨bo, cap', hu, -⟩ := k
    subst hv hu
    rcases hc with rfl | rfl
    all_goals
      go_enter Try.func12, Try.ntmps12
      go_wp2_with fail
      refine (HLg.out _ H.out).mono ?_
      rintro e w1 ⟨v1, rfl, i1, b1⟩
      have B1 := Lib.hid b1
      have C1 := Lib.hid (H1.out v1 w1 i1)
      clear i1 b1
      go_wp2_with fail
      refine C1.out.mono ?_
      rintro e w2 ⟨rfl, b2⟩
      have B2 := Lib.hid (below_nx B1.out b2)
      clear b2
      go_wp2_with fail
      refine (HLs.out _ (K.out.later B2.out)).mono ?_
      rintro e w3 ⟨v3, rfl, i3, b3⟩
      have B3 := Lib.hid (below_nx B2.out b3)
      have C3 := Lib.hid (H2.out v3 w3 i3)
      clear i3 b3
      go_wp2_with fail
      refine C3.out.mono ?_
      rintro e w4 ⟨v4, d4, rfl, b4⟩
      have B4 := Lib.hid (below_nx B3.out b4)
      clear b4
      go_wp2_with fail
      refine (HAw.out _).mono ?_
      rintro e w6 ⟨rfl, b6⟩
      go_wp2
      go_ret
      exact ⟨rfl, below_nx B4.out b6⟩
end Go.Proofs.Ytbghfhladigeiaa
