/-
  The statement on the best second part.
-/
import Derived.Test.YtlmfmfbnbbooaaaDuRightMath
namespace Go.Proofs.Ytlmfmfbnbbooaaa
open Go.ChangeShapes Go.WideShapes Go.ChangeAt Go.RowKit
set_option maxRecDepth 100000

theorem worthV_kept {gs ss : List Int} (h : keptB gs ss = true) : worthV gs ss = .tuple #[.int .i64 (worthW gs ss), .int .i64 0] := by
  unfold worthV worthW; rw [h]; rfl
theorem worthV_not {gs ss : List Int} (h : keptB gs ss = false) : worthV gs ss = .tuple #[.int .i64 0, .int .i64 4] := by
  unfold worthV; rw [h]; rfl
theorem best_some {gs b : List Int} (hg : dpartB gs = true) (hb : bestF gs (rightL gs) = some b) : b ∈ rightL gs ∧ pairB gs b = true ∧ keptB gs b = true := by
  have h := (best_all gs _ (rightL gs) rfl (right_sorted gs) b hb).1
  exact ⟨h, (right_pair hg).1 h⟩
theorem best_ge {gs b x : List Int} (hb : bestF gs (rightL gs) = some b) (hx : x ∈ rightL gs) : worthW gs x ≤ worthW gs b := (best_all gs _ (rightL gs) rfl (right_sorted gs) b hb).2.1 x hx
theorem best_first {gs b x : List Int} (hb : bestF gs (rightL gs) = some b) (hx : x ∈ rightL gs) (he : worthW gs x = worthW gs b) : compL b x ≤ 0 := (best_all gs _ (rightL gs) rfl (right_sorted gs) b hb).2.2 x hx he

set_option maxHeartbeats 4000000 in
theorem DuetsWorth_walk (gs ss : List Int) (g s : Value) (w : World) (hl : gs.length ≤ maxLen) (h : IntsV w g gs) (hm : ss.length ≤ maxLen) (k : IntsV w s ss) :
    Calls Try.prog 15 #[g, s] w fun e w' => e = .returned (.bool true) ∧ Below w.heap.size w w' := by
  have HAw := Lib.hid (fun W => dawake_any W)
  have HLg := Lib.hid (fun W hW => dlist_any gs g W hl hW)
  have HLs := Lib.hid (fun W hW => dlist_any ss s W hm hW)
  have HPr := Lib.hid (fun W a => RPartD_any gs g W hl a)
  have H := Lib.hid h
  have K := Lib.hid k
  cases hg : dpartB gs
  · have HB := Lib.hid (fun a W ha => Best_bad (gs.take 11) a W take11 (by rw [dpart_take]; exact hg) ha)
    rw [hg] at HPr
    obtain ⟨ao, cap, hv, _⟩ := h
    obtain ⟨bo, cap', hu, _⟩ := k
    subst hv hu
    clear hg hl hm
    go_enter Try.func15, Try.ntmps15
    go_wp2_with fail
    refine (HLg.out _ H.out).mono ?_
    rintro e u1 ⟨v1, rfl, i1, b1⟩
    have G_1 := Lib.hid i1
    have B1 := Lib.hid (b1)
    clear b1 i1
    go_wp2_with fail
    refine (HB.out _ _ G_1.out).mono ?_
    rintro e u2 ⟨rfl, b2⟩
    have G_2 := Lib.hid (G_1.out.later b2)
    have B2 := Lib.hid (below_nx B1.out b2)
    clear b2
    go_wp2_with fail
    refine (HAw.out _).mono ?_
    rintro e uz ⟨rfl, bz⟩
    go_wp2
    go_ret
    exact ⟨rfl, below_nx B2.out bz⟩
  · have g1 := dpart_len hg
    rw [hg] at HPr
    rw [dtake hg] at HLg
    cases hb : bestF gs (rightL gs) with
    | none =>
      have HB := Lib.hid (fun a W ha => (Best_any gs a W hg ha).mono (fun e w' h => show e = .returned (.tuple #[.slice none 0 0, .int .i64 4]) ∧ Below W.heap.size W w' from by
        obtain ⟨v, c, e1, h1, h2⟩ := h
        rcases h1 with ⟨_, rfl, rfl⟩ | ⟨x, hx, _⟩
        · exact ⟨e1, h2⟩
        · rw [hb] at hx; cases hx))
      obtain ⟨ao, cap, hv, _⟩ := h
      obtain ⟨bo, cap', hu, _⟩ := k
      subst hv hu
      clear hg hl hm hb g1
      go_enter Try.func15, Try.ntmps15
      go_wp2_with fail
      refine (HLg.out _ H.out).mono ?_
      rintro e u1 ⟨v1, rfl, i1, b1⟩
      have G_1 := Lib.hid i1
      have B1 := Lib.hid (b1)
      clear b1 i1
      go_wp2_with fail
      refine (HB.out _ _ G_1.out).mono ?_
      rintro e u2 ⟨rfl, b2⟩
      have G_2 := Lib.hid (G_1.out.later b2)
      have B2 := Lib.hid (below_nx B1.out b2)
      clear b2
      go_wp2_with fail
      refine (HAw.out _).mono ?_
      rintro e uz ⟨rfl, bz⟩
      go_wp2
      go_ret
      exact ⟨rfl, below_nx B2.out bz⟩
    | some b =>
      obtain ⟨hbm, hbp, hbk⟩ := best_some hg hb
      have hb8 := (dpart_len (pair_parts hbp).2.1)
      obtain ⟨l0, rest, hr0⟩ : ∃ l0 rest, rightL gs = l0 :: rest := by
        cases e : rightL gs with
        | nil => rw [e] at hbm; cases hbm
        | cons a r => exact ⟨a, r, rfl⟩
      have hlm : l0 ∈ rightL gs := by rw [hr0]; simp
      obtain ⟨hlp, hlk⟩ := (right_pair hg).1 hlm
      have HB := Lib.hid (fun a W ha => (Best_any gs a W hg ha).mono (fun e w' h => show ∃ v, e = .returned (.tuple #[v, .int .i64 0]) ∧ IntsV w' v b ∧ Below W.heap.size W w' from by
        obtain ⟨v, c, e1, h1, h2⟩ := h
        rcases h1 with ⟨hx, _⟩ | ⟨x, hx, h3, rfl⟩
        · rw [hb] at hx; cases hx
        · rw [hb] at hx; cases hx; exact ⟨v, e1, h3, h2⟩))
      have HF := Lib.hid (fun a W ha => First_ok gs l0 rest a W hg hr0 ha)
      have HCl := Lib.hid (fun a W ha => Clone_any b a W (by omega) ha)
      have HWb := Lib.hid (fun a c W ha hc => Worth_ok gs b a c W hbp ha hc)
      have HWl := Lib.hid (fun a c W ha hc => Worth_ok gs l0 a c W hlp ha hc)
      rw [worthV_kept hbk] at HWb
      rw [worthV_kept hlk] at HWl
      have hge := best_ge hb hlm
      have d1 : decide (worthW gs b < worthW gs l0) = false := decide_eq_false (by omega)
      clear hbm hbp hbk hr0 hlm hlp hlk
      cases hp : pairB gs ss
      · have HWs := Lib.hid (fun a c W ha hc => Worth_bad gs (ss.take 11) a c W hl take11 (by have h9 := pair_take gs ss; rw [dtake hg] at h9; rw [h9]; exact hp) ha hc)
        obtain ⟨ao, cap, hv, _⟩ := h
        obtain ⟨bo, cap', hu, _⟩ := k
        subst hv hu
        clear hg hl hm hb g1 hp hb8 hge
        generalize worthW gs b = n at *
        generalize worthW gs l0 = m at *
        go_enter Try.func15, Try.ntmps15
        go_wp2_with fail
        refine (HLg.out _ H.out).mono ?_
        rintro e u1 ⟨v1, rfl, i1, b1⟩
        have G_1 := Lib.hid i1
        have B1 := Lib.hid (b1)
        clear b1 i1
        go_wp2_with fail
        refine (HB.out _ _ G_1.out).mono ?_
        rintro e u2 ⟨v2, rfl, i2, b2⟩
        have G_2 := Lib.hid (G_1.out.later b2)
        have X_2 := Lib.hid i2
        have B2 := Lib.hid (below_nx B1.out b2)
        clear b2 i2
        go_wp2_with fail
        refine (HPr.out _ (H.out.later B2.out)).mono ?_
        rintro e u3 ⟨rfl, rfl⟩
        go_wp2_with fail
        refine (HLg.out _ (H.out.later B2.out)).mono ?_
        rintro e u4 ⟨v4, rfl, i4, b4⟩
        have X_4 := Lib.hid (X_2.out.later b4)
        have G_4 := Lib.hid i4
        have B4 := Lib.hid (below_nx B2.out b4)
        clear b4 i4
        go_wp2_with fail
        refine (HF.out _ _ G_4.out).mono ?_
        rintro e u5 ⟨v5, rfl, i5, b5⟩
        have X_5 := Lib.hid (X_4.out.later b5)
        have G_5 := Lib.hid (G_4.out.later b5)
        have Y_5 := Lib.hid i5
        have B5 := Lib.hid (below_nx B4.out b5)
        clear b5 i5
        go_wp2_with fail
        refine (HLg.out _ (H.out.later B5.out)).mono ?_
        rintro e u6 ⟨v6, rfl, i6, b6⟩
        have X_6 := Lib.hid (X_5.out.later b6)
        have Y_6 := Lib.hid (Y_5.out.later b6)
        have G_6 := Lib.hid i6
        have B6 := Lib.hid (below_nx B5.out b6)
        clear b6 i6
        go_wp2_with fail
        refine (HCl.out _ _ X_6.out).mono ?_
        rintro e u7 ⟨v7, rfl, i7, b7⟩
        have X_7 := Lib.hid (X_6.out.later b7)
        have Y_7 := Lib.hid (Y_6.out.later b7)
        have G_7 := Lib.hid (G_6.out.later b7)
        have Z_7 := Lib.hid i7
        have B7 := Lib.hid (below_nx B6.out b7)
        clear b7 i7
        go_wp2_with fail
        refine (HWb.out _ _ _ G_7.out Z_7.out).mono ?_
        rintro e u8 ⟨rfl, b8⟩
        have X_8 := Lib.hid (X_7.out.later b8)
        have Y_8 := Lib.hid (Y_7.out.later b8)
        have G_8 := Lib.hid (G_7.out.later b8)
        have Z_8 := Lib.hid (Z_7.out.later b8)
        have B8 := Lib.hid (below_nx B7.out b8)
        clear b8
        go_wp2_with fail
        refine (HLg.out _ (H.out.later B8.out)).mono ?_
        rintro e u9 ⟨v9, rfl, i9, b9⟩
        have X_9 := Lib.hid (X_8.out.later b9)
        have Y_9 := Lib.hid (Y_8.out.later b9)
        have G_9 := Lib.hid i9
        have B9 := Lib.hid (below_nx B8.out b9)
        clear b9 i9
        go_wp2_with fail
        refine (HWl.out _ _ _ G_9.out Y_9.out).mono ?_
        rintro e u10 ⟨rfl, b10⟩
        have X_10 := Lib.hid (X_9.out.later b10)
        have Y_10 := Lib.hid (Y_9.out.later b10)
        have G_10 := Lib.hid (G_9.out.later b10)
        have B10 := Lib.hid (below_nx B9.out b10)
        clear b10
        go_wp2_with fail
        refine (HLg.out _ (H.out.later B10.out)).mono ?_
        rintro e u11 ⟨v11, rfl, i11, b11⟩
        have X_11 := Lib.hid (X_10.out.later b11)
        have G_11 := Lib.hid i11
        have B11 := Lib.hid (below_nx B10.out b11)
        clear b11 i11
        go_wp2_with fail
        refine (HLs.out _ (K.out.later B11.out)).mono ?_
        rintro e u12 ⟨v12, rfl, i12, b12⟩
        have X_12 := Lib.hid (X_11.out.later b12)
        have G_12 := Lib.hid (G_11.out.later b12)
        have S_12 := Lib.hid i12
        have B12 := Lib.hid (below_nx B11.out b12)
        clear b12 i12
        have HX := Lib.hid (HWs.out _ _ _ G_12.out S_12.out)
        go_wp2_with fail
        refine HX.out.mono ?_
        rintro e uy ⟨rfl, rfl⟩
        go_wp2_with fail
        refine (HAw.out _).mono ?_
        rintro e uz ⟨rfl, bz⟩
        go_wp2
        go_ret
        exact ⟨rfl, below_nx B12.out bz⟩
      · have s1 := dpart_len (pair_parts hp).2.1
        rw [dtake (pair_parts hp).2.1] at HLs
        have HWs := Lib.hid (fun a c W ha hc => Worth_ok gs ss a c W hp ha hc)
        cases hk : keptB gs ss
        · rw [worthV_not hk] at HWs
          obtain ⟨ao, cap, hv, _⟩ := h
          obtain ⟨bo, cap', hu, _⟩ := k
          subst hv hu
          clear hg hl hm hb g1 hp hb8 hge hk s1
          generalize worthW gs b = n at *
          generalize worthW gs l0 = m at *
          go_enter Try.func15, Try.ntmps15
          go_wp2_with fail
          refine (HLg.out _ H.out).mono ?_
          rintro e u1 ⟨v1, rfl, i1, b1⟩
          have G_1 := Lib.hid i1
          have B1 := Lib.hid (b1)
          clear b1 i1
          go_wp2_with fail
          refine (HB.out _ _ G_1.out).mono ?_
          rintro e u2 ⟨v2, rfl, i2, b2⟩
          have G_2 := Lib.hid (G_1.out.later b2)
          have X_2 := Lib.hid i2
          have B2 := Lib.hid (below_nx B1.out b2)
          clear b2 i2
          go_wp2_with fail
          refine (HPr.out _ (H.out.later B2.out)).mono ?_
          rintro e u3 ⟨rfl, rfl⟩
          go_wp2_with fail
          refine (HLg.out _ (H.out.later B2.out)).mono ?_
          rintro e u4 ⟨v4, rfl, i4, b4⟩
          have X_4 := Lib.hid (X_2.out.later b4)
          have G_4 := Lib.hid i4
          have B4 := Lib.hid (below_nx B2.out b4)
          clear b4 i4
          go_wp2_with fail
          refine (HF.out _ _ G_4.out).mono ?_
          rintro e u5 ⟨v5, rfl, i5, b5⟩
          have X_5 := Lib.hid (X_4.out.later b5)
          have G_5 := Lib.hid (G_4.out.later b5)
          have Y_5 := Lib.hid i5
          have B5 := Lib.hid (below_nx B4.out b5)
          clear b5 i5
          go_wp2_with fail
          refine (HLg.out _ (H.out.later B5.out)).mono ?_
          rintro e u6 ⟨v6, rfl, i6, b6⟩
          have X_6 := Lib.hid (X_5.out.later b6)
          have Y_6 := Lib.hid (Y_5.out.later b6)
          have G_6 := Lib.hid i6
          have B6 := Lib.hid (below_nx B5.out b6)
          clear b6 i6
          go_wp2_with fail
          refine (HCl.out _ _ X_6.out).mono ?_
          rintro e u7 ⟨v7, rfl, i7, b7⟩
          have X_7 := Lib.hid (X_6.out.later b7)
          have Y_7 := Lib.hid (Y_6.out.later b7)
          have G_7 := Lib.hid (G_6.out.later b7)
          have Z_7 := Lib.hid i7
          have B7 := Lib.hid (below_nx B6.out b7)
          clear b7 i7
          go_wp2_with fail
          refine (HWb.out _ _ _ G_7.out Z_7.out).mono ?_
          rintro e u8 ⟨rfl, b8⟩
          have X_8 := Lib.hid (X_7.out.later b8)
          have Y_8 := Lib.hid (Y_7.out.later b8)
          have G_8 := Lib.hid (G_7.out.later b8)
          have Z_8 := Lib.hid (Z_7.out.later b8)
          have B8 := Lib.hid (below_nx B7.out b8)
          clear b8
          go_wp2_with fail
          refine (HLg.out _ (H.out.later B8.out)).mono ?_
          rintro e u9 ⟨v9, rfl, i9, b9⟩
          have X_9 := Lib.hid (X_8.out.later b9)
          have Y_9 := Lib.hid (Y_8.out.later b9)
          have G_9 := Lib.hid i9
          have B9 := Lib.hid (below_nx B8.out b9)
          clear b9 i9
          go_wp2_with fail
          refine (HWl.out _ _ _ G_9.out Y_9.out).mono ?_
          rintro e u10 ⟨rfl, b10⟩
          have X_10 := Lib.hid (X_9.out.later b10)
          have Y_10 := Lib.hid (Y_9.out.later b10)
          have G_10 := Lib.hid (G_9.out.later b10)
          have B10 := Lib.hid (below_nx B9.out b10)
          clear b10
          go_wp2_with fail
          refine (HLg.out _ (H.out.later B10.out)).mono ?_
          rintro e u11 ⟨v11, rfl, i11, b11⟩
          have X_11 := Lib.hid (X_10.out.later b11)
          have G_11 := Lib.hid i11
          have B11 := Lib.hid (below_nx B10.out b11)
          clear b11 i11
          go_wp2_with fail
          refine (HLs.out _ (K.out.later B11.out)).mono ?_
          rintro e u12 ⟨v12, rfl, i12, b12⟩
          have X_12 := Lib.hid (X_11.out.later b12)
          have G_12 := Lib.hid (G_11.out.later b12)
          have S_12 := Lib.hid i12
          have B12 := Lib.hid (below_nx B11.out b12)
          clear b12 i12
          go_wp2_with fail
          refine (HWs.out _ _ _ G_12.out S_12.out).mono ?_
          rintro e u13 ⟨rfl, b13⟩
          have X_13 := Lib.hid (X_12.out.later b13)
          have G_13 := Lib.hid (G_12.out.later b13)
          have S_13 := Lib.hid (S_12.out.later b13)
          have B13 := Lib.hid (below_nx B12.out b13)
          clear b13
          go_wp2_with fail
          refine (HAw.out _).mono ?_
          rintro e uz ⟨rfl, bz⟩
          go_wp2
          go_ret
          exact ⟨rfl, below_nx B13.out bz⟩
        · rw [worthV_kept hk] at HWs
          have hsm := (right_pair hg).2 ⟨hp, hk⟩
          have hgs := best_ge hb hsm
          by_cases he : worthW gs ss = worthW gs b
          · have hcl := best_first hb hsm he
            have HCm := Lib.hid (fun a c W ha hc => Compare_any b ss a c W (by unfold maxLen; omega) hm ha hc)
            rw [he] at HWs
            obtain ⟨ao, cap, hv, _⟩ := h
            obtain ⟨bo, cap', hu, _⟩ := k
            subst hv hu
            clear hg hl hm g1 hp hb8 hge hk s1 hsm hb
            generalize worthW gs b = n at *
            generalize worthW gs l0 = m at *
            generalize compL b ss = cc at *
            have d2 : decide (cc ≤ 0) = true := decide_eq_true hcl
            have d3 : decide (n ≤ n) = true := decide_eq_true (Int.le_refl n)
            have d4 : decide (n < n) = false := decide_eq_false (Int.lt_irrefl n)
            go_enter Try.func15, Try.ntmps15
            go_wp2_with fail
            refine (HLg.out _ H.out).mono ?_
            rintro e u1 ⟨v1, rfl, i1, b1⟩
            have G_1 := Lib.hid i1
            have B1 := Lib.hid (b1)
            clear b1 i1
            go_wp2_with fail
            refine (HB.out _ _ G_1.out).mono ?_
            rintro e u2 ⟨v2, rfl, i2, b2⟩
            have G_2 := Lib.hid (G_1.out.later b2)
            have X_2 := Lib.hid i2
            have B2 := Lib.hid (below_nx B1.out b2)
            clear b2 i2
            go_wp2_with fail
            refine (HPr.out _ (H.out.later B2.out)).mono ?_
            rintro e u3 ⟨rfl, rfl⟩
            go_wp2_with fail
            refine (HLg.out _ (H.out.later B2.out)).mono ?_
            rintro e u4 ⟨v4, rfl, i4, b4⟩
            have X_4 := Lib.hid (X_2.out.later b4)
            have G_4 := Lib.hid i4
            have B4 := Lib.hid (below_nx B2.out b4)
            clear b4 i4
            go_wp2_with fail
            refine (HF.out _ _ G_4.out).mono ?_
            rintro e u5 ⟨v5, rfl, i5, b5⟩
            have X_5 := Lib.hid (X_4.out.later b5)
            have G_5 := Lib.hid (G_4.out.later b5)
            have Y_5 := Lib.hid i5
            have B5 := Lib.hid (below_nx B4.out b5)
            clear b5 i5
            go_wp2_with fail
            refine (HLg.out _ (H.out.later B5.out)).mono ?_
            rintro e u6 ⟨v6, rfl, i6, b6⟩
            have X_6 := Lib.hid (X_5.out.later b6)
            have Y_6 := Lib.hid (Y_5.out.later b6)
            have G_6 := Lib.hid i6
            have B6 := Lib.hid (below_nx B5.out b6)
            clear b6 i6
            go_wp2_with fail
            refine (HCl.out _ _ X_6.out).mono ?_
            rintro e u7 ⟨v7, rfl, i7, b7⟩
            have X_7 := Lib.hid (X_6.out.later b7)
            have Y_7 := Lib.hid (Y_6.out.later b7)
            have G_7 := Lib.hid (G_6.out.later b7)
            have Z_7 := Lib.hid i7
            have B7 := Lib.hid (below_nx B6.out b7)
            clear b7 i7
            go_wp2_with fail
            refine (HWb.out _ _ _ G_7.out Z_7.out).mono ?_
            rintro e u8 ⟨rfl, b8⟩
            have X_8 := Lib.hid (X_7.out.later b8)
            have Y_8 := Lib.hid (Y_7.out.later b8)
            have G_8 := Lib.hid (G_7.out.later b8)
            have Z_8 := Lib.hid (Z_7.out.later b8)
            have B8 := Lib.hid (below_nx B7.out b8)
            clear b8
            go_wp2_with fail
            refine (HLg.out _ (H.out.later B8.out)).mono ?_
            rintro e u9 ⟨v9, rfl, i9, b9⟩
            have X_9 := Lib.hid (X_8.out.later b9)
            have Y_9 := Lib.hid (Y_8.out.later b9)
            have G_9 := Lib.hid i9
            have B9 := Lib.hid (below_nx B8.out b9)
            clear b9 i9
            go_wp2_with fail
            refine (HWl.out _ _ _ G_9.out Y_9.out).mono ?_
            rintro e u10 ⟨rfl, b10⟩
            have X_10 := Lib.hid (X_9.out.later b10)
            have Y_10 := Lib.hid (Y_9.out.later b10)
            have G_10 := Lib.hid (G_9.out.later b10)
            have B10 := Lib.hid (below_nx B9.out b10)
            clear b10
            go_wp2_with fail
            refine (HLg.out _ (H.out.later B10.out)).mono ?_
            rintro e u11 ⟨v11, rfl, i11, b11⟩
            have X_11 := Lib.hid (X_10.out.later b11)
            have G_11 := Lib.hid i11
            have B11 := Lib.hid (below_nx B10.out b11)
            clear b11 i11
            go_wp2_with fail
            refine (HLs.out _ (K.out.later B11.out)).mono ?_
            rintro e u12 ⟨v12, rfl, i12, b12⟩
            have X_12 := Lib.hid (X_11.out.later b12)
            have G_12 := Lib.hid (G_11.out.later b12)
            have S_12 := Lib.hid i12
            have B12 := Lib.hid (below_nx B11.out b12)
            clear b12 i12
            go_wp2_with fail
            refine (HWs.out _ _ _ G_12.out S_12.out).mono ?_
            rintro e u13 ⟨rfl, b13⟩
            have X_13 := Lib.hid (X_12.out.later b13)
            have G_13 := Lib.hid (G_12.out.later b13)
            have S_13 := Lib.hid (S_12.out.later b13)
            have B13 := Lib.hid (below_nx B12.out b13)
            clear b13
            go_wp2_with fail
            refine (HCm.out _ _ _ X_13.out (K.out.later B13.out)).mono ?_
            rintro e u14 ⟨rfl, rfl⟩
            go_wp2_with fail
            refine (HAw.out _).mono ?_
            rintro e uz ⟨rfl, bz⟩
            go_wp2
            go_ret
            exact ⟨rfl, below_nx B13.out bz⟩
          · obtain ⟨ao, cap, hv, _⟩ := h
            obtain ⟨bo, cap', hu, _⟩ := k
            subst hv hu
            clear hg hl hm g1 hp hb8 hge hk s1 hsm hb
            generalize worthW gs b = n at *
            generalize worthW gs l0 = m at *
            generalize worthW gs ss = kk at *
            have d2 : decide (kk ≤ n) = true := decide_eq_true hgs
            have d3 : decide (kk < n) = true := decide_eq_true (by omega)
            go_enter Try.func15, Try.ntmps15
            go_wp2_with fail
            refine (HLg.out _ H.out).mono ?_
            rintro e u1 ⟨v1, rfl, i1, b1⟩
            have G_1 := Lib.hid i1
            have B1 := Lib.hid (b1)
            clear b1 i1
            go_wp2_with fail
            refine (HB.out _ _ G_1.out).mono ?_
            rintro e u2 ⟨v2, rfl, i2, b2⟩
            have G_2 := Lib.hid (G_1.out.later b2)
            have X_2 := Lib.hid i2
            have B2 := Lib.hid (below_nx B1.out b2)
            clear b2 i2
            go_wp2_with fail
            refine (HPr.out _ (H.out.later B2.out)).mono ?_
            rintro e u3 ⟨rfl, rfl⟩
            go_wp2_with fail
            refine (HLg.out _ (H.out.later B2.out)).mono ?_
            rintro e u4 ⟨v4, rfl, i4, b4⟩
            have X_4 := Lib.hid (X_2.out.later b4)
            have G_4 := Lib.hid i4
            have B4 := Lib.hid (below_nx B2.out b4)
            clear b4 i4
            go_wp2_with fail
            refine (HF.out _ _ G_4.out).mono ?_
            rintro e u5 ⟨v5, rfl, i5, b5⟩
            have X_5 := Lib.hid (X_4.out.later b5)
            have G_5 := Lib.hid (G_4.out.later b5)
            have Y_5 := Lib.hid i5
            have B5 := Lib.hid (below_nx B4.out b5)
            clear b5 i5
            go_wp2_with fail
            refine (HLg.out _ (H.out.later B5.out)).mono ?_
            rintro e u6 ⟨v6, rfl, i6, b6⟩
            have X_6 := Lib.hid (X_5.out.later b6)
            have Y_6 := Lib.hid (Y_5.out.later b6)
            have G_6 := Lib.hid i6
            have B6 := Lib.hid (below_nx B5.out b6)
            clear b6 i6
            go_wp2_with fail
            refine (HCl.out _ _ X_6.out).mono ?_
            rintro e u7 ⟨v7, rfl, i7, b7⟩
            have X_7 := Lib.hid (X_6.out.later b7)
            have Y_7 := Lib.hid (Y_6.out.later b7)
            have G_7 := Lib.hid (G_6.out.later b7)
            have Z_7 := Lib.hid i7
            have B7 := Lib.hid (below_nx B6.out b7)
            clear b7 i7
            go_wp2_with fail
            refine (HWb.out _ _ _ G_7.out Z_7.out).mono ?_
            rintro e u8 ⟨rfl, b8⟩
            have X_8 := Lib.hid (X_7.out.later b8)
            have Y_8 := Lib.hid (Y_7.out.later b8)
            have G_8 := Lib.hid (G_7.out.later b8)
            have Z_8 := Lib.hid (Z_7.out.later b8)
            have B8 := Lib.hid (below_nx B7.out b8)
            clear b8
            go_wp2_with fail
            refine (HLg.out _ (H.out.later B8.out)).mono ?_
            rintro e u9 ⟨v9, rfl, i9, b9⟩
            have X_9 := Lib.hid (X_8.out.later b9)
            have Y_9 := Lib.hid (Y_8.out.later b9)
            have G_9 := Lib.hid i9
            have B9 := Lib.hid (below_nx B8.out b9)
            clear b9 i9
            go_wp2_with fail
            refine (HWl.out _ _ _ G_9.out Y_9.out).mono ?_
            rintro e u10 ⟨rfl, b10⟩
            have X_10 := Lib.hid (X_9.out.later b10)
            have Y_10 := Lib.hid (Y_9.out.later b10)
            have G_10 := Lib.hid (G_9.out.later b10)
            have B10 := Lib.hid (below_nx B9.out b10)
            clear b10
            go_wp2_with fail
            refine (HLg.out _ (H.out.later B10.out)).mono ?_
            rintro e u11 ⟨v11, rfl, i11, b11⟩
            have X_11 := Lib.hid (X_10.out.later b11)
            have G_11 := Lib.hid i11
            have B11 := Lib.hid (below_nx B10.out b11)
            clear b11 i11
            go_wp2_with fail
            refine (HLs.out _ (K.out.later B11.out)).mono ?_
            rintro e u12 ⟨v12, rfl, i12, b12⟩
            have X_12 := Lib.hid (X_11.out.later b12)
            have G_12 := Lib.hid (G_11.out.later b12)
            have S_12 := Lib.hid i12
            have B12 := Lib.hid (below_nx B11.out b12)
            clear b12 i12
            go_wp2_with fail
            refine (HWs.out _ _ _ G_12.out S_12.out).mono ?_
            rintro e u13 ⟨rfl, b13⟩
            have X_13 := Lib.hid (X_12.out.later b13)
            have G_13 := Lib.hid (G_12.out.later b13)
            have S_13 := Lib.hid (S_12.out.later b13)
            have B13 := Lib.hid (below_nx B12.out b13)
            clear b13
            go_wp2_with fail
            refine (HAw.out _).mono ?_
            rintro e uz ⟨rfl, bz⟩
            go_wp2
            go_ret
            exact ⟨rfl, below_nx B13.out bz⟩
end Go.Proofs.Ytlmfmfbnbbooaaa
