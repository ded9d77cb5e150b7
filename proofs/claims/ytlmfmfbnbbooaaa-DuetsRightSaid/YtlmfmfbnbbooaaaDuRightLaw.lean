/-
  The statement on the first and the best second part.
-/
import Derived.Test.YtlmfmfbnbbooaaaDuWorthLaw
namespace Go.Proofs.Ytlmfmfbnbbooaaa
open Go.ChangeShapes Go.WideShapes Go.ChangeAt Go.RowKit
set_option maxRecDepth 100000

theorem most_lt {gs : List Int} (hr : rightL gs = []) (hg : 1 ≤ gs.length) : mostL (begL gs gs.length []) < gs.length := by
  have key : ∀ l : List (List Int), (∀ m ∈ l, m.length < gs.length) → mostL l < gs.length := fun l => by
    intro h
    unfold mostL
    have gen : ∀ (l : List (List Int)) (a : Nat), a < gs.length → (∀ m ∈ l, m.length < gs.length) → l.foldl (fun m b => max m b.length) a < gs.length := by
      intro l
      induction l with
      | nil => intro a ha _; exact ha
      | cons b l ih => intro a ha hm; exact ih (max a b.length) (by have := hm b (by simp); omega) (fun m hmm => hm m (by simp [hmm]))
    exact gen l 0 (by omega) h
  refine key _ fun m hm => ?_
  obtain ⟨t, e, h1, h2, h3, h4⟩ := (mem_beg gs _ _ _).1 hm
  rw [List.nil_append] at e
  subst e
  rcases (show m.length < gs.length ∨ m.length = gs.length by omega) with h | h
  · exact h
  · have : m ∈ rightL gs := by unfold rightL; exact List.mem_filter.2 ⟨hm, decide_eq_true h⟩
    rw [hr] at this; cases this

set_option maxHeartbeats 1000000 in
theorem right_bad (gs ss : List Int) (g s : Value) (w : World) (hl : gs.length ≤ maxLen) (hm : ss.length ≤ maxLen) (hp : pairB gs ss = false) (h : IntsV w g gs) (k : IntsV w s ss) :
    Calls Try.prog 59 #[g, s] w fun e w' => e = .returned (.bool false) ∧ Below w.heap.size w w' := by
  have HLg := Lib.hid (fun W hW => dlist_any gs g W hl hW)
  have HLs := Lib.hid (fun W hW => dlist_any ss s W hm hW)
  have HC := Lib.hid (fun a b W ha hb => Check_bad (gs.take 11) (ss.take 11) a b W take11 take11 (by rw [pair_take]; exact hp) ha hb)
  have H := Lib.hid h
  have K := Lib.hid k
  obtain ⟨ao, cap, hv, _⟩ := h
  obtain ⟨bo, cap', hu, _⟩ := k
  subst hv hu
  clear hp hl hm
  go_enter Try.func59, Try.ntmps59
  go_wp2_with fail
  refine (HLg.out _ H.out).mono ?_
  rintro e u1 ⟨v1, rfl, i1, b1⟩
  have G_1 := Lib.hid i1
  have B1 := Lib.hid (b1)
  clear b1 i1
  go_wp2_with fail
  refine (HLs.out _ (K.out.later B1.out)).mono ?_
  rintro e u2 ⟨v2, rfl, i2, b2⟩
  have G_2 := Lib.hid (G_1.out.later b2)
  have S_2 := Lib.hid i2
  have B2 := Lib.hid (below_nx B1.out b2)
  clear b2 i2
  go_wp2_with fail
  refine (HC.out _ _ _ G_2.out S_2.out).mono ?_
  rintro e u3 ⟨rfl, rfl⟩
  go_wp2
  go_ret
  exact ⟨rfl, B2.out⟩

set_option maxHeartbeats 4000000 in
theorem DuetsRight_walk (gs ss : List Int) (g s : Value) (w : World) (hl : gs.length ≤ maxLen) (h : IntsV w g gs) (hm : ss.length ≤ maxLen) (k : IntsV w s ss) :
    Calls Try.prog 13 #[g, s] w fun e w' => e = .returned (.bool true) ∧ Below w.heap.size w w' := by
  have HAw := Lib.hid (fun W => dawake_any W)
  have HLg := Lib.hid (fun W hW => dlist_any gs g W hl hW)
  have HLs := Lib.hid (fun W hW => dlist_any ss s W hm hW)
  have HPr := Lib.hid (fun W a => RPartD_any gs g W hl a)
  have H := Lib.hid h
  have K := Lib.hid k
  have HPp := Lib.hid (fun W a b => lpair_any gs ss g s W hl hm a b)
  cases hg : dpartB gs
  · have HB := Lib.hid (fun a W ha => Best_bad (gs.take 11) a W take11 (by rw [dpart_take]; exact hg) ha)
    have HF := Lib.hid (fun a W ha => First_bad (gs.take 11) a W take11 (by rw [dpart_take]; exact hg) ha)
    have HC := Lib.hid (fun a W ha => Count_bad (gs.take 11) a W take11 (by rw [dpart_take]; exact hg) ha)
    have HSt := Lib.hid (fun a W ha => Stuck_bad (gs.take 11) a W take11 (by rw [dpart_take]; exact hg) ha)
    rw [hg] at HPr
    obtain ⟨ao, cap, hv, _⟩ := h
    obtain ⟨bo, cap', hu, _⟩ := k
    subst hv hu
    clear hg hl hm
    go_enter Try.func13, Try.ntmps13
    go_wp2_with fail
    refine (HLg.out _ H.out).mono ?_
    rintro e u1 ⟨v1, rfl, i1, b1⟩
    have G_1 := Lib.hid i1
    have B1 := Lib.hid (b1)
    clear b1 i1
    go_wp2_with fail
    refine (HF.out _ _ G_1.out).mono ?_
    rintro e u2 ⟨rfl, b2⟩
    have G_2 := Lib.hid (G_1.out.later b2)
    have B2 := Lib.hid (below_nx B1.out b2)
    clear b2
    go_wp2_with fail
    refine (HLg.out _ (H.out.later B2.out)).mono ?_
    rintro e u3 ⟨v3, rfl, i3, b3⟩
    have G_3 := Lib.hid i3
    have B3 := Lib.hid (below_nx B2.out b3)
    clear b3 i3
    go_wp2_with fail
    refine (HB.out _ _ G_3.out).mono ?_
    rintro e u4 ⟨rfl, b4⟩
    have G_4 := Lib.hid (G_3.out.later b4)
    have B4 := Lib.hid (below_nx B3.out b4)
    clear b4
    go_wp2_with fail
    refine (HLg.out _ (H.out.later B4.out)).mono ?_
    rintro e u5 ⟨v5, rfl, i5, b5⟩
    have G_5 := Lib.hid i5
    have B5 := Lib.hid (below_nx B4.out b5)
    clear b5 i5
    go_wp2_with fail
    refine (HC.out _ _ G_5.out).mono ?_
    rintro e u6 ⟨rfl, rfl⟩
    go_wp2_with fail
    refine (HLg.out _ (H.out.later B5.out)).mono ?_
    rintro e u7 ⟨v7, rfl, i7, b7⟩
    have G_7 := Lib.hid i7
    have B7 := Lib.hid (below_nx B5.out b7)
    clear b7 i7
    go_wp2_with fail
    refine (HSt.out _ _ G_7.out).mono ?_
    rintro e u8 ⟨rfl, b8⟩
    have G_8 := Lib.hid (G_7.out.later b8)
    have B8 := Lib.hid (below_nx B7.out b8)
    clear b8
    go_wp2_with fail
    refine (HPr.out _ (H.out.later B8.out)).mono ?_
    rintro e u9 ⟨rfl, rfl⟩
    go_wp2_with fail
    refine (HAw.out _).mono ?_
    rintro e uz ⟨rfl, bz⟩
    go_wp2
    go_ret
    exact ⟨rfl, below_nx B8.out bz⟩
  · have g1 := dpart_len hg
    rw [hg] at HPr
    rw [dtake hg] at HLg
    have HC := Lib.hid (fun a W ha => Count_ok gs a W hg ha)
    cases hr : rightL gs with
    | nil =>
      have HB := Lib.hid (fun a W ha => (Best_any gs a W hg ha).mono (fun e w' h => show e = .returned (.tuple #[.slice none 0 0, .int .i64 4]) ∧ Below W.heap.size W w' from by
        obtain ⟨v, c, e1, h1, h2⟩ := h
        rcases h1 with ⟨_, rfl, rfl⟩ | ⟨x, hx, _⟩
        · exact ⟨e1, h2⟩
        · rw [hr] at hx; cases hx))
      have HF := Lib.hid (fun a W ha => First_none gs a W hg hr ha)
      have HSt := Lib.hid (fun a W ha => (Stuck_ok gs a W hg ha).mono (fun e w' h => show e = .returned (.tuple #[.int .i64 (mostL (begL gs gs.length []) : Nat), .int .i64 0]) ∧ Below W.heap.size W w' from by
        obtain ⟨a, c, e1, h1, h2⟩ := h
        rcases h1 with ⟨_, rfl, rfl⟩ | ⟨hx, _⟩
        · exact ⟨e1, h2⟩
        · exact absurd hr hx))
      have hms := most_lt hr g1.1
      generalize mostL (begL gs gs.length []) = ms at *
      rw [hr] at HC
      simp only [List.length_nil] at HC
      have d1 : decide ((ms : Int) < 0) = false := decide_eq_false (by omega)
      have d2 : decide (0 ≤ (ms : Int)) = true := decide_eq_true (by omega)
      have d3 : decide ((ms : Int) < (gs.length : Int)) = true := decide_eq_true (by omega)
      have d4 : decide (ms < gs.length) = true := decide_eq_true hms
      cases hp : pairB gs ss
      · have HRt := Lib.hid (fun W (a : IntsV W g gs) (b : IntsV W s ss) => right_bad gs ss g s W hl hm hp a b)
        rw [hp] at HPp
        obtain ⟨ao, cap, hv, _⟩ := h
        obtain ⟨bo, cap', hu, _⟩ := k
        subst hv hu
        clear hg hl hm hr hp
        generalize gs.length = L at *
        go_enter Try.func13, Try.ntmps13
        go_wp2_with fail
        refine (HLg.out _ H.out).mono ?_
        rintro e u1 ⟨v1, rfl, i1, b1⟩
        have G_1 := Lib.hid i1
        have B1 := Lib.hid (b1)
        clear b1 i1
        go_wp2_with fail
        refine (HF.out _ _ G_1.out).mono ?_
        rintro e u2 ⟨rfl, b2⟩
        have G_2 := Lib.hid (G_1.out.later b2)
        have B2 := Lib.hid (below_nx B1.out b2)
        clear b2
        go_wp2_with fail
        refine (HLg.out _ (H.out.later B2.out)).mono ?_
        rintro e u3 ⟨v3, rfl, i3, b3⟩
        have G_3 := Lib.hid i3
        have B3 := Lib.hid (below_nx B2.out b3)
        clear b3 i3
        go_wp2_with fail
        refine (HB.out _ _ G_3.out).mono ?_
        rintro e u4 ⟨rfl, b4⟩
        have G_4 := Lib.hid (G_3.out.later b4)
        have B4 := Lib.hid (below_nx B3.out b4)
        clear b4
        go_wp2_with fail
        refine (HLg.out _ (H.out.later B4.out)).mono ?_
        rintro e u5 ⟨v5, rfl, i5, b5⟩
        have G_5 := Lib.hid i5
        have B5 := Lib.hid (below_nx B4.out b5)
        clear b5 i5
        go_wp2_with fail
        refine (HC.out _ _ G_5.out).mono ?_
        rintro e u6 ⟨rfl, b6⟩
        have G_6 := Lib.hid (G_5.out.later b6)
        have B6 := Lib.hid (below_nx B5.out b6)
        clear b6
        go_wp2_with fail
        refine (HLg.out _ (H.out.later B6.out)).mono ?_
        rintro e u7 ⟨v7, rfl, i7, b7⟩
        have G_7 := Lib.hid i7
        have B7 := Lib.hid (below_nx B6.out b7)
        clear b7 i7
        go_wp2_with fail
        refine (HSt.out _ _ G_7.out).mono ?_
        rintro e u8 ⟨rfl, b8⟩
        have G_8 := Lib.hid (G_7.out.later b8)
        have B8 := Lib.hid (below_nx B7.out b8)
        clear b8
        go_wp2_with fail
        refine (HPr.out _ (H.out.later B8.out)).mono ?_
        rintro e u9 ⟨rfl, rfl⟩
        go_wp2_with fail
        refine (HRt.out _ (H.out.later B8.out) (K.out.later B8.out)).mono ?_
        rintro e u10 ⟨rfl, b10⟩
        have B10 := Lib.hid (below_nx B8.out b10)
        clear b10
        go_wp2_with fail
        refine (HAw.out _).mono ?_
        rintro e uz ⟨rfl, bz⟩
        go_wp2
        go_ret
        exact ⟨rfl, below_nx B10.out bz⟩
      · have hkk : keptB gs ss = false := by
          cases e : keptB gs ss
          · rfl
          · have := (right_pair hg).2 ⟨hp, e⟩; rw [hr] at this; cases this
        have HRt := Lib.hid (fun W (a : IntsV W g gs) (b : IntsV W s ss) => right_ok gs ss g s W hp a b)
        rw [hkk] at HRt
        clear hkk
        rw [hp] at HPp
        obtain ⟨ao, cap, hv, _⟩ := h
        obtain ⟨bo, cap', hu, _⟩ := k
        subst hv hu
        clear hg hl hm hr hp
        generalize gs.length = L at *
        go_enter Try.func13, Try.ntmps13
        go_wp2_with fail
        refine (HLg.out _ H.out).mono ?_
        rintro e u1 ⟨v1, rfl, i1, b1⟩
        have G_1 := Lib.hid i1
        have B1 := Lib.hid (b1)
        clear b1 i1
        go_wp2_with fail
        refine (HF.out _ _ G_1.out).mono ?_
        rintro e u2 ⟨rfl, b2⟩
        have G_2 := Lib.hid (G_1.out.later b2)
        have B2 := Lib.hid (below_nx B1.out b2)
        clear b2
        go_wp2_with fail
        refine (HLg.out _ (H.out.later B2.out)).mono ?_
        rintro e u3 ⟨v3, rfl, i3, b3⟩
        have G_3 := Lib.hid i3
        have B3 := Lib.hid (below_nx B2.out b3)
        clear b3 i3
        go_wp2_with fail
        refine (HB.out _ _ G_3.out).mono ?_
        rintro e u4 ⟨rfl, b4⟩
        have G_4 := Lib.hid (G_3.out.later b4)
        have B4 := Lib.hid (below_nx B3.out b4)
        clear b4
        go_wp2_with fail
        refine (HLg.out _ (H.out.later B4.out)).mono ?_
        rintro e u5 ⟨v5, rfl, i5, b5⟩
        have G_5 := Lib.hid i5
        have B5 := Lib.hid (below_nx B4.out b5)
        clear b5 i5
        go_wp2_with fail
        refine (HC.out _ _ G_5.out).mono ?_
        rintro e u6 ⟨rfl, b6⟩
        have G_6 := Lib.hid (G_5.out.later b6)
        have B6 := Lib.hid (below_nx B5.out b6)
        clear b6
        go_wp2_with fail
        refine (HLg.out _ (H.out.later B6.out)).mono ?_
        rintro e u7 ⟨v7, rfl, i7, b7⟩
        have G_7 := Lib.hid i7
        have B7 := Lib.hid (below_nx B6.out b7)
        clear b7 i7
        go_wp2_with fail
        refine (HSt.out _ _ G_7.out).mono ?_
        rintro e u8 ⟨rfl, b8⟩
        have G_8 := Lib.hid (G_7.out.later b8)
        have B8 := Lib.hid (below_nx B7.out b8)
        clear b8
        go_wp2_with fail
        refine (HPr.out _ (H.out.later B8.out)).mono ?_
        rintro e u9 ⟨rfl, rfl⟩
        go_wp2_with fail
        refine (HRt.out _ (H.out.later B8.out) (K.out.later B8.out)).mono ?_
        rintro e u10 ⟨rfl, b10⟩
        have B10 := Lib.hid (below_nx B8.out b10)
        clear b10
        go_wp2_with fail
        refine (HAw.out _).mono ?_
        rintro e uz ⟨rfl, bz⟩
        go_wp2
        go_ret
        exact ⟨rfl, below_nx B10.out bz⟩
    | cons l0 rest =>
      obtain ⟨b, hb⟩ : ∃ b, bestF gs (rightL gs) = some b := by
        cases e : bestF gs (rightL gs) with
        | none => have := bestF_none e; rw [hr] at this; cases this
        | some b => exact ⟨b, rfl⟩
      obtain ⟨hbm, hbp, hbk⟩ := best_some hg hb
      have hb8 := (dpart_len (pair_parts hbp).2.1)
      have hlm : l0 ∈ rightL gs := by rw [hr]; simp
      obtain ⟨hlp, hlk⟩ := (right_pair hg).1 hlm
      have hl8 := (dpart_len (pair_parts hlp).2.1)
      have hll := (pair_parts hlp).2.2
      have hcb := first_least hr hbm
      have HB := Lib.hid (fun a W ha => (Best_any gs a W hg ha).mono (fun e w' h => show ∃ v, e = .returned (.tuple #[v, .int .i64 0]) ∧ IntsV w' v b ∧ Below W.heap.size W w' from by
        obtain ⟨v, c, e1, h1, h2⟩ := h
        rcases h1 with ⟨hx, _⟩ | ⟨x, hx, h3, rfl⟩
        · rw [hb] at hx; cases hx
        · rw [hb] at hx; cases hx; exact ⟨v, e1, h3, h2⟩))
      have HF := Lib.hid (fun a W ha => (First_ok gs l0 rest a W hg hr ha).mono (fun e w' h => show ∃ v, e = .returned (.tuple #[v, .int .i64 0]) ∧ (∃ a c, v = .slice a gs.length c ∧ IntsV w' v l0) ∧ Below W.heap.size W w' from by
        obtain ⟨v, e1, h3, h2⟩ := h
        obtain ⟨ao, cap, e4, _⟩ := id h3
        exact ⟨v, e1, ⟨ao, cap, by rw [e4, hll], h3⟩, h2⟩))
      have HSt := Lib.hid (fun a W ha => (Stuck_ok gs a W hg ha).mono (fun e w' h => show e = .returned (.tuple #[.int .i64 0, .int .i64 4]) ∧ Below W.heap.size W w' from by
        obtain ⟨a, c, e1, h1, h2⟩ := h
        rcases h1 with ⟨hx, _⟩ | ⟨hx, rfl, rfl⟩
        · rw [hr] at hx; cases hx
        · exact ⟨e1, h2⟩))
      have HRb := Lib.hid (fun W (c : Value) (a : IntsV W g gs) (d : IntsV W c b) => right_ok gs b g c W hbp a d)
      have HRl := Lib.hid (fun W (c : Value) (a : IntsV W g gs) (d : IntsV W c l0) => right_ok gs l0 g c W hlp a d)
      rw [hbk] at HRb
      rw [hlk] at HRl
      have HCb := Lib.hid (fun a c W ha hc => Compare_any l0 b a c W (by unfold maxLen; omega) (by unfold maxLen; omega) ha hc)
      obtain ⟨R, hR⟩ : ∃ R, (l0 :: rest).length = R := ⟨_, rfl⟩
      rw [hr, hR] at HC
      have hR0 : 0 < R := by rw [← hR, List.length_cons]; omega
      have c1 : decide ((R : Int) < 0) = false := decide_eq_false (by omega)
      have c2 : ((R : Int) == 0) = false := by rw [beq_eq_false_iff_ne]; omega
      have c3 : decide (0 < compL l0 b) = false := decide_eq_false (by omega)
      clear hR hbm hbp hbk hlm hlp hlk hb
      cases hp : pairB gs ss
      · rw [hp] at HPp
        obtain ⟨ao, cap, hv, _⟩ := h
        obtain ⟨bo, cap', hu, _⟩ := k
        subst hv hu
        clear hg hl hm hr hp hb8 hl8 hll
        generalize gs.length = L at *
        generalize compL l0 b = cb at *
        go_enter Try.func13, Try.ntmps13
        go_wp2_with fail
        refine (HLg.out _ H.out).mono ?_
        rintro e u1 ⟨v1, rfl, i1, b1⟩
        have G_1 := Lib.hid i1
        have B1 := Lib.hid (b1)
        clear b1 i1
        go_wp2_with fail
        refine (HF.out _ _ G_1.out).mono ?_
        rintro e u2 ⟨v2, rfl, i2, b2⟩
        have G_2 := Lib.hid (G_1.out.later b2)
        have F0_2 := Lib.hid i2
        have B2 := Lib.hid (below_nx B1.out b2)
        clear b2 i2
        obtain ⟨fa, fc, fe, fi⟩ := F0_2.out
        subst fe
        have Y_2 := Lib.hid fi
        clear fi F0_2
        go_wp2_with fail
        refine (HLg.out _ (H.out.later B2.out)).mono ?_
        rintro e u3 ⟨v3, rfl, i3, b3⟩
        have Y_3 := Lib.hid (Y_2.out.later b3)
        have G_3 := Lib.hid i3
        have B3 := Lib.hid (below_nx B2.out b3)
        clear b3 i3
        go_wp2_with fail
        refine (HB.out _ _ G_3.out).mono ?_
        rintro e u4 ⟨v4, rfl, i4, b4⟩
        have Y_4 := Lib.hid (Y_3.out.later b4)
        have G_4 := Lib.hid (G_3.out.later b4)
        have X_4 := Lib.hid i4
        have B4 := Lib.hid (below_nx B3.out b4)
        clear b4 i4
        go_wp2_with fail
        refine (HLg.out _ (H.out.later B4.out)).mono ?_
        rintro e u5 ⟨v5, rfl, i5, b5⟩
        have Y_5 := Lib.hid (Y_4.out.later b5)
        have X_5 := Lib.hid (X_4.out.later b5)
        have G_5 := Lib.hid i5
        have B5 := Lib.hid (below_nx B4.out b5)
        clear b5 i5
        go_wp2_with fail
        refine (HC.out _ _ G_5.out).mono ?_
        rintro e u6 ⟨rfl, b6⟩
        have Y_6 := Lib.hid (Y_5.out.later b6)
        have X_6 := Lib.hid (X_5.out.later b6)
        have G_6 := Lib.hid (G_5.out.later b6)
        have B6 := Lib.hid (below_nx B5.out b6)
        clear b6
        go_wp2_with fail
        refine (HLg.out _ (H.out.later B6.out)).mono ?_
        rintro e u7 ⟨v7, rfl, i7, b7⟩
        have Y_7 := Lib.hid (Y_6.out.later b7)
        have X_7 := Lib.hid (X_6.out.later b7)
        have G_7 := Lib.hid i7
        have B7 := Lib.hid (below_nx B6.out b7)
        clear b7 i7
        go_wp2_with fail
        refine (HSt.out _ _ G_7.out).mono ?_
        rintro e u8 ⟨rfl, b8⟩
        have Y_8 := Lib.hid (Y_7.out.later b8)
        have X_8 := Lib.hid (X_7.out.later b8)
        have G_8 := Lib.hid (G_7.out.later b8)
        have B8 := Lib.hid (below_nx B7.out b8)
        clear b8
        go_wp2_with fail
        refine (HPr.out _ (H.out.later B8.out)).mono ?_
        rintro e u9 ⟨rfl, rfl⟩
        go_wp2_with fail
        refine (HRl.out _ _ (H.out.later B8.out) Y_8.out).mono ?_
        rintro e u10 ⟨rfl, b10⟩
        have Y_10 := Lib.hid (Y_8.out.later b10)
        have X_10 := Lib.hid (X_8.out.later b10)
        have B10 := Lib.hid (below_nx B8.out b10)
        clear b10
        go_wp2_with fail
        refine (HRb.out _ _ (H.out.later B10.out) X_10.out).mono ?_
        rintro e u11 ⟨rfl, b11⟩
        have Y_11 := Lib.hid (Y_10.out.later b11)
        have X_11 := Lib.hid (X_10.out.later b11)
        have B11 := Lib.hid (below_nx B10.out b11)
        clear b11
        go_wp2_with fail
        refine (HCb.out _ _ _ Y_11.out X_11.out).mono ?_
        rintro e u12 ⟨rfl, rfl⟩
        go_wp2_with fail
        refine (HPp.out _ (H.out.later B11.out) (K.out.later B11.out)).mono ?_
        rintro e u13 ⟨rfl, rfl⟩
        go_wp2_with fail
        refine (HAw.out _).mono ?_
        rintro e uz ⟨rfl, bz⟩
        go_wp2
        go_ret
        exact ⟨rfl, below_nx B11.out bz⟩
      · rw [hp] at HPp
        have HRs := Lib.hid (fun W (a : IntsV W g gs) (d : IntsV W s ss) => right_ok gs ss g s W hp a d)
        cases hk : keptB gs ss
        · rw [hk] at HRs
          obtain ⟨ao, cap, hv, _⟩ := h
          obtain ⟨bo, cap', hu, _⟩ := k
          subst hv hu
          clear hg hl hm hr hp hb8 hl8 hll hk
          generalize gs.length = L at *
          generalize compL l0 b = cb at *
          go_enter Try.func13, Try.ntmps13
          go_wp2_with fail
          refine (HLg.out _ H.out).mono ?_
          rintro e u1 ⟨v1, rfl, i1, b1⟩
          have G_1 := Lib.hid i1
          have B1 := Lib.hid (b1)
          clear b1 i1
          go_wp2_with fail
          refine (HF.out _ _ G_1.out).mono ?_
          rintro e u2 ⟨v2, rfl, i2, b2⟩
          have G_2 := Lib.hid (G_1.out.later b2)
          have F0_2 := Lib.hid i2
          have B2 := Lib.hid (below_nx B1.out b2)
          clear b2 i2
          obtain ⟨fa, fc, fe, fi⟩ := F0_2.out
          subst fe
          have Y_2 := Lib.hid fi
          clear fi F0_2
          go_wp2_with fail
          refine (HLg.out _ (H.out.later B2.out)).mono ?_
          rintro e u3 ⟨v3, rfl, i3, b3⟩
          have Y_3 := Lib.hid (Y_2.out.later b3)
          have G_3 := Lib.hid i3
          have B3 := Lib.hid (below_nx B2.out b3)
          clear b3 i3
          go_wp2_with fail
          refine (HB.out _ _ G_3.out).mono ?_
          rintro e u4 ⟨v4, rfl, i4, b4⟩
          have Y_4 := Lib.hid (Y_3.out.later b4)
          have G_4 := Lib.hid (G_3.out.later b4)
          have X_4 := Lib.hid i4
          have B4 := Lib.hid (below_nx B3.out b4)
          clear b4 i4
          go_wp2_with fail
          refine (HLg.out _ (H.out.later B4.out)).mono ?_
          rintro e u5 ⟨v5, rfl, i5, b5⟩
          have Y_5 := Lib.hid (Y_4.out.later b5)
          have X_5 := Lib.hid (X_4.out.later b5)
          have G_5 := Lib.hid i5
          have B5 := Lib.hid (below_nx B4.out b5)
          clear b5 i5
          go_wp2_with fail
          refine (HC.out _ _ G_5.out).mono ?_
          rintro e u6 ⟨rfl, b6⟩
          have Y_6 := Lib.hid (Y_5.out.later b6)
          have X_6 := Lib.hid (X_5.out.later b6)
          have G_6 := Lib.hid (G_5.out.later b6)
          have B6 := Lib.hid (below_nx B5.out b6)
          clear b6
          go_wp2_with fail
          refine (HLg.out _ (H.out.later B6.out)).mono ?_
          rintro e u7 ⟨v7, rfl, i7, b7⟩
          have Y_7 := Lib.hid (Y_6.out.later b7)
          have X_7 := Lib.hid (X_6.out.later b7)
          have G_7 := Lib.hid i7
          have B7 := Lib.hid (below_nx B6.out b7)
          clear b7 i7
          go_wp2_with fail
          refine (HSt.out _ _ G_7.out).mono ?_
          rintro e u8 ⟨rfl, b8⟩
          have Y_8 := Lib.hid (Y_7.out.later b8)
          have X_8 := Lib.hid (X_7.out.later b8)
          have G_8 := Lib.hid (G_7.out.later b8)
          have B8 := Lib.hid (below_nx B7.out b8)
          clear b8
          go_wp2_with fail
          refine (HPr.out _ (H.out.later B8.out)).mono ?_
          rintro e u9 ⟨rfl, rfl⟩
          go_wp2_with fail
          refine (HRl.out _ _ (H.out.later B8.out) Y_8.out).mono ?_
          rintro e u10 ⟨rfl, b10⟩
          have Y_10 := Lib.hid (Y_8.out.later b10)
          have X_10 := Lib.hid (X_8.out.later b10)
          have B10 := Lib.hid (below_nx B8.out b10)
          clear b10
          go_wp2_with fail
          refine (HRb.out _ _ (H.out.later B10.out) X_10.out).mono ?_
          rintro e u11 ⟨rfl, b11⟩
          have Y_11 := Lib.hid (Y_10.out.later b11)
          have X_11 := Lib.hid (X_10.out.later b11)
          have B11 := Lib.hid (below_nx B10.out b11)
          clear b11
          go_wp2_with fail
          refine (HCb.out _ _ _ Y_11.out X_11.out).mono ?_
          rintro e u12 ⟨rfl, rfl⟩
          go_wp2_with fail
          refine (HPp.out _ (H.out.later B11.out) (K.out.later B11.out)).mono ?_
          rintro e u13 ⟨rfl, rfl⟩
          go_wp2_with fail
          refine (HRs.out _ (H.out.later B11.out) (K.out.later B11.out)).mono ?_
          rintro e u14 ⟨rfl, b14⟩
          have Y_14 := Lib.hid (Y_11.out.later b14)
          have B14 := Lib.hid (below_nx B11.out b14)
          clear b14
          go_wp2_with fail
          refine (HAw.out _).mono ?_
          rintro e uz ⟨rfl, bz⟩
          go_wp2
          go_ret
          exact ⟨rfl, below_nx B14.out bz⟩
        · rw [hk] at HRs
          have hcs := first_least hr ((right_pair hg).2 ⟨hp, hk⟩)
          have HCs := Lib.hid (fun a c W ha hc => Compare_any l0 ss a c W (by unfold maxLen; omega) hm ha hc)
          obtain ⟨ao, cap, hv, _⟩ := h
          obtain ⟨bo, cap', hu, _⟩ := k
          subst hv hu
          clear hg hl hm hr hp hb8 hl8 hll hk
          generalize gs.length = L at *
          generalize compL l0 b = cb at *
          generalize compL l0 ss = cs at *
          have c4 : decide (cs ≤ 0) = true := decide_eq_true hcs
          go_enter Try.func13, Try.ntmps13
          go_wp2_with fail
          refine (HLg.out _ H.out).mono ?_
          rintro e u1 ⟨v1, rfl, i1, b1⟩
          have G_1 := Lib.hid i1
          have B1 := Lib.hid (b1)
          clear b1 i1
          go_wp2_with fail
          refine (HF.out _ _ G_1.out).mono ?_
          rintro e u2 ⟨v2, rfl, i2, b2⟩
          have G_2 := Lib.hid (G_1.out.later b2)
          have F0_2 := Lib.hid i2
          have B2 := Lib.hid (below_nx B1.out b2)
          clear b2 i2
          obtain ⟨fa, fc, fe, fi⟩ := F0_2.out
          subst fe
          have Y_2 := Lib.hid fi
          clear fi F0_2
          go_wp2_with fail
          refine (HLg.out _ (H.out.later B2.out)).mono ?_
          rintro e u3 ⟨v3, rfl, i3, b3⟩
          have Y_3 := Lib.hid (Y_2.out.later b3)
          have G_3 := Lib.hid i3
          have B3 := Lib.hid (below_nx B2.out b3)
          clear b3 i3
          go_wp2_with fail
          refine (HB.out _ _ G_3.out).mono ?_
          rintro e u4 ⟨v4, rfl, i4, b4⟩
          have Y_4 := Lib.hid (Y_3.out.later b4)
          have G_4 := Lib.hid (G_3.out.later b4)
          have X_4 := Lib.hid i4
          have B4 := Lib.hid (below_nx B3.out b4)
          clear b4 i4
          go_wp2_with fail
          refine (HLg.out _ (H.out.later B4.out)).mono ?_
          rintro e u5 ⟨v5, rfl, i5, b5⟩
          have Y_5 := Lib.hid (Y_4.out.later b5)
          have X_5 := Lib.hid (X_4.out.later b5)
          have G_5 := Lib.hid i5
          have B5 := Lib.hid (below_nx B4.out b5)
          clear b5 i5
          go_wp2_with fail
          refine (HC.out _ _ G_5.out).mono ?_
          rintro e u6 ⟨rfl, b6⟩
          have Y_6 := Lib.hid (Y_5.out.later b6)
          have X_6 := Lib.hid (X_5.out.later b6)
          have G_6 := Lib.hid (G_5.out.later b6)
          have B6 := Lib.hid (below_nx B5.out b6)
          clear b6
          go_wp2_with fail
          refine (HLg.out _ (H.out.later B6.out)).mono ?_
          rintro e u7 ⟨v7, rfl, i7, b7⟩
          have Y_7 := Lib.hid (Y_6.out.later b7)
          have X_7 := Lib.hid (X_6.out.later b7)
          have G_7 := Lib.hid i7
          have B7 := Lib.hid (below_nx B6.out b7)
          clear b7 i7
          go_wp2_with fail
          refine (HSt.out _ _ G_7.out).mono ?_
          rintro e u8 ⟨rfl, b8⟩
          have Y_8 := Lib.hid (Y_7.out.later b8)
          have X_8 := Lib.hid (X_7.out.later b8)
          have G_8 := Lib.hid (G_7.out.later b8)
          have B8 := Lib.hid (below_nx B7.out b8)
          clear b8
          go_wp2_with fail
          refine (HPr.out _ (H.out.later B8.out)).mono ?_
          rintro e u9 ⟨rfl, rfl⟩
          go_wp2_with fail
          refine (HRl.out _ _ (H.out.later B8.out) Y_8.out).mono ?_
          rintro e u10 ⟨rfl, b10⟩
          have Y_10 := Lib.hid (Y_8.out.later b10)
          have X_10 := Lib.hid (X_8.out.later b10)
          have B10 := Lib.hid (below_nx B8.out b10)
          clear b10
          go_wp2_with fail
          refine (HRb.out _ _ (H.out.later B10.out) X_10.out).mono ?_
          rintro e u11 ⟨rfl, b11⟩
          have Y_11 := Lib.hid (Y_10.out.later b11)
          have X_11 := Lib.hid (X_10.out.later b11)
          have B11 := Lib.hid (below_nx B10.out b11)
          clear b11
          go_wp2_with fail
          refine (HCb.out _ _ _ Y_11.out X_11.out).mono ?_
          rintro e u12 ⟨rfl, rfl⟩
          go_wp2_with fail
          refine (HPp.out _ (H.out.later B11.out) (K.out.later B11.out)).mono ?_
          rintro e u13 ⟨rfl, rfl⟩
          go_wp2_with fail
          refine (HRs.out _ (H.out.later B11.out) (K.out.later B11.out)).mono ?_
          rintro e u14 ⟨rfl, b14⟩
          have Y_14 := Lib.hid (Y_11.out.later b14)
          have B14 := Lib.hid (below_nx B11.out b14)
          clear b14
          go_wp2_with fail
          refine (HCs.out _ _ _ Y_14.out (K.out.later B14.out)).mono ?_
          rintro e u15 ⟨rfl, rfl⟩
          go_wp2_with fail
          refine (HAw.out _).mono ?_
          rintro e uz ⟨rfl, bz⟩
          go_wp2
          go_ret
          exact ⟨rfl, below_nx B14.out bz⟩
end Go.Proofs.Ytlmfmfbnbbooaaa
