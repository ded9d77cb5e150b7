/-
  What the reference's search finds; its Count, First, Best and Stuck; the statement on counting.
-/
import Derived.Test.YtlmfmfbnbbooaaaDuSearch
namespace Go.Proofs.Ytlmfmfbnbbooaaa

section
open Go.ChangeShapes Go.WideShapes Go.ChangeAt Go.RowKit
set_option linter.unusedVariables false
set_option maxRecDepth 100000

def s0S : SrS := ⟨0, 0, 0, [], []⟩
def wholeL (gs : List Int) (l : List (List Int)) : List (List Int) := l.filter fun m => decide (m.length = gs.length)
theorem run_facts (gs : List Int) : ∀ (n : Nat) (l : List (List Int)), l.length = n → (runS gs s0S l).cnt = (wholeL gs l).length ∧ (runS gs s0S l).lng = mostL l ∧ (runS gs s0S l).fst = (wholeL gs l).head?.getD [] ∧
    (wholeL gs l ≠ [] → bestF gs (wholeL gs l) = some (runS gs s0S l).bst ∧ (runS gs s0S l).wor = worthW gs (runS gs s0S l).bst)
  | 0, l, h => by
    rw [List.length_eq_zero_iff.1 h]
    exact ⟨rfl, rfl, rfl, fun h => absurd rfl h⟩
  | n + 1, l, h => by
    rcases List.eq_nil_or_concat l with rfl | ⟨l', x, rfl⟩
    · simp at h
    · rw [List.concat_eq_append] at h ⊢
      rw [List.length_append] at h
      simp at h
      obtain ⟨h1, h2, h3, h4⟩ := run_facts gs n l' h
      have e : runS gs s0S (l' ++ [x]) = stepS gs (runS gs s0S l') x := by rw [runS_append]; rfl
      have ew : wholeL gs (l' ++ [x]) = wholeL gs l' ++ (if x.length = gs.length then [x] else []) := by
        unfold wholeL
        rw [List.filter_append]
        congr 1
        by_cases hx : x.length = gs.length
        · rw [if_pos hx, List.filter_cons_of_pos (by simp [hx])]; rfl
        · rw [if_neg hx, List.filter_cons_of_neg (by simp [hx])]; rfl
      rw [e, ew, mostL_snoc]
      generalize runS gs s0S l' = s at *
      by_cases hx : x.length = gs.length
      · rw [if_pos hx]
        unfold stepS
        rw [if_pos hx]
        dsimp only
        refine ⟨by rw [List.length_append, h1]; rfl, by rw [h2], ?_, fun _ => ?_⟩
        · cases hw : wholeL gs l' with
          | nil => rw [hw] at h1; rw [if_pos (by simpa using h1)]; rfl
          | cons a r => rw [hw] at h1 h3; rw [if_neg (by rw [h1]; simp)]; exact h3
        · rw [bestF_snoc]
          cases hw : wholeL gs l' with
          | nil =>
            rw [hw] at h1
            have h0 : s.cnt = 0 := by simpa using h1
            rw [if_pos (.inl h0), if_pos (.inl h0)]
            exact ⟨rfl, rfl⟩
          | cons a r =>
            obtain ⟨h5, h6⟩ := h4 (by rw [hw]; simp)
            rw [hw] at h5 h1
            rw [h5]
            have h0 : ¬ s.cnt = 0 := by rw [h1]; simp
            dsimp only
            by_cases hlt : worthW gs s.bst < worthW gs x
            · rw [if_pos hlt, if_pos (.inr (by rw [h6]; exact hlt)), if_pos (.inr (by rw [h6]; exact hlt))]
              exact ⟨rfl, rfl⟩
            · have hno : ¬ (s.cnt = 0 ∨ s.wor < worthW gs x) := by rw [h6]; rintro (h | h); exact h0 h; exact hlt h
              rw [if_neg hlt, if_neg hno, if_neg hno]
              exact ⟨rfl, h6⟩
      · rw [if_neg hx, List.append_nil]
        unfold stepS
        rw [if_neg hx]
        exact ⟨h1, by rw [h2], h3, h4⟩
/-- What the whole search finds. -/
def endS (gs : List Int) : SrS := runS gs s0S ([] :: begL gs gs.length [])
theorem whole_right {gs : List Int} (h : 1 ≤ gs.length) : wholeL gs ([] :: begL gs gs.length []) = rightL gs := by
  unfold wholeL rightL
  rw [List.filter_cons_of_neg (by simp; omega)]
theorem end_facts {gs : List Int} (h : 1 ≤ gs.length) : (endS gs).cnt = (rightL gs).length ∧ (endS gs).lng = mostL (begL gs gs.length []) ∧ (endS gs).fst = (rightL gs).head?.getD [] ∧
    (rightL gs ≠ [] → bestF gs (rightL gs) = some (endS gs).bst) := by
  obtain ⟨h1, h2, h3, h4⟩ := run_facts gs _ ([] :: begL gs gs.length []) rfl
  rw [whole_right h] at h1 h3 h4
  refine ⟨h1, ?_, h3, fun h => (h4 h).1⟩
  show (runS gs s0S ([] :: begL gs gs.length [])).lng = _
  rw [h2]
  rfl

/-- The search from nothing. -/
theorem found_any (gs : List Int) (g : Value) (w : World) (hg : dpartB gs = true) (h : IntsV w g gs) :
    ∀ W, w.alloc (.cells #[.int .i64 0, .int .i64 0, .int .i64 0, .slice none 0 0, .slice none 0 0] 86) = W →
    Calls Try.prog 88 #[g, .slice none 0 0, .pointer (some ⟨w.heap.size, 0, none⟩)] W fun e w' => e = .returned (.tuple #[]) ∧ Below w.heap.size w w' ∧ SAt w.heap.size w' (endS gs) := by
  intro W hW
  have g1 := dpart_len hg
  have hb : Below w.heap.size w W := by rw [← hW]; exact (Below.refl _ w).alloc (Nat.le_refl _) _
  have hr : Row W w.heap.size 86 [.int .i64 0, .int .i64 0, .int .i64 0, .slice none 0 0, .slice none 0 0] := by rw [← hW]; exact Row.new w _ _
  have hi : IntsF w.heap.size W g gs := by
    obtain ⟨ao, cap, e, h1, h2⟩ := h
    refine ⟨ao, cap, e, h1, fun h0 => ?_⟩
    obtain ⟨b, off, e1, e2⟩ := h2 h0
    have hlt := World.block_lt_of_cell? w _ (e2 0 h0)
    dsimp only at hlt
    exact ⟨b, off, e1, by omega, fun i hi => cell_later hb (e2 i hi)⟩
  have hp : 22 ^ gs.length ≤ 22 ^ 8 := Nat.pow_le_pow_right (by omega) g1.2.1
  refine (search_any gs hg gs.length [] g (.slice none 0 0) w.heap.size s0S W (by simp) rfl rfl (by show 0 + 22 ^ gs.length ≤ 2 ^ 59; omega) (by show 0 ≤ 8; omega) ⟨_, _, hr, IntsF.nil _ _, IntsF.nil _ _⟩ hi (IntsF.nil _ _)).mono ?_
  rintro e w' ⟨h1, h2, h3⟩
  exact ⟨h1, hb.trans h2.1, h3⟩

theorem RCount_any (gs : List Int) (g : Value) (w : World) (hg : dpartB gs = true) (h : IntsV w g gs) :
    Calls Try.prog 47 #[g] w fun e w' => e = .returned (.int .i64 ((rightL gs).length : Nat)) ∧ Below w.heap.size w w' := by
  have HF := Lib.hid (found_any gs g w hg h)
  have HC := Lib.hid (end_facts (dpart_len hg).1).1
  clear hg
  generalize endS gs = s at *
  generalize (rightL gs).length = R at *
  obtain ⟨ao, cap, hv, _⟩ := h
  subst hv
  go_enter Try.func47, Try.ntmps47
  go_wp2_with fail
  refine (HF.out _ rfl).mono ?_
  rintro e w1 ⟨rfl, b1, s1⟩
  obtain ⟨v1, v2, hr, _, _⟩ := s1
  have c0 : w1.cell? ⟨w.heap.size, 0, none⟩ = some (.int .i64 ((R : Nat) : Int)) := by have := hr.cell 0; rw [← HC.out]; exact this
  have B1 := Lib.hid b1
  clear b1 hr
  go_wp2
  go_ret
  exact ⟨rfl, B1.out⟩
theorem RFirst_any (gs : List Int) (g : Value) (w : World) (hg : dpartB gs = true) (h : IntsV w g gs) :
    Calls Try.prog 46 #[g] w fun e w' => ((rightL gs = [] ∧ e = .returned (.tuple #[.slice none 0 0, .int .i64 4])) ∨ (∃ l0 rest v, rightL gs = l0 :: rest ∧ e = .returned (.tuple #[v, .int .i64 0]) ∧ IntsV w' v l0)) ∧ Below w.heap.size w w' := by
  have HF := Lib.hid (found_any gs g w hg h)
  obtain ⟨hc, _, hf, _⟩ := end_facts (dpart_len hg).1
  have HC := Lib.hid hc
  have HFs := Lib.hid hf
  clear hg hc hf
  generalize endS gs = s at *
  obtain ⟨ao, cap, hv, _⟩ := h
  subst hv
  cases hr0 : rightL gs with
  | nil =>
    rw [hr0] at HC
    go_enter Try.func46, Try.ntmps46
    go_wp2_with fail
    refine (HF.out _ rfl).mono ?_
    rintro e w1 ⟨rfl, b1, s1⟩
    obtain ⟨v1, v2, hr, _, _⟩ := s1
    have c0 : w1.cell? ⟨w.heap.size, 0, none⟩ = some (.int .i64 0) := by have := hr.cell 0; rw [HC.out] at this; exact this
    have B1 := Lib.hid b1
    clear b1 hr
    go_wp2
    go_ret2
    exact ⟨.inl ⟨by first | rfl | trivial, rfl⟩, B1.out⟩
  | cons l0 rest =>
    rw [hr0] at HC HFs
    obtain ⟨C, hC⟩ : ∃ C, (l0 :: rest).length = C := ⟨_, rfl⟩
    have hC0 : 0 < C := by rw [← hC]; simp
    have q1 : ((C : Int) == 0) = false := by rw [beq_eq_false_iff_ne]; omega
    rw [hC] at HC
    clear hC
    go_enter Try.func46, Try.ntmps46
    go_wp2_with fail
    refine (HF.out _ rfl).mono ?_
    rintro e w1 ⟨rfl, b1, s1⟩
    obtain ⟨v1, v2, hr, h1, _⟩ := s1
    have c0 : w1.cell? ⟨w.heap.size, 0, none⟩ = some (.int .i64 (C : Int)) := by have := hr.cell 0; rw [HC.out] at this; exact this
    have c3 : w1.cell? ⟨w.heap.size, 3, none⟩ = some v1 := hr.cell 3
    have B1 := Lib.hid b1
    have I1 := Lib.hid (show IntsV w1 v1 l0 by have := h1.ints; rw [HFs.out] at this; exact this)
    clear b1 hr h1
    go_wp2
    go_ret2
    exact ⟨.inr ⟨_, _, _, rfl, rfl, I1.out⟩, B1.out⟩
theorem RBest_any (gs : List Int) (g : Value) (w : World) (hg : dpartB gs = true) (h : IntsV w g gs) :
    Calls Try.prog 50 #[g] w fun e w' => ((bestF gs (rightL gs) = none ∧ e = .returned (.tuple #[.slice none 0 0, .int .i64 4])) ∨ (∃ b v, bestF gs (rightL gs) = some b ∧ e = .returned (.tuple #[v, .int .i64 0]) ∧ IntsV w' v b)) ∧ Below w.heap.size w w' := by
  have HF := Lib.hid (found_any gs g w hg h)
  obtain ⟨hc, _, _, hf⟩ := end_facts (dpart_len hg).1
  have HC := Lib.hid hc
  have HFs := Lib.hid hf
  clear hg hc hf
  generalize endS gs = s at *
  obtain ⟨ao, cap, hv, _⟩ := h
  subst hv
  cases hr0 : rightL gs with
  | nil =>
    rw [hr0] at HC
    go_enter Try.func50, Try.ntmps50
    go_wp2_with fail
    refine (HF.out _ rfl).mono ?_
    rintro e w1 ⟨rfl, b1, s1⟩
    obtain ⟨v1, v2, hr, _, _⟩ := s1
    have c0 : w1.cell? ⟨w.heap.size, 0, none⟩ = some (.int .i64 0) := by have := hr.cell 0; rw [HC.out] at this; exact this
    have B1 := Lib.hid b1
    clear b1 hr
    go_wp2
    go_ret2
    exact ⟨.inl ⟨by first | rfl | trivial, rfl⟩, B1.out⟩
  | cons l0 rest =>
    rw [hr0] at HC HFs
    have HB := Lib.hid (HFs.out (by simp))
    clear HFs
    obtain ⟨C, hC⟩ : ∃ C, (l0 :: rest).length = C := ⟨_, rfl⟩
    have hC0 : 0 < C := by rw [← hC]; simp
    have q1 : ((C : Int) == 0) = false := by rw [beq_eq_false_iff_ne]; omega
    rw [hC] at HC
    clear hC
    go_enter Try.func50, Try.ntmps50
    go_wp2_with fail
    refine (HF.out _ rfl).mono ?_
    rintro e w1 ⟨rfl, b1, s1⟩
    obtain ⟨v1, v2, hr, _, h1⟩ := s1
    have c0 : w1.cell? ⟨w.heap.size, 0, none⟩ = some (.int .i64 (C : Int)) := by have := hr.cell 0; rw [HC.out] at this; exact this
    have c4 : w1.cell? ⟨w.heap.size, 4, none⟩ = some v2 := hr.cell 4
    have B1 := Lib.hid b1
    have I1 := Lib.hid h1.ints
    clear b1 hr h1
    go_wp2
    go_ret2
    exact ⟨.inr ⟨_, _, HB.out, rfl, I1.out⟩, B1.out⟩
theorem RStuck_any (gs : List Int) (g : Value) (w : World) (hg : dpartB gs = true) (h : IntsV w g gs) :
    Calls Try.prog 54 #[g] w fun e w' => ((rightL gs = [] ∧ e = .returned (.tuple #[.int .i64 (mostL (begL gs gs.length []) : Nat), .int .i64 0])) ∨ (rightL gs ≠ [] ∧ e = .returned (.tuple #[.int .i64 0, .int .i64 4]))) ∧ Below w.heap.size w w' := by
  have HF := Lib.hid (found_any gs g w hg h)
  obtain ⟨hc, hf, _, _⟩ := end_facts (dpart_len hg).1
  have HC := Lib.hid hc
  have HFs := Lib.hid hf
  clear hg hc hf
  generalize endS gs = s at *
  generalize mostL (begL gs gs.length []) = ms at *
  obtain ⟨ao, cap, hv, _⟩ := h
  subst hv
  cases hr0 : rightL gs with
  | nil =>
    rw [hr0] at HC
    go_enter Try.func54, Try.ntmps54
    go_wp2_with fail
    refine (HF.out _ rfl).mono ?_
    rintro e w1 ⟨rfl, b1, s1⟩
    obtain ⟨v1, v2, hr, _, _⟩ := s1
    have c0 : w1.cell? ⟨w.heap.size, 0, none⟩ = some (.int .i64 0) := by have := hr.cell 0; rw [HC.out] at this; exact this
    have c1 : w1.cell? ⟨w.heap.size, 1, none⟩ = some (.int .i64 (ms : Int)) := by have := hr.cell 1; rw [HFs.out] at this; exact this
    have B1 := Lib.hid b1
    clear b1 hr
    go_wp2
    go_ret2
    exact ⟨.inl ⟨by first | rfl | trivial, rfl⟩, B1.out⟩
  | cons l0 rest =>
    rw [hr0] at HC
    obtain ⟨C, hC⟩ : ∃ C, (l0 :: rest).length = C := ⟨_, rfl⟩
    have hC0 : 0 < C := by rw [← hC]; simp
    have q1 : decide (0 < (C : Int)) = true := decide_eq_true (by omega)
    rw [hC] at HC
    clear hC
    go_enter Try.func54, Try.ntmps54
    go_wp2_with fail
    refine (HF.out _ rfl).mono ?_
    rintro e w1 ⟨rfl, b1, s1⟩
    obtain ⟨v1, v2, hr, _, _⟩ := s1
    have c0 : w1.cell? ⟨w.heap.size, 0, none⟩ = some (.int .i64 (C : Int)) := by have := hr.cell 0; rw [HC.out] at this; exact this
    have B1 := Lib.hid b1
    clear b1 hr
    go_wp2
    go_ret2
    exact ⟨.inr ⟨by simp, rfl⟩, B1.out⟩
end

section
/-
  The statement on counting and the first right part.
-/
open Go.ChangeShapes Go.WideShapes Go.ChangeAt Go.RowKit
set_option linter.unusedVariables false
set_option maxRecDepth 100000

theorem right_len8 {gs l0 : List Int} {rest : List (List Int)} (hg : dpartB gs = true) (h : rightL gs = l0 :: rest) : l0.length ≤ maxLen := by
  have h1 : l0 ∈ rightL gs := by rw [h]; simp
  have := right_mem h1
  have := dpart_len hg
  unfold maxLen; omega
set_option maxHeartbeats 4000000 in
theorem DuetsCounts_walk (gs : List Int) (g : Value) (w : World) (hl : gs.length ≤ maxLen) (h : IntsV w g gs) :
    Calls Try.prog 9 #[g] w fun e w' => e = .returned (.bool true) ∧ Below w.heap.size w w' := by
  have HAw := Lib.hid (fun W => dawake_any W)
  have HLg := Lib.hid (fun W hW => dlist_any gs g W hl hW)
  have HPr := Lib.hid (fun W a => RPartD_any gs g W hl a)
  have H := Lib.hid h
  have HE := Lib.hid (fun (zs : List Int) (hz : zs.length ≤ maxLen) a b W ha hb => by have := Equal_any zs zs a b W hz hz ha hb; rwa [show (zs == zs) = true from beq_self_eq_true _] at this)
  cases hg : dpartB gs
  · have HC := Lib.hid (fun a W ha => Count_bad (gs.take 11) a W take11 (by rw [dpart_take]; exact hg) ha)
    have HF := Lib.hid (fun a W ha => First_bad (gs.take 11) a W take11 (by rw [dpart_take]; exact hg) ha)
    rw [hg] at HPr
    obtain ⟨ao, cap, hv, _⟩ := h
    subst hv
    clear hg hl
    go_enter Try.func9, Try.ntmps9
    go_wp2_with fail
    refine (HLg.out _ H.out).mono ?_
    rintro e u1 ⟨v1, rfl, i1, b1⟩
    have G_1 := Lib.hid i1
    have B1 := Lib.hid (b1)
    clear b1 i1
    go_wp2_with fail
    refine (HC.out _ _ G_1.out).mono ?_
    rintro e u2 ⟨rfl, rfl⟩
    go_wp2_with fail
    refine (HLg.out _ (H.out.later B1.out)).mono ?_
    rintro e u3 ⟨v3, rfl, i3, b3⟩
    have G_3 := Lib.hid i3
    have B3 := Lib.hid (below_nx B1.out b3)
    clear b3 i3
    go_wp2_with fail
    refine (HF.out _ _ G_3.out).mono ?_
    rintro e u4 ⟨rfl, b4⟩
    have G_4 := Lib.hid (G_3.out.later b4)
    have B4 := Lib.hid (below_nx B3.out b4)
    clear b4
    go_wp2_with fail
    refine (HPr.out _ (H.out.later B4.out)).mono ?_
    rintro e u5 ⟨rfl, rfl⟩
    go_wp2_with fail
    refine (HAw.out _).mono ?_
    rintro e uz ⟨rfl, bz⟩
    go_wp2
    go_ret
    exact ⟨rfl, below_nx B4.out bz⟩
  · rw [hg] at HPr
    rw [dtake hg] at HLg
    have HC := Lib.hid (fun a W ha => Count_ok gs a W hg ha)
    have HRC := Lib.hid (fun W a => RCount_any gs g W hg a)
    have HRi := Lib.hid (show (((rightL gs).length : Int) == ((rightL gs).length : Int)) = true from beq_self_eq_true _)
    have HRF := Lib.hid (fun W a => RFirst_any gs g W hg a)
    cases hr : rightL gs with
    | nil =>
      have HF := Lib.hid (fun a W ha => First_none gs a W hg hr ha)
      rw [hr] at HC HRC HRi
      simp only [List.length_nil] at HC HRC HRi
      rw [hr] at HRF
      obtain ⟨ao, cap, hv, _⟩ := h
      subst hv
      clear hg hl hr
      go_enter Try.func9, Try.ntmps9
      go_wp2_with fail
      refine (HLg.out _ H.out).mono ?_
      rintro e u1 ⟨v1, rfl, i1, b1⟩
      have G_1 := Lib.hid i1
      have B1 := Lib.hid (b1)
      clear b1 i1
      go_wp2_with fail
      refine (HC.out _ _ G_1.out).mono ?_
      rintro e u2 ⟨rfl, b2⟩
      have G_2 := Lib.hid (G_1.out.later b2)
      have B2 := Lib.hid (below_nx B1.out b2)
      clear b2
      go_wp2_with fail
      refine (HLg.out _ (H.out.later B2.out)).mono ?_
      rintro e u3 ⟨v3, rfl, i3, b3⟩
      have G_3 := Lib.hid i3
      have B3 := Lib.hid (below_nx B2.out b3)
      clear b3 i3
      go_wp2_with fail
      refine (HF.out _ _ G_3.out).mono ?_
      rintro e u4 ⟨rfl, b4⟩
      have G_4 := Lib.hid (G_3.out.later b4)
      have B4 := Lib.hid (below_nx B3.out b4)
      clear b4
      go_wp2_with fail
      refine (HPr.out _ (H.out.later B4.out)).mono ?_
      rintro e u5 ⟨rfl, rfl⟩
      go_wp2_with fail
      refine (HRF.out _ (H.out.later B4.out)).mono ?_
      rintro e u6 ⟨hd, b6⟩
      rcases hd with ⟨_, rfl⟩ | ⟨l1, r1, v1, hx, _⟩
      · skip
        have B6 := Lib.hid (below_nx B4.out b6)
        clear b6
        go_wp2_with fail
        refine (HRC.out _ (H.out.later B6.out)).mono ?_
        rintro e u7 ⟨rfl, b7⟩
        have B7 := Lib.hid (below_nx B6.out b7)
        clear b7
        go_wp2_with fail
        refine (HE.out [] (by simp) _ _ _ (IntsV.nilD _) (IntsV.nilD _)).mono ?_
        rintro e u8 ⟨rfl, q8, rfl⟩
        obtain ⟨x8, hx8⟩ : ∃ W, u7.drewN q8 = W := ⟨_, rfl⟩
        have hb8 := below_drewN (Below.refl u7.heap.size u7) q8
        rw [hx8] at hb8 ⊢
        have B8 := Lib.hid (below_nx B7.out hb8)
        clear hb8 hx8
        go_wp2_with fail
        refine (HAw.out _).mono ?_
        rintro e uz ⟨rfl, bz⟩
        go_wp2
        go_ret
        exact ⟨rfl, below_nx B8.out bz⟩
      · cases hx
    | cons l0 rest =>
      have HF := Lib.hid (fun a W ha => First_ok gs l0 rest a W hg hr ha)
      have HZ := Lib.hid (right_len8 hg hr)
      rw [hr] at HC HRC
      obtain ⟨R, hR⟩ : ∃ R, (l0 :: rest).length = R := ⟨_, rfl⟩
      rw [hR] at HC HRC
      have q1 : ((R : Int) == (R : Int)) = true := beq_self_eq_true _
      clear hR HRi
      rw [hr] at HRF
      obtain ⟨ao, cap, hv, _⟩ := h
      subst hv
      clear hg hl hr
      go_enter Try.func9, Try.ntmps9
      go_wp2_with fail
      refine (HLg.out _ H.out).mono ?_
      rintro e u1 ⟨v1, rfl, i1, b1⟩
      have G_1 := Lib.hid i1
      have B1 := Lib.hid (b1)
      clear b1 i1
      go_wp2_with fail
      refine (HC.out _ _ G_1.out).mono ?_
      rintro e u2 ⟨rfl, b2⟩
      have G_2 := Lib.hid (G_1.out.later b2)
      have B2 := Lib.hid (below_nx B1.out b2)
      clear b2
      go_wp2_with fail
      refine (HLg.out _ (H.out.later B2.out)).mono ?_
      rintro e u3 ⟨v3, rfl, i3, b3⟩
      have G_3 := Lib.hid i3
      have B3 := Lib.hid (below_nx B2.out b3)
      clear b3 i3
      go_wp2_with fail
      refine (HF.out _ _ G_3.out).mono ?_
      rintro e u4 ⟨v4, rfl, i4, b4⟩
      have G_4 := Lib.hid (G_3.out.later b4)
      have X_4 := Lib.hid i4
      have B4 := Lib.hid (below_nx B3.out b4)
      clear b4 i4
      go_wp2_with fail
      refine (HPr.out _ (H.out.later B4.out)).mono ?_
      rintro e u5 ⟨rfl, rfl⟩
      go_wp2_with fail
      refine (HRF.out _ (H.out.later B4.out)).mono ?_
      rintro e u6 ⟨hd, b6⟩
      rcases hd with ⟨hx, _⟩ | ⟨l1, r1, v6, hx, rfl, i6⟩
      · cases hx
      · cases hx
        have X_6 := Lib.hid (X_4.out.later b6)
        have Y_6 := Lib.hid i6
        have B6 := Lib.hid (below_nx B4.out b6)
        clear b6 i6
        go_wp2_with fail
        refine (HRC.out _ (H.out.later B6.out)).mono ?_
        rintro e u7 ⟨rfl, b7⟩
        have X_7 := Lib.hid (X_6.out.later b7)
        have Y_7 := Lib.hid (Y_6.out.later b7)
        have B7 := Lib.hid (below_nx B6.out b7)
        clear b7
        go_wp2_with fail
        refine (HE.out _ HZ.out _ _ _ X_7.out Y_7.out).mono ?_
        rintro e u8 ⟨rfl, q8, rfl⟩
        obtain ⟨x8, hx8⟩ : ∃ W, u7.drewN q8 = W := ⟨_, rfl⟩
        have hb8 := below_drewN (Below.refl u7.heap.size u7) q8
        rw [hx8] at hb8 ⊢
        have X_8 := Lib.hid (X_7.out.later hb8)
        have Y_8 := Lib.hid (Y_7.out.later hb8)
        have B8 := Lib.hid (below_nx B7.out hb8)
        clear hb8 hx8
        go_wp2_with fail
        refine (HAw.out _).mono ?_
        rintro e uz ⟨rfl, bz⟩
        go_wp2
        go_ret
        exact ⟨rfl, below_nx B8.out bz⟩
end

section
/-
  The statement on the worth and the best right part.
-/
open Go.ChangeShapes Go.WideShapes Go.ChangeAt Go.RowKit
set_option linter.unusedVariables false
set_option maxRecDepth 100000

set_option maxHeartbeats 2000000 in
theorem RWorthF_any (gs ss : List Int) (g s : Value) (w : World) (hp : pairB gs ss = true) (h : IntsV w g gs) (k : IntsV w s ss) :
    Calls Try.prog 51 #[g, s] w fun e w' => e = .returned (worthV gs ss) ∧ ∃ q, w' = w.drewN q := by
  obtain ⟨hg, hs, hlen⟩ := pair_parts hp
  have g1 := dpart_len hg
  have s1 := dpart_len hs
  have HC := Lib.hid (fun W hW hV => RCheck_any gs ss g s W hp hW hV)
  have HW := Lib.hid (fun W ha hb => RWorth_any gs ss g s W g1.2.1 g1.2.2 s1.2.2 hlen.symm (by omega) ha hb)
  have H := Lib.hid h
  have K := Lib.hid k
  obtain ⟨ao, cap, hv, _⟩ := h
  obtain ⟨bo, cap', hu, _⟩ := k
  subst hv hu
  cases hk : keptB gs ss
  · obtain ⟨a, b, hcv⟩ : ∃ a b : Int, checkV gs ss = .tuple #[.int .i64 a, .int .i64 b, .int .i64 0] := ⟨_, _, by unfold checkV; rw [hk]; rfl⟩
    rw [hcv] at HC
    rw [worthV_not hk]
    clear hp hg hs g1 s1 hlen hk hcv
    go_enter Try.func51, Try.ntmps51
    go_wp2_with fail
    refine (HC.out _ H.out K.out).mono ?_
    rintro e w1 ⟨rfl, q, rfl⟩
    go_wp2
    go_ret2
    exact ⟨rfl, q, rfl⟩
  · have hcv : checkV gs ss = .tuple #[.int .i64 0, .int .i64 0, .int .i64 4] := by unfold checkV; rw [hk, faultP_kept hk]; rfl
    rw [hcv] at HC
    rw [worthV_kept hk]
    unfold worthW
    generalize worthT gs ss ss.length = wo at *
    clear hp hg hs g1 s1 hlen hk hcv
    go_enter Try.func51, Try.ntmps51
    go_wp2_with fail
    refine (HC.out _ H.out K.out).mono ?_
    rintro e w1 ⟨rfl, q, rfl⟩
    go_wp2_with fail
    refine (HW.out _ (H.out.drewN q) (K.out.drewN q)).mono ?_
    rintro e w2 ⟨rfl, q2, rfl⟩
    go_wp2
    go_ret2
    exact ⟨rfl, q + q2, by first | rfl | simp only [World.drewN_drewN]⟩

set_option maxHeartbeats 4000000 in
theorem DuetsBest_walk (gs ss : List Int) (g s : Value) (w : World) (hl : gs.length ≤ maxLen) (h : IntsV w g gs) (hm : ss.length ≤ maxLen) (k : IntsV w s ss) :
    Calls Try.prog 10 #[g, s] w fun e w' => e = .returned (.bool true) ∧ Below w.heap.size w w' := by
  have HAw := Lib.hid (fun W => dawake_any W)
  have HLg := Lib.hid (fun W hW => dlist_any gs g W hl hW)
  have HLs := Lib.hid (fun W hW => dlist_any ss s W hm hW)
  have HPr := Lib.hid (fun W a => RPartD_any gs g W hl a)
  have HPp := Lib.hid (fun W a b => lpair_any gs ss g s W hl hm a b)
  have H := Lib.hid h
  have K := Lib.hid k
  have HE := Lib.hid (fun (zs : List Int) (hz : zs.length ≤ maxLen) a b W ha hb => by have := Equal_any zs zs a b W hz hz ha hb; rwa [show (zs == zs) = true from beq_self_eq_true _] at this)
  cases hg : dpartB gs
  · have hp : pairB gs ss = false := by rw [pair_cases, hg]; rfl
    have HB := Lib.hid (fun a W ha => Best_bad (gs.take 11) a W take11 (by rw [dpart_take]; exact hg) ha)
    have HWo := Lib.hid (fun a c W ha hc => Worth_bad (gs.take 11) (ss.take 11) a c W take11 take11 (by rw [pair_take]; exact hp) ha hc)
    rw [hg] at HPr
    rw [hp] at HPp
    obtain ⟨ao, cap, hv, _⟩ := h
    obtain ⟨bo, cap', hu, _⟩ := k
    subst hv hu
    clear hg hl hm hp
    go_enter Try.func10, Try.ntmps10
    go_wp2_with fail
    refine (HLg.out _ H.out).mono ?_
    rintro e u1 ⟨v1, rfl, i1, b1⟩
    have G_1 := Lib.hid i1
    have B1 := Lib.hid (b1)
    clear b1 i1
    go_wp2_with fail
    refine (HLs.out _ (K.out.later B1.out)).mono ?_
    rintro e u2 ⟨v2, rfl, i2, b2⟩
    have G_2 := Lib.hid (G_1.out.later b2)
    have S_2 := Lib.hid i2
    have B2 := Lib.hid (below_nx B1.out b2)
    clear b2 i2
    go_wp2_with fail
    refine (HWo.out _ _ _ G_2.out S_2.out).mono ?_
    rintro e u3 ⟨rfl, rfl⟩
    go_wp2_with fail
    refine (HLg.out _ (H.out.later B2.out)).mono ?_
    rintro e u4 ⟨v4, rfl, i4, b4⟩
    have G_4 := Lib.hid i4
    have B4 := Lib.hid (below_nx B2.out b4)
    clear b4 i4
    go_wp2_with fail
    refine (HB.out _ _ G_4.out).mono ?_
    rintro e u5 ⟨rfl, b5⟩
    have G_5 := Lib.hid (G_4.out.later b5)
    have B5 := Lib.hid (below_nx B4.out b5)
    clear b5
    go_wp2_with fail
    refine (HPr.out _ (H.out.later B5.out)).mono ?_
    rintro e u6 ⟨rfl, rfl⟩
    go_wp2_with fail
    refine (HPp.out _ (H.out.later B5.out) (K.out.later B5.out)).mono ?_
    rintro e u7 ⟨rfl, rfl⟩
    go_wp2_with fail
    refine (HAw.out _).mono ?_
    rintro e uz ⟨rfl, bz⟩
    go_wp2
    go_ret
    exact ⟨rfl, below_nx B5.out bz⟩
  · rw [hg] at HPr
    rw [dtake hg] at HLg
    have HB := Lib.hid (fun a W ha => Best_any gs a W hg ha)
    have HRB := Lib.hid (fun W a => RBest_any gs g W hg a)
    have HZ := Lib.hid (fun b (hb : bestF gs (rightL gs) = some b) => show b.length ≤ maxLen by have h1 := (dpart_len (pair_parts (best_some hg hb).2.1).2.1).2.1; unfold maxLen; omega)
    obtain ⟨bo0, hbo⟩ : ∃ o, bestF gs (rightL gs) = o := ⟨_, rfl⟩
    rw [hbo] at HB HRB HZ
    clear hbo
    cases hp : pairB gs ss
    · have HWo := Lib.hid (fun a c W ha hc => Worth_bad gs (ss.take 11) a c W hl take11 (by have h9 := pair_take gs ss; rw [dtake hg] at h9; rw [h9]; exact hp) ha hc)
      rw [hp] at HPp
      obtain ⟨ao, cap, hv, _⟩ := h
      obtain ⟨bo, cap', hu, _⟩ := k
      subst hv hu
      clear hg hl hm hp
      go_enter Try.func10, Try.ntmps10
      go_wp2_with fail
      refine (HLg.out _ H.out).mono ?_
      rintro e u1 ⟨v1, rfl, i1, b1⟩
      have G_1 := Lib.hid i1
      have B1 := Lib.hid (b1)
      clear b1 i1
      go_wp2_with fail
      refine (HLs.out _ (K.out.later B1.out)).mono ?_
      rintro e u2 ⟨v2, rfl, i2, b2⟩
      have G_2 := Lib.hid (G_1.out.later b2)
      have S_2 := Lib.hid i2
      have B2 := Lib.hid (below_nx B1.out b2)
      clear b2 i2
      go_wp2_with fail
      refine (HWo.out _ _ _ G_2.out S_2.out).mono ?_
      rintro e u3 ⟨rfl, rfl⟩
      go_wp2_with fail
      refine (HLg.out _ (H.out.later B2.out)).mono ?_
      rintro e u4 ⟨v4, rfl, i4, b4⟩
      have G_4 := Lib.hid i4
      have B4 := Lib.hid (below_nx B2.out b4)
      clear b4 i4
      go_wp2_with fail
      refine (HB.out _ _ G_4.out).mono ?_
      rintro e u5 ⟨v5, cc, rfl, hd, b5⟩
      have B5 := Lib.hid (below_nx B4.out b5)
      clear b5
      rcases hd with ⟨e1, rfl, rfl⟩ | ⟨bb, e1, i5, rfl⟩
      · subst e1
        go_wp2_with fail
        refine (HPr.out _ (H.out.later B5.out)).mono ?_
        rintro e u6 ⟨rfl, rfl⟩
        go_wp2_with fail
        refine (HRB.out _ (H.out.later B5.out)).mono ?_
        rintro e u7 ⟨hd, b7⟩
        rcases hd with ⟨_, rfl⟩ | ⟨b1, v1, hx, _⟩
        · skip
          have B7 := Lib.hid (below_nx B5.out b7)
          clear b7
          go_wp2_with fail
          refine (HE.out [] (by simp) _ _ _ (IntsV.nilD _) (IntsV.nilD _)).mono ?_
          rintro e u8 ⟨rfl, q8, rfl⟩
          obtain ⟨x8, hx8⟩ : ∃ W, u7.drewN q8 = W := ⟨_, rfl⟩
          have hb8 := below_drewN (Below.refl u7.heap.size u7) q8
          rw [hx8] at hb8 ⊢
          have B8 := Lib.hid (below_nx B7.out hb8)
          clear hb8 hx8
          go_wp2_with fail
          refine (HPp.out _ (H.out.later B8.out) (K.out.later B8.out)).mono ?_
          rintro e u9 ⟨rfl, rfl⟩
          go_wp2_with fail
          refine (HAw.out _).mono ?_
          rintro e uz ⟨rfl, bz⟩
          go_wp2
          go_ret
          exact ⟨rfl, below_nx B8.out bz⟩
        · cases hx
      · subst e1
        have X_5 := Lib.hid i5
        clear i5
        have HZ2 := Lib.hid (HZ.out bb rfl)
        go_wp2_with fail
        refine (HPr.out _ (H.out.later B5.out)).mono ?_
        rintro e u6 ⟨rfl, rfl⟩
        go_wp2_with fail
        refine (HRB.out _ (H.out.later B5.out)).mono ?_
        rintro e u7 ⟨hd, b7⟩
        rcases hd with ⟨hx, _⟩ | ⟨b1, v7, hx, rfl, i7⟩
        · cases hx
        · cases hx
          have X_7 := Lib.hid (X_5.out.later b7)
          have Y_7 := Lib.hid i7
          have B7 := Lib.hid (below_nx B5.out b7)
          clear b7 i7
          go_wp2_with fail
          refine (HE.out _ HZ2.out _ _ _ X_7.out Y_7.out).mono ?_
          rintro e u8 ⟨rfl, q8, rfl⟩
          obtain ⟨x8, hx8⟩ : ∃ W, u7.drewN q8 = W := ⟨_, rfl⟩
          have hb8 := below_drewN (Below.refl u7.heap.size u7) q8
          rw [hx8] at hb8 ⊢
          have X_8 := Lib.hid (X_7.out.later hb8)
          have Y_8 := Lib.hid (Y_7.out.later hb8)
          have B8 := Lib.hid (below_nx B7.out hb8)
          clear hb8 hx8
          go_wp2_with fail
          refine (HPp.out _ (H.out.later B8.out) (K.out.later B8.out)).mono ?_
          rintro e u9 ⟨rfl, rfl⟩
          go_wp2_with fail
          refine (HAw.out _).mono ?_
          rintro e uz ⟨rfl, bz⟩
          go_wp2
          go_ret
          exact ⟨rfl, below_nx B8.out bz⟩
    · rw [dtake (pair_parts hp).2.1] at HLs
      have HWo := Lib.hid (fun a c W ha hc => Worth_ok gs ss a c W hp ha hc)
      have HRW := Lib.hid (fun W a c => RWorthF_any gs ss g s W hp a c)
      obtain ⟨n1, n2, hwv⟩ : ∃ n1 n2 : Int, worthV gs ss = .tuple #[.int .i64 n1, .int .i64 n2] := ⟨_, _, rfl⟩
      rw [hwv] at HWo HRW
      have e1 : (n1 == n1) = true := beq_self_eq_true _
      have e2 : (n2 == n2) = true := beq_self_eq_true _
      rw [hp] at HPp
      obtain ⟨ao, cap, hv, _⟩ := h
      obtain ⟨bo, cap', hu, _⟩ := k
      subst hv hu
      clear hg hl hm hp hwv
      go_enter Try.func10, Try.ntmps10
      go_wp2_with fail
      refine (HLg.out _ H.out).mono ?_
      rintro e u1 ⟨v1, rfl, i1, b1⟩
      have G_1 := Lib.hid i1
      have B1 := Lib.hid (b1)
      clear b1 i1
      go_wp2_with fail
      refine (HLs.out _ (K.out.later B1.out)).mono ?_
      rintro e u2 ⟨v2, rfl, i2, b2⟩
      have G_2 := Lib.hid (G_1.out.later b2)
      have S_2 := Lib.hid i2
      have B2 := Lib.hid (below_nx B1.out b2)
      clear b2 i2
      go_wp2_with fail
      refine (HWo.out _ _ _ G_2.out S_2.out).mono ?_
      rintro e u3 ⟨rfl, b3⟩
      have G_3 := Lib.hid (G_2.out.later b3)
      have S_3 := Lib.hid (S_2.out.later b3)
      have B3 := Lib.hid (below_nx B2.out b3)
      clear b3
      go_wp2_with fail
      refine (HLg.out _ (H.out.later B3.out)).mono ?_
      rintro e u4 ⟨v4, rfl, i4, b4⟩
      have G_4 := Lib.hid i4
      have B4 := Lib.hid (below_nx B3.out b4)
      clear b4 i4
      go_wp2_with fail
      refine (HB.out _ _ G_4.out).mono ?_
      rintro e u5 ⟨v5, cc, rfl, hd, b5⟩
      have B5 := Lib.hid (below_nx B4.out b5)
      clear b5
      rcases hd with ⟨e1, rfl, rfl⟩ | ⟨bb, e1, i5, rfl⟩
      · subst e1
        go_wp2_with fail
        refine (HPr.out _ (H.out.later B5.out)).mono ?_
        rintro e u6 ⟨rfl, rfl⟩
        go_wp2_with fail
        refine (HRB.out _ (H.out.later B5.out)).mono ?_
        rintro e u7 ⟨hd, b7⟩
        rcases hd with ⟨_, rfl⟩ | ⟨b1, v1, hx, _⟩
        · skip
          have B7 := Lib.hid (below_nx B5.out b7)
          clear b7
          go_wp2_with fail
          refine (HE.out [] (by simp) _ _ _ (IntsV.nilD _) (IntsV.nilD _)).mono ?_
          rintro e u8 ⟨rfl, q8, rfl⟩
          obtain ⟨x8, hx8⟩ : ∃ W, u7.drewN q8 = W := ⟨_, rfl⟩
          have hb8 := below_drewN (Below.refl u7.heap.size u7) q8
          rw [hx8] at hb8 ⊢
          have B8 := Lib.hid (below_nx B7.out hb8)
          clear hb8 hx8
          go_wp2_with fail
          refine (HPp.out _ (H.out.later B8.out) (K.out.later B8.out)).mono ?_
          rintro e u9 ⟨rfl, rfl⟩
          go_wp2_with fail
          refine (HRW.out _ (H.out.later B8.out) (K.out.later B8.out)).mono ?_
          rintro e u10 ⟨rfl, q10, rfl⟩
          obtain ⟨x10, hx10⟩ : ∃ W, x8.drewN q10 = W := ⟨_, rfl⟩
          have hb10 := below_drewN (Below.refl x8.heap.size x8) q10
          rw [hx10] at hb10 ⊢
          have B10 := Lib.hid (below_nx B8.out hb10)
          clear hb10 hx10
          go_wp2_with fail
          refine (HAw.out _).mono ?_
          rintro e uz ⟨rfl, bz⟩
          go_wp2
          go_ret
          exact ⟨rfl, below_nx B10.out bz⟩
        · cases hx
      · subst e1
        have X_5 := Lib.hid i5
        clear i5
        have HZ2 := Lib.hid (HZ.out bb rfl)
        go_wp2_with fail
        refine (HPr.out _ (H.out.later B5.out)).mono ?_
        rintro e u6 ⟨rfl, rfl⟩
        go_wp2_with fail
        refine (HRB.out _ (H.out.later B5.out)).mono ?_
        rintro e u7 ⟨hd, b7⟩
        rcases hd with ⟨hx, _⟩ | ⟨b1, v7, hx, rfl, i7⟩
        · cases hx
        · cases hx
          have X_7 := Lib.hid (X_5.out.later b7)
          have Y_7 := Lib.hid i7
          have B7 := Lib.hid (below_nx B5.out b7)
          clear b7 i7
          go_wp2_with fail
          refine (HE.out _ HZ2.out _ _ _ X_7.out Y_7.out).mono ?_
          rintro e u8 ⟨rfl, q8, rfl⟩
          obtain ⟨x8, hx8⟩ : ∃ W, u7.drewN q8 = W := ⟨_, rfl⟩
          have hb8 := below_drewN (Below.refl u7.heap.size u7) q8
          rw [hx8] at hb8 ⊢
          have X_8 := Lib.hid (X_7.out.later hb8)
          have Y_8 := Lib.hid (Y_7.out.later hb8)
          have B8 := Lib.hid (below_nx B7.out hb8)
          clear hb8 hx8
          go_wp2_with fail
          refine (HPp.out _ (H.out.later B8.out) (K.out.later B8.out)).mono ?_
          rintro e u9 ⟨rfl, rfl⟩
          go_wp2_with fail
          refine (HRW.out _ (H.out.later B8.out) (K.out.later B8.out)).mono ?_
          rintro e u10 ⟨rfl, q10, rfl⟩
          obtain ⟨x10, hx10⟩ : ∃ W, x8.drewN q10 = W := ⟨_, rfl⟩
          have hb10 := below_drewN (Below.refl x8.heap.size x8) q10
          rw [hx10] at hb10 ⊢
          have B10 := Lib.hid (below_nx B8.out hb10)
          clear hb10 hx10
          go_wp2_with fail
          refine (HAw.out _).mono ?_
          rintro e uz ⟨rfl, bz⟩
          go_wp2
          go_ret
          exact ⟨rfl, below_nx B10.out bz⟩
end

end Go.Proofs.Ytlmfmfbnbbooaaa
