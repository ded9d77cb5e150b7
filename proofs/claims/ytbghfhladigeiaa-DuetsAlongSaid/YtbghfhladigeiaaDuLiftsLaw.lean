/-
  The statement on Lift.
-/
import Derived.Test.YtbghfhladigeiaaDuLift
namespace Go.Proofs.Ytbghfhladigeiaa
open Go.ChangeShapes Go.WideShapes Go.ChangeAt Go.RowKit
set_option maxRecDepth 100000

theorem wf64 {a : Int} (h : (Lit.int .i64 a).wf = true) : -9223372036854775808 ≤ a ∧ a ≤ 9223372036854775807 := by
  unfold Lit.wf at h
  rw [Bool.and_eq_true, decide_eq_true_eq, decide_eq_true_eq] at h
  exact h
theorem IntsV.nilD (W : World) : IntsV W (.slice none 0 0) [] := ⟨none, 0, rfl, Nat.le_refl _, fun h => by cases h⟩

set_option maxHeartbeats 2000000 in
theorem DuetsLifts_walk (xs : List Int) (b' : Int) (v : Value) (w : World) (hl : xs.length ≤ maxLen) (h : IntsV w v xs) (wk : (Lit.int .i64 b').wf = true) :
    Calls Try.prog 7 #[v, .int .i64 b'] w fun e w' => e = .returned (.bool true) ∧ Below w.heap.size w w' := by
  have HAw := Lib.hid (fun W => dawake_any W)
  have HL := Lib.hid (fun W hW => dlist_any xs v W hl hW)
  have HRo := Lib.hid (fun W hW => RPartD_any xs v W hl hW)
  have H := Lib.hid h
  have hwf := wf64 wk
  obtain ⟨ao, cap, hv, _⟩ := h
  cases hp : dpartB xs
  · have hpt : dpartB (xs.take 11) = false := by rw [dpart_take]; exact hp
    rw [hp] at HRo
    have HB := Lib.hid (fun u W hu => Lift_bad (xs.take 11) b' u W take11 hpt hu)
    clear hp hpt hl wk hwf
    subst hv
    go_enter Try.func7, Try.ntmps7
    go_wp2_with fail
    refine (HL.out _ H.out).mono ?_
    rintro e w1 ⟨v1, rfl, i1, b1⟩
    have J1 := Lib.hid (HB.out v1 w1 i1)
    have B1 := Lib.hid b1
    clear i1 b1
    go_wp2_with fail
    refine J1.out.mono ?_
    rintro e w2 ⟨rfl, rfl⟩
    go_wp2_with fail
    refine (HRo.out _ (H.out.later B1.out)).mono ?_
    rintro e w3 ⟨rfl, rfl⟩
    go_wp2_with fail
    refine (HAw.out _).mono ?_
    rintro e w5 ⟨rfl, b5⟩
    go_wp2
    go_ret
    exact ⟨rfl, below_nx B1.out b5⟩
  · have hd := dpart_len hp
    rw [dtake hp] at HL
    rw [hp] at HRo
    have HX : (∃ ls : List Int, ls.length ≤ maxLen ∧ (∀ u W, IntsV W u xs → Calls Try.prog 36 #[u, .int .i64 b'] W fun e w' => ∃ v', e = .returned (.tuple #[v', .int .i64 0]) ∧ IntsV w' v' ls ∧ Below W.heap.size W w') ∧
          (∀ u W, IntsV W u xs → Calls Try.prog 37 #[u, .int .i64 b'] W fun e w' => ∃ v', e = .returned (.tuple #[v', .int .i64 0]) ∧ IntsV w' v' ls ∧ Below W.heap.size W w')) ∨
        ((∀ u W, IntsV W u xs → Calls Try.prog 36 #[u, .int .i64 b'] W fun e w' => e = .returned (.tuple #[.slice none 0 0, .int .i64 4]) ∧ Below W.heap.size W w') ∧
          (∀ u W, IntsV W u xs → Calls Try.prog 37 #[u, .int .i64 b'] W fun e w' => e = .returned (.tuple #[.slice none 0 0, .int .i64 4]) ∧ Below W.heap.size W w')) := by
      by_cases hr : -20 ≤ b' ∧ b' ≤ 20
      · have e1 := lift_in hd.2.2 hr.1 hr.2
        cases hn : notesB (liftP b' xs)
        · exact .inr ⟨fun u W hu => Lift_none xs b' u W hp (by rw [e1]; exact hn) hu, fun u W hu => RLift_none xs b' u W hp hr.1 hr.2 hn hu⟩
        · refine .inl ⟨liftP b' xs, by unfold liftP; rw [List.length_map]; exact hl, fun u W hu => ?_, fun u W hu => ?_⟩
          · refine (Lift_in xs b' u W hp (by rw [e1]; exact hn) hu).mono fun e w' h => ?_
            obtain ⟨v', h1, h2, h3⟩ := h
            rw [e1] at h2
            exact ⟨v', h1, h2, h3⟩
          · refine (RLift_in xs b' u W hp hr.1 hr.2 hn hu).mono fun e w' h => ?_
            obtain ⟨v', h1, h2, h3⟩ := h
            exact ⟨v', h1, h2, h3⟩
      · exact .inr ⟨fun u W hu => Lift_none xs b' u W hp (lift_out (by omega) hd.2.2 hwf hr) hu, fun u W hu => RLift_far xs b' u W hr hl hu⟩
    clear hp hd hl wk hwf
    subst hv
    rcases HX with ⟨ls, hls, h1, h2⟩ | ⟨h1, h2⟩
    · have H1 := Lib.hid h1
      have H2 := Lib.hid h2
      have HQ := Lib.hid (fun a b W ha hb => Equal_any ls ls a b W hls hls ha hb)
      rw [show (ls == ls) = true from beq_self_eq_true _] at HQ
      clear h1 h2 hls
      go_enter Try.func7, Try.ntmps7
      go_wp2_with fail
      refine (HL.out _ H.out).mono ?_
      rintro e w1 ⟨v1, rfl, i1, b1⟩
      have J1 := Lib.hid (H1.out v1 w1 i1)
      have B1 := Lib.hid b1
      clear i1 b1
      go_wp2_with fail
      refine J1.out.mono ?_
      rintro e w2 ⟨v2, rfl, i2, b2⟩
      have B2 := Lib.hid (below_nx B1.out b2)
      have I2 := Lib.hid i2
      clear i2 b2
      go_wp2_with fail
      refine (HRo.out _ (H.out.later B2.out)).mono ?_
      rintro e w3 ⟨rfl, rfl⟩
      go_wp2_with fail
      refine (H2.out _ _ (H.out.later B2.out)).mono ?_
      rintro e w4 ⟨v4, rfl, i4, b4⟩
      have B4 := Lib.hid (below_nx B2.out b4)
      have Q4 := Lib.hid (HQ.out v2 v4 w4 (I2.out.later b4) i4)
      clear i4 b4
      go_wp2_with fail
      refine Q4.out.mono ?_
      rintro e w5 ⟨rfl, q, rfl⟩
      obtain ⟨w6, hw6⟩ : ∃ W, w4.drewN q = W := ⟨_, rfl⟩
      have B6 := Lib.hid (show Below w.heap.size w w6 by rw [← hw6]; exact below_drewN B4.out q)
      rw [hw6]
      clear hw6
      go_wp2_with fail
      refine (HAw.out _).mono ?_
      rintro e w7 ⟨rfl, b7⟩
      go_wp2
      go_ret
      exact ⟨rfl, below_nx B6.out b7⟩
    · have H1 := Lib.hid h1
      have H2 := Lib.hid h2
      have HQ := Lib.hid (fun W => Equal_any [] [] (.slice none 0 0) (.slice none 0 0) W (Nat.zero_le _) (Nat.zero_le _) (IntsV.nilD W) (IntsV.nilD W))
      rw [show (([] : List Int) == []) = true from rfl] at HQ
      clear h1 h2
      go_enter Try.func7, Try.ntmps7
      go_wp2_with fail
      refine (HL.out _ H.out).mono ?_
      rintro e w1 ⟨v1, rfl, i1, b1⟩
      have J1 := Lib.hid (H1.out v1 w1 i1)
      have B1 := Lib.hid b1
      clear i1 b1
      go_wp2_with fail
      refine J1.out.mono ?_
      rintro e w2 ⟨rfl, b2⟩
      have B2 := Lib.hid (below_nx B1.out b2)
      clear b2
      go_wp2_with fail
      refine (HRo.out _ (H.out.later B2.out)).mono ?_
      rintro e w3 ⟨rfl, rfl⟩
      go_wp2_with fail
      refine (H2.out _ _ (H.out.later B2.out)).mono ?_
      rintro e w4 ⟨rfl, b4⟩
      have B4 := Lib.hid (below_nx B2.out b4)
      clear b4
      go_wp2_with fail
      refine (HQ.out _).mono ?_
      rintro e w5 ⟨rfl, q, rfl⟩
      obtain ⟨w6, hw6⟩ : ∃ W, w4.drewN q = W := ⟨_, rfl⟩
      have B6 := Lib.hid (show Below w.heap.size w w6 by rw [← hw6]; exact below_drewN B4.out q)
      rw [hw6]
      clear hw6
      go_wp2_with fail
      refine (HAw.out _).mono ?_
      rintro e w7 ⟨rfl, b7⟩
      go_wp2
      go_ret
      exact ⟨rfl, below_nx B6.out b7⟩
end Go.Proofs.Ytbghfhladigeiaa
