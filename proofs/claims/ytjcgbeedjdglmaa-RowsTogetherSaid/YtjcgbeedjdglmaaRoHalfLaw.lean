/-
  The statements on Halves.
-/
import Derived.Test.YtjcgbeedjdglmaaRoHalf
namespace Go.Proofs.Ytjcgbeedjdglmaa
open Go.ChangeShapes Go.WideShapes Go.ChangeAt Go.RowKit
set_option maxRecDepth 100000

set_option maxHeartbeats 2000000 in
theorem RowsHalves_walk (xs : List Int) (v : Value) (w : World) (hl : xs.length ≤ maxLen) (h : IntsV w v xs) :
    Calls Try.prog 7 #[v] w fun e w' => e = .returned (.bool true) ∧ Below w.heap.size w w' := by
  have HAw := Lib.hid (fun W => awake_any W)
  have HL := Lib.hid (fun W hW => list_any xs v W hl hW)
  have HRo := Lib.hid (fun W hW => RRow_any xs v W hl hW)
  have H := Lib.hid h
  obtain ⟨ao, cap, hv, _⟩ := h
  cases hr : rowB xs
  · have HF := Lib.hid (fun u W hu => Halves_bad (xs.take 13) (take_len xs) (by rw [row_take]; exact hr) u W hu)
    rw [hr] at HRo
    clear hr
    subst hv
    go_enter Try.func7, Try.ntmps7
    go_wp2_with fail
    refine (HL.out _ H.out).mono ?_
    rintro e w1 ⟨v1, rfl, i1, b1⟩
    have J1 := Lib.hid (HF.out v1 w1 i1)
    clear i1
    go_wp2_with fail
    refine J1.out.mono ?_
    rintro e w2 ⟨rfl, b2⟩
    have B2 := Lib.hid (below_nx b1 b2)
    have K2 := Lib.hid (H.out.later B2.out)
    clear b1 b2
    go_wp2_with fail
    refine (HRo.out _ K2.out).mono ?_
    rintro e w3 ⟨rfl, rfl⟩
    go_wp2_with fail
    refine (HAw.out _).mono ?_
    rintro e w5 ⟨rfl, b5⟩
    go_wp2
    go_ret
    exact ⟨rfl, below_nx B2.out b5⟩
  · obtain ⟨ys, rfl, hR⟩ := row_nat hr
    rw [row_take13 hR] at HL
    rw [hr] at HRo
    rw [natI_length] at hv
    have HRE := Lib.hid (fun u W hu => REvery_any _ ys hR u W hu)
    cases he : everyB ys.length ys
    · have HF := Lib.hid (fun u W hu => Halves_state _ ys hR he u W hu)
      rw [he] at HRE
      clear hr hl hR he
      generalize natI ys = xs at *
      generalize ys.length = n at *
      subst hv
      go_enter Try.func7, Try.ntmps7
      go_wp2_with fail
      refine (HL.out _ H.out).mono ?_
      rintro e w1 ⟨v1, rfl, i1, b1⟩
      have J1 := Lib.hid (HF.out v1 w1 i1)
      clear i1
      go_wp2_with fail
      refine J1.out.mono ?_
      rintro e w2 ⟨rfl, b2⟩
      have B2 := Lib.hid (below_nx b1 b2)
      have K2 := Lib.hid (H.out.later B2.out)
      clear b1 b2
      go_wp2_with fail
      refine (HRo.out _ K2.out).mono ?_
      rintro e w3 ⟨rfl, rfl⟩
      go_wp2_with fail
      refine (HRE.out _ _ K2.out).mono ?_
      rintro e w4 ⟨rfl, b4⟩
      have B4 := Lib.hid (below_nx B2.out b4)
      clear b4
      go_wp2_with fail
      refine (HAw.out _).mono ?_
      rintro e w5 ⟨rfl, b5⟩
      go_wp2
      go_ret
      exact ⟨rfl, below_nx B4.out b5⟩
    · have HF := Lib.hid (fun u W hu => Halves_ok _ ys hR he u W hu)
      have HRH := Lib.hid (fun u W hu => RHalves_any _ ys hR he u W hu)
      have hlh := row_len (halves_row hR)
      have HEq := Lib.hid (fun a b W ha hb => Equal_any (natI (halvesL ys.length ys)) (natI (halvesL ys.length ys)) a b W hlh hlh ha hb)
      rw [show (natI (halvesL ys.length ys) == natI (halvesL ys.length ys)) = true from beq_self_eq_true _] at HEq
      rw [he] at HRE
      clear hr hl hR he hlh
      generalize natI (halvesL ys.length ys) = hs at *
      generalize natI ys = xs at *
      generalize ys.length = n at *
      subst hv
      go_enter Try.func7, Try.ntmps7
      go_wp2_with fail
      refine (HL.out _ H.out).mono ?_
      rintro e w1 ⟨v1, rfl, i1, b1⟩
      have J1 := Lib.hid (HF.out v1 w1 i1)
      clear i1
      go_wp2_with fail
      refine J1.out.mono ?_
      rintro e w2 ⟨v2, rfl, i2, b2⟩
      have B2 := Lib.hid (below_nx b1 b2)
      have I2 := Lib.hid i2
      have K2 := Lib.hid (H.out.later B2.out)
      clear b1 b2 i2
      go_wp2_with fail
      refine (HRo.out _ K2.out).mono ?_
      rintro e w3 ⟨rfl, rfl⟩
      go_wp2_with fail
      refine (HRE.out _ _ K2.out).mono ?_
      rintro e w4 ⟨rfl, b4⟩
      have B4 := Lib.hid (below_nx B2.out b4)
      have I4 := Lib.hid (I2.out.later b4)
      have K4 := Lib.hid (H.out.later B4.out)
      clear b4
      go_wp2_with fail
      refine (HRH.out _ _ K4.out).mono ?_
      rintro e w5 ⟨v5, rfl, i5, b5⟩
      have J5 := Lib.hid (HEq.out _ _ _ (I4.out.later b5) i5)
      have B5 := Lib.hid (below_nx B4.out b5)
      clear i5 b5
      go_wp2_with fail
      refine J5.out.mono ?_
      rintro e w6 ⟨rfl, q, rfl⟩
      have B6 := Lib.hid (below_drewN B5.out q)
      generalize w5.drewN q = w6 at *
      go_wp2_with fail
      refine (HAw.out _).mono ?_
      rintro e w7 ⟨rfl, b7⟩
      go_wp2
      go_ret
      exact ⟨rfl, below_nx B6.out b7⟩
end Go.Proofs.Ytjcgbeedjdglmaa
