/-
  The statement on Steps and Every.
-/
import Derived.Test.YtjcgbeedjdglmaaRoEvery
namespace Go.Proofs.Ytjcgbeedjdglmaa
open Go.ChangeShapes Go.WideShapes Go.ChangeAt Go.RowKit
set_option maxRecDepth 100000

theorem row_take (xs : List Int) : rowB (xs.take 13) = rowB xs := by
  by_cases h : xs.length ≤ 13
  · rw [List.take_of_length_le h]
  · unfold rowB
    rw [decide_eq_false (by rw [List.length_take]; omega), decide_eq_false (by omega), Bool.false_and, Bool.false_and]
theorem take_len (xs : List Int) : (xs.take 13).length ≤ maxLen := by rw [List.length_take]; unfold maxLen; omega
theorem row_take13 {n : Nat} {ys : List Nat} (h : IsRow n ys) : (natI ys).take 13 = natI ys := by
  rw [List.take_of_length_le (by rw [natI_length, h.len]; have := h.hi; omega)]
theorem row_len {n : Nat} {ys : List Nat} (h : IsRow n ys) : (natI ys).length ≤ maxLen := by
  rw [natI_length, h.len]; have := h.hi; unfold maxLen; omega

set_option maxHeartbeats 2000000 in
theorem RowsSteps_walk (xs : List Int) (v : Value) (w : World) (hl : xs.length ≤ maxLen) (h : IntsV w v xs) :
    Calls Try.prog 3 #[v] w fun e w' => e = .returned (.bool true) ∧ Below w.heap.size w w' := by
  have HAw := Lib.hid (fun W => awake_any W)
  cases hr : rowB xs
  · have HL := Lib.hid (fun W hW => list_any xs v W hl hW)
    have HSt := Lib.hid (fun u W hu => Steps_bad (xs.take 13) (take_len xs) (by rw [row_take]; exact hr) u W hu)
    have HEv := Lib.hid (fun u W hu => Every_bad (xs.take 13) (take_len xs) (by rw [row_take]; exact hr) u W hu)
    have HRo := Lib.hid (fun W hW => RRow_any xs v W hl hW)
    rw [hr] at HRo
    have H := Lib.hid h
    clear hr h
    go_enter Try.func3, Try.ntmps3
    go_wp2_with fail
    refine (HL.out _ H.out).mono ?_
    rintro e w1 ⟨v1, rfl, i1, b1⟩
    have J1 := Lib.hid (HSt.out v1 w1 i1)
    clear i1
    go_wp2_with fail
    refine J1.out.mono ?_
    rintro e w2 ⟨rfl, rfl⟩
    have K1 := Lib.hid (H.out.later b1)
    go_wp2_with fail
    refine (HL.out _ K1.out).mono ?_
    rintro e w3 ⟨v3, rfl, i3, b3⟩
    have J3 := Lib.hid (HEv.out v3 w3 i3)
    have B3 := Lib.hid (below_nx b1 b3)
    have K3 := Lib.hid (H.out.later B3.out)
    clear i3 b3 b1
    go_wp2_with fail
    refine J3.out.mono ?_
    rintro e w4 ⟨rfl, rfl⟩
    go_wp2_with fail
    refine (HRo.out _ K3.out).mono ?_
    rintro e w5 ⟨rfl, rfl⟩
    go_wp2_with fail
    refine (HAw.out _).mono ?_
    rintro e w6 ⟨rfl, b6⟩
    go_wp2
    go_ret
    exact ⟨rfl, below_nx B3.out b6⟩
  · obtain ⟨ys, rfl, hR⟩ := row_nat hr
    have HL := Lib.hid (fun W hW => list_any (natI ys) v W hl hW)
    rw [row_take13 hR] at HL
    have HSt := Lib.hid (fun u W hu => Steps_ok _ ys hR u W hu)
    have HEv := Lib.hid (fun u W hu => Every_ok _ ys hR u W hu)
    have HRS := Lib.hid (fun u W hu => RSteps_any _ ys hR u W hu)
    have HRE := Lib.hid (fun u W hu => REvery_any _ ys hR u W hu)
    have HRo := Lib.hid (fun W hW => RRow_any (natI ys) v W hl hW)
    rw [hr] at HRo
    have HEq := Lib.hid (fun a b W ha hb => Equal_any (natI (stepsL ys.length ys)) (natI (stepsL ys.length ys)) a b W (by rw [natI_length, stepsL_length]; have := hR.hi; unfold maxLen; omega) (by rw [natI_length, stepsL_length]; have := hR.hi; unfold maxLen; omega) ha hb)
    rw [show (natI (stepsL ys.length ys) == natI (stepsL ys.length ys)) = true from beq_self_eq_true _] at HEq
    have H := Lib.hid h
    obtain ⟨ao, cap, hv, _⟩ := h
    rw [natI_length] at hv
    clear hr hl hR
    generalize everyB ys.length ys = ev at *
    generalize hn : ys.length = n at *
    generalize natI (stepsL n ys) = st at *
    generalize natI ys = xs at *
    subst hv
    clear hn
    go_enter Try.func3, Try.ntmps3
    go_wp2_with fail
    refine (HL.out _ H.out).mono ?_
    rintro e w1 ⟨v1, rfl, i1, b1⟩
    have J1 := Lib.hid (HSt.out v1 w1 i1)
    clear i1
    go_wp2_with fail
    refine J1.out.mono ?_
    rintro e w2 ⟨u2, rfl, i2, b2⟩
    have I2 := Lib.hid i2
    have B2 := Lib.hid (below_nx b1 b2)
    have K2 := Lib.hid (H.out.later B2.out)
    clear i2 b1 b2 J1
    go_wp2_with fail
    refine (HL.out _ K2.out).mono ?_
    rintro e w3 ⟨v3, rfl, i3, b3⟩
    have J3 := Lib.hid (HEv.out v3 w3 i3)
    have B3 := Lib.hid (below_nx B2.out b3)
    have I3 := Lib.hid (I2.out.later b3)
    clear i3 b3 I2
    go_wp2_with fail
    refine J3.out.mono ?_
    rintro e w4 ⟨rfl, b4⟩
    have B4 := Lib.hid (below_nx B3.out b4)
    have I4 := Lib.hid (I3.out.later b4)
    have K4 := Lib.hid (H.out.later B4.out)
    clear b4
    go_wp2_with fail
    refine (HRo.out _ K4.out).mono ?_
    rintro e w5 ⟨rfl, rfl⟩
    go_wp2_with fail
    refine (HRS.out _ _ K4.out).mono ?_
    rintro e w6 ⟨v6, rfl, i6, b6⟩
    have J6 := Lib.hid (HEq.out _ _ _ (I4.out.later b6) i6)
    have B6 := Lib.hid (below_nx B4.out b6)
    clear i6 b6
    go_wp2_with fail
    refine J6.out.mono ?_
    rintro e w7 ⟨rfl, q, rfl⟩
    have B7 := Lib.hid (below_drewN B6.out q)
    have K7 := Lib.hid (H.out.later B7.out)
    generalize w6.drewN q = w7 at *
    go_wp2_with fail
    refine (HRE.out _ _ K7.out).mono ?_
    rintro e w8 ⟨rfl, b8⟩
    have B8 := Lib.hid (below_nx B7.out b8)
    clear b8
    go_wp2_with fail
    refine (HAw.out _).mono ?_
    rintro e w9 ⟨rfl, b9⟩
    go_wp2
    go_ret
    exact ⟨rfl, below_nx B8.out b9⟩
end Go.Proofs.Ytjcgbeedjdglmaa
