/-
  The statement on both ways of Follow.
-/
import Derived.Test.YtjcgbeedjdglmaaRoFollowLaw
import Derived.Test.YtjcgbeedjdglmaaRoForms
namespace Go.Proofs.Ytjcgbeedjdglmaa
open Go.ChangeShapes Go.WideShapes Go.ChangeAt Go.RowKit
set_option maxRecDepth 100000

set_option maxHeartbeats 2000000 in
theorem RowsBehind_walk (xs : List Int) (k : Int) (v : Value) (w : World) (hl : xs.length ≤ maxLen) (h : IntsV w v xs) (wk : (Lit.int .i64 k).wf = true) :
    Calls Try.prog 17 #[v, .int .i64 k] w fun e w' => e = .returned (.bool true) ∧ Below w.heap.size w w' := by
  have HAw := Lib.hid (fun W => awake_any W)
  have HL := Lib.hid (fun W hW => list_any xs v W hl hW)
  have HRo := Lib.hid (fun W hW => RRow_any xs v W hl hW)
  have H := Lib.hid h
  obtain ⟨ao, cap, hv, _⟩ := h
  by_cases hg : rowB xs = true ∧ 1 ≤ k ∧ k < xs.length
  · obtain ⟨hr, h1, h2⟩ := hg
    obtain ⟨ys, rfl, hR⟩ := row_nat hr
    rw [natI_length] at h2 hv
    obtain ⟨k, rfl⟩ := Int.eq_ofNat_of_zero_le (show 0 ≤ k by omega)
    rw [row_take13 hR] at HL
    rw [hr] at HRo
    have HF := Lib.hid (fun u W hu => Follow_ok _ k ys hR (by omega) (by omega) u W hu)
    have HG := Lib.hid (fun u W hu => Follow_ok _ (ys.length - k) ys hR (by omega) (by omega) u W hu)
    have HFo := Lib.hid (fun u W hu => Form_ok _ ys hR 2 (by decide) 0 u W hu)
    have hz : ((0 : Int) % (ys.length : Int)).toNat = 0 := by simp
    rw [hz] at HFo
    have HB := Lib.hid (fun u W hu => Follow_ok _ k _ (hR.form 2 0) (by omega) (by omega) u W hu)
    rw [fol_reverse hR (by omega)] at HB
    have hsum := fol_sum hR (show 1 ≤ k by omega) (show k < ys.length by omega)
    have hhi := hR.hi
    have hnk : (((ys.length - k : Nat)) : Int) = (ys.length : Int) - (k : Int) := by omega
    rw [hnk] at HG
    clear hr hl hR wk hz hnk
    generalize folN ys.length k ys = f at *
    generalize folN ys.length (ys.length - k) ys = g at *
    generalize natI (formL ys.length 2 0 ys) = bs at *
    generalize hn : ys.length = n at *
    generalize natI ys = xs at *
    subst hv
    clear hn
    have h3 : ¬ ((n : Int) - 1 < (k : Int)) := by omega
    have hq : ((f : Int) + (g : Int) == (n : Int)) = true := by rw [beq_iff_eq]; omega
    have hf1 : f ≤ 10 := by omega
    have hg1 : g ≤ 10 := by omega
    clear hsum
    go_enter Try.func17, Try.ntmps17
    go_wp2_with fail
    refine (HL.out _ H.out).mono ?_
    rintro e w1 ⟨v1, rfl, i1, b1⟩
    have J1 := Lib.hid (HF.out v1 w1 i1)
    clear i1
    go_wp2_with fail
    refine J1.out.mono ?_
    rintro e w2 ⟨rfl, b2⟩
    have B2 := Lib.hid (below_nx b1 b2)
    have K2 := Lib.hid (H.out.later B2.out)
    clear b1 b2 J1
    go_wp2_with fail
    refine (HRo.out _ K2.out).mono ?_
    rintro e w3 ⟨rfl, rfl⟩
    go_wp2_with fail
    refine (HL.out _ K2.out).mono ?_
    rintro e w4 ⟨v4, rfl, i4, b4⟩
    have J4 := Lib.hid (HG.out v4 w4 i4)
    have B4 := Lib.hid (below_nx B2.out b4)
    clear i4 b4
    go_wp2_with fail
    refine J4.out.mono ?_
    rintro e w5 ⟨rfl, b5⟩
    have B5 := Lib.hid (below_nx B4.out b5)
    have K5 := Lib.hid (H.out.later B5.out)
    clear b5
    go_wp2_with fail
    refine (HL.out _ K5.out).mono ?_
    rintro e w6 ⟨v6, rfl, i6, b6⟩
    have J6 := Lib.hid (HFo.out v6 w6 i6)
    have B6 := Lib.hid (below_nx B5.out b6)
    clear i6 b6
    go_wp2_with fail
    refine J6.out.mono ?_
    rintro e w7 ⟨v7, rfl, i7, b7⟩
    have J7 := Lib.hid (HB.out v7 w7 i7)
    have B7 := Lib.hid (below_nx B6.out b7)
    clear i7 b7
    go_wp2_with fail
    refine J7.out.mono ?_
    rintro e w8 ⟨rfl, b8⟩
    have B8 := Lib.hid (below_nx B7.out b8)
    clear b8
    go_wp2_with fail
    refine (HAw.out _).mono ?_
    rintro e w9 ⟨rfl, b9⟩
    go_wp2
    go_ret
    exact ⟨rfl, below_nx B8.out b9⟩
  · have hb : rowB (xs.take 13) = false ∨ k < 1 ∨ (((xs.take 13).length : Nat) : Int) ≤ k := by
      cases hr : rowB xs
      · left; rw [row_take]; exact hr
      · right
        have hx := row_len10 hr
        rw [List.take_of_length_le (by omega)]
        have : ¬ (1 ≤ k ∧ k < xs.length) := fun h => hg ⟨hr, h⟩
        omega
    have HF := Lib.hid (fun u W hu => Follow_bad (xs.take 13) k (take_len xs) hb u W hu)
    clear hb hg hl
    subst hv
    go_enter Try.func17, Try.ntmps17
    go_wp2_with fail
    refine (HL.out _ H.out).mono ?_
    rintro e w1 ⟨v1, rfl, i1, b1⟩
    have J1 := Lib.hid (HF.out v1 w1 i1)
    clear i1
    go_wp2_with fail
    refine J1.out.mono ?_
    rintro e w2 ⟨rfl, rfl⟩
    have B1 := Lib.hid b1
    clear b1
    go_wp2_with fail
    refine (HAw.out _).mono ?_
    rintro e w5 ⟨rfl, b5⟩
    go_wp2
    go_ret
    exact ⟨rfl, below_nx B1.out b5⟩
end Go.Proofs.Ytjcgbeedjdglmaa
