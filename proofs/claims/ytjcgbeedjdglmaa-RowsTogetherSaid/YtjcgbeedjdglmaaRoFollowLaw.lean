/-
  The statement on Follow.
-/
import Derived.Test.YtjcgbeedjdglmaaRoFollow
namespace Go.Proofs.Ytjcgbeedjdglmaa
open Go.ChangeShapes Go.WideShapes Go.ChangeAt Go.RowKit
set_option maxRecDepth 100000

theorem row_len10 {xs : List Int} (h : rowB xs = true) : 2 ≤ xs.length ∧ xs.length ≤ 10 := by
  unfold rowB at h
  rw [Bool.and_eq_true, decide_eq_true_eq] at h
  exact h.1

set_option maxHeartbeats 2000000 in
theorem RowsFollows_walk (xs : List Int) (k : Int) (v : Value) (w : World) (hl : xs.length ≤ maxLen) (h : IntsV w v xs) (wk : (Lit.int .i64 k).wf = true) :
    Calls Try.prog 10 #[v, .int .i64 k] w fun e w' => e = .returned (.bool true) ∧ Below w.heap.size w w' := by
  have HAw := Lib.hid (fun W => awake_any W)
  have HL := Lib.hid (fun W hW => list_any xs v W hl hW)
  have HRo := Lib.hid (fun W hW => RRow_any xs v W hl hW)
  have H := Lib.hid h
  obtain ⟨ao, cap, hv, _⟩ := h
  by_cases hg : rowB xs = true ∧ 1 ≤ k ∧ k < xs.length
  · obtain ⟨hr, h1, h2⟩ := hg
    obtain ⟨ys, rfl, hR⟩ := row_nat hr
    rw [natI_length] at h2 hv
    obtain ⟨k, rfl⟩ := Int.eq_ofNat_of_zero_le (show 0 ≤ k by omega)
    rw [row_take13 hR] at HL
    rw [hr] at HRo
    have HF := Lib.hid (fun u W hu => Follow_ok _ k ys hR (by omega) (by omega) u W hu)
    have HRF := Lib.hid (fun u W hu => RFollow_any _ k ys hR (by omega) u W hu)
    have hhi := hR.hi
    clear hr hl hR wk
    generalize folN ys.length k ys = f at *
    generalize hn : ys.length = n at *
    generalize natI ys = xs at *
    subst hv
    clear hn
    have h3 : ¬ ((n : Int) - 1 < (k : Int)) := by omega
    go_enter Try.func10, Try.ntmps10
    go_wp2_with fail
    refine (HL.out _ H.out).mono ?_
    rintro e w1 ⟨v1, rfl, i1, b1⟩
    have J1 := Lib.hid (HF.out v1 w1 i1)
    clear i1
    go_wp2_with fail
    refine J1.out.mono ?_
    rintro e w2 ⟨rfl, b2⟩
    have B2 := Lib.hid (below_nx b1 b2)
    have K2 := Lib.hid (H.out.later B2.out)
    clear b1 b2 J1
    go_wp2_with fail
    refine (HRo.out _ K2.out).mono ?_
    rintro e w3 ⟨rfl, rfl⟩
    go_wp2_with fail
    refine (HRF.out _ _ K2.out).mono ?_
    rintro e w4 ⟨rfl, b4⟩
    have B4 := Lib.hid (below_nx B2.out b4)
    clear b4
    go_wp2_with fail
    refine (HAw.out _).mono ?_
    rintro e w5 ⟨rfl, b5⟩
    go_wp2
    go_ret
    exact ⟨rfl, below_nx B4.out b5⟩
  · have hb : rowB (xs.take 13) = false ∨ k < 1 ∨ (((xs.take 13).length : Nat) : Int) ≤ k := by
      cases hr : rowB xs
      · left; rw [row_take]; exact hr
      · right
        have hx := row_len10 hr
        rw [List.take_of_length_le (by omega)]
        have : ¬ (1 ≤ k ∧ k < xs.length) := fun h => hg ⟨hr, h⟩
        omega
    have HF := Lib.hid (fun u W hu => Follow_bad (xs.take 13) k (take_len xs) hb u W hu)
    have HG := Lib.hid hg
    have hmx : xs.length ≤ 9223372036854775807 := by unfold maxLen at hl; omega
    clear hb hg hl
    subst hv
    go_enter Try.func10, Try.ntmps10
    go_wp2_with fail
    refine (HL.out _ H.out).mono ?_
    rintro e w1 ⟨v1, rfl, i1, b1⟩
    have J1 := Lib.hid (HF.out v1 w1 i1)
    clear i1
    go_wp2_with fail
    refine J1.out.mono ?_
    rintro e w2 ⟨rfl, rfl⟩
    have B1 := Lib.hid b1
    have K1 := Lib.hid (H.out.later b1)
    clear b1
    cases hr : rowB xs
    · rw [hr] at HRo
      go_wp2_with fail
      refine (HRo.out _ K1.out).mono ?_
      rintro e w3 ⟨rfl, rfl⟩
      go_wp2_with fail
      refine (HAw.out _).mono ?_
      rintro e w5 ⟨rfl, b5⟩
      go_wp2
      go_ret
      exact ⟨rfl, below_nx B1.out b5⟩
    · rw [hr] at HRo
      have hx := row_len10 hr
      obtain ⟨x1, x2⟩ := hx
      have hg2 : ¬ (1 ≤ k ∧ k < xs.length) := fun h => HG.out ⟨hr, h⟩
      clear hr
      by_cases h1 : k < 1
      · clear hg2
        go_wp2_with fail
        refine (HRo.out _ K1.out).mono ?_
        rintro e w3 ⟨rfl, rfl⟩
        go_wp2_with fail
        refine (HAw.out _).mono ?_
        rintro e w5 ⟨rfl, b5⟩
        go_wp2
        go_ret
        exact ⟨rfl, below_nx B1.out b5⟩
      · have h2 : (xs.length : Int) - 1 < k := by omega
        clear hg2
        go_wp2_with fail
        refine (HRo.out _ K1.out).mono ?_
        rintro e w3 ⟨rfl, rfl⟩
        go_wp2_with fail
        refine (HAw.out _).mono ?_
        rintro e w5 ⟨rfl, b5⟩
        go_wp2
        go_ret
        exact ⟨rfl, below_nx B1.out b5⟩
end Go.Proofs.Ytjcgbeedjdglmaa
