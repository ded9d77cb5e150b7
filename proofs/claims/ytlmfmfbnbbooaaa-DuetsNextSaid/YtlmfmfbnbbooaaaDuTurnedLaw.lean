/-
  The statement on intervals after Swap.
-/
import Derived.Test.YtlmfmfbnbbooaaaDuSwap
import Derived.Test.YtlmfmfbnbbooaaaDuLiftsLaw
namespace Go.Proofs.Ytlmfmfbnbbooaaa
open Go.ChangeShapes Go.WideShapes Go.ChangeAt Go.RowKit
set_option maxRecDepth 100000

theorem pair_parts {gs ss : List Int} (h : pairB gs ss = true) : dpartB gs = true ∧ dpartB ss = true ∧ gs.length = ss.length := by
  rw [pair_cases, Bool.and_eq_true, Bool.and_eq_true, decide_eq_true_eq] at h
  exact h
/-- right, for a pair. -/
theorem right_ok (gs ss : List Int) (g s : Value) (w : World) (hp : pairB gs ss = true) (h : IntsV w g gs) (k : IntsV w s ss) :
    Calls Try.prog 59 #[g, s] w fun e w' => e = .returned (.bool (keptB gs ss)) ∧ Below w.heap.size w w' := by
  obtain ⟨hg, hs, hl⟩ := pair_parts hp
  have g1 := dpart_len hg
  have s1 := dpart_len hs
  have HLg := Lib.hid (fun W hW => dlist_any gs g W (by unfold maxLen; omega) hW)
  have HLs := Lib.hid (fun W hW => dlist_any ss s W (by unfold maxLen; omega) hW)
  rw [dtake hg] at HLg
  rw [dtake hs] at HLs
  have HC := Lib.hid (fun a b W ha hb => Check_ok gs ss a b W hp ha hb)
  have H := Lib.hid h
  have K := Lib.hid k
  have HZ := Lib.hid (faultP_zero gs ss)
  have HE := Lib.hid (show keptB gs ss = true → faultP gs ss = (0, 0) from fun h => faultP_kept h)
  obtain ⟨ao, cap, hv, _⟩ := h
  obtain ⟨bo, cap', hu, _⟩ := k
  subst hv hu
  clear hp hg hs hl g1 s1
  cases hk : keptB gs ss
  · have HV := Lib.hid (show checkV gs ss = .tuple #[.int .i64 ((faultP gs ss).1 : Nat), .int .i64 ((faultP gs ss).2 : Nat), .int .i64 0] by unfold checkV; rw [hk]; rfl)
    rw [HV.out] at HC
    clear hk
    generalize (((faultP gs ss).1 : Nat) : Int) = f1 at *
    generalize (((faultP gs ss).2 : Nat) : Int) = f2 at *
    go_enter Try.func59, Try.ntmps59
    go_wp2_with fail
    refine (HLg.out _ H.out).mono ?_
    rintro e w1 ⟨v1, rfl, i1, b1⟩
    have B1 := Lib.hid b1
    have I1 := Lib.hid i1
    clear i1 b1
    go_wp2_with fail
    refine (HLs.out _ (K.out.later B1.out)).mono ?_
    rintro e w2 ⟨v2, rfl, i2, b2⟩
    have B2 := Lib.hid (below_nx B1.out b2)
    have C2 := Lib.hid (HC.out v1 v2 w2 (I1.out.later b2) i2)
    clear i2 b2
    go_wp2_with fail
    refine C2.out.mono ?_
    rintro e w3 ⟨rfl, b3⟩
    have B3 := Lib.hid (below_nx B2.out b3)
    clear b3
    go_wp2
    go_ret
    exact ⟨rfl, B3.out⟩
  · have HV := Lib.hid (show checkV gs ss = .tuple #[.int .i64 0, .int .i64 0, .int .i64 4] by unfold checkV; rw [hk, faultP_kept hk]; rfl)
    rw [HV.out] at HC
    clear hk
    go_enter Try.func59, Try.ntmps59
    go_wp2_with fail
    refine (HLg.out _ H.out).mono ?_
    rintro e w1 ⟨v1, rfl, i1, b1⟩
    have B1 := Lib.hid b1
    have I1 := Lib.hid i1
    clear i1 b1
    go_wp2_with fail
    refine (HLs.out _ (K.out.later B1.out)).mono ?_
    rintro e w2 ⟨v2, rfl, i2, b2⟩
    have B2 := Lib.hid (below_nx B1.out b2)
    have C2 := Lib.hid (HC.out v1 v2 w2 (I1.out.later b2) i2)
    clear i2 b2
    go_wp2_with fail
    refine C2.out.mono ?_
    rintro e w3 ⟨rfl, b3⟩
    have B3 := Lib.hid (below_nx B2.out b3)
    clear b3
    go_wp2
    go_ret
    exact ⟨rfl, B3.out⟩

end Go.Proofs.Ytlmfmfbnbbooaaa
