/-
  The statement on moved and turned voicings.
-/
import Derived.Test.YtkpiakoijkflmaaVoImage
namespace Go.Proofs.Ytkpiakoijkflmaa
open Go.ChangeShapes Go.WideShapes Go.ChangeAt Go.RowKit
set_option maxRecDepth 100000

theorem vc_image {n k : Nat} {t : Bool} {us bs : List Nat} (hv : Vc n us bs) : Vc n (riseT (us.map (imN n k t))) (riseT (bs.map (imN n k t))) := by
  have l1 : (riseT (us.map (imN n k t))).length = us.length := by rw [riseT_length, List.length_map]
  have l2 : (riseT (bs.map (imN n k t))).length = bs.length := by rw [riseT_length, List.length_map]
  exact ⟨hv.lo, hv.hi, by rw [l1, l2, hv.len], by rw [l1]; exact hv.l1, by rw [l1]; exact hv.l6, fun x hx => imL_lt hv.pos k t us x ((riseT_perm _).mem_iff.1 hx), fun x hx => imL_lt hv.pos k t bs x ((riseT_perm _).mem_iff.1 hx)⟩
theorem cost_image {n k : Nat} {t : Bool} {us bs : List Nat} (hv : Vc n us bs) : costN n (riseT (us.map (imN n k t))) (riseT (bs.map (imN n k t))) = costN n us bs := by
  have h := vc_image (k := k) (t := t) hv
  rw [costN_perm n h.len (riseT_perm _) (riseT_perm _)]
  exact costN_map (fun x y hx hy => ds_im t hx hy) hv.len hv.la hv.lb
theorem vc_rise {n : Nat} {us bs : List Nat} (hv : Vc n us bs) : Vc n (riseT us) bs :=
  ⟨hv.lo, hv.hi, by rw [riseT_length, hv.len], by rw [riseT_length]; exact hv.l1, by rw [riseT_length]; exact hv.l6, fun x hx => hv.la x ((riseT_perm _).mem_iff.1 hx), hv.lb⟩
theorem cost_rise {n : Nat} {us bs : List Nat} (hv : Vc n us bs) : costN n (riseT us) bs = costN n us bs := by
  rw [costN_perm_left n (vc_rise hv).len (riseT_perm us)]

theorem umod_ex (x : Int) {n : Nat} (h : 0 < n) : ∃ u : Nat, (IntKind.u64.wrap x).tmod (n : Int) = (u : Int) ∧ u < n := by
  obtain ⟨U, hU⟩ : ∃ U : Nat, IntKind.u64.wrap x = (U : Int) := Int.eq_ofNat_of_zero_le (wrap_u64_nonneg x)
  exact ⟨U % n, by rw [hU, Int.tmod_eq_emod_of_nonneg (by omega)]; simp, Nat.mod_lt _ h⟩

end Go.Proofs.Ytkpiakoijkflmaa
