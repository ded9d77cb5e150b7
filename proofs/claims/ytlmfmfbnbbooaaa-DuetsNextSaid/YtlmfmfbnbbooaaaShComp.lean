/-
  slices.Compare of slices of integers: from the front.
-/
import Derived.Test.YtlmfmfbnbbooaaaRoSteps
import Derived.Test.YtlmfmfbnbbooaaaShelf
namespace Go.Proofs.Ytlmfmfbnbbooaaa
open Go.ChangeShapes Go.WideShapes Go.ChangeAt Go.RowKit
set_option maxRecDepth 100000

/-- Which of two lists comes first. -/
def compL : List Int → List Int → Int
  | [], [] => 0
  | [], _ :: _ => -1
  | _ :: _, [] => 1
  | x :: xs, y :: ys => if x < y then -1 else if y < x then 1 else compL xs ys
theorem compL_drop : ∀ (k : Nat) {xs ys : List Int}, k ≤ xs.length → k ≤ ys.length → xs.take k = ys.take k → compL xs ys = compL (xs.drop k) (ys.drop k)
  | 0, xs, ys, _, _, _ => rfl
  | k + 1, [], ys, h, _, _ => by simp at h
  | k + 1, x :: xs, [], _, h, _ => by simp at h
  | k + 1, x :: xs, y :: ys, h1, h2, h3 => by
    simp only [List.take_succ_cons, List.cons.injEq] at h3
    obtain ⟨rfl, h3⟩ := h3
    rw [List.drop_succ_cons, List.drop_succ_cons, ← compL_drop k (by simpa using h1) (by simpa using h2) h3]
    rw [compL, if_neg (by omega), if_neg (by omega)]
theorem compL_self : ∀ xs, compL xs xs = 0
  | [] => rfl
  | x :: xs => by unfold compL; simp [compL_self xs]

theorem ints_cells {W : World} {v : Value} {xs : List Int} (h : IntsV W v xs) (h0 : 0 < xs.length) : ∃ b off cap, v = .slice (some ⟨b, off, none⟩) xs.length cap ∧ ∀ i, i < xs.length → W.cell? ⟨b, off + i, none⟩ = some (.int .i64 (xs[i]?.getD 0)) := by
  obtain ⟨ao, cap, rfl, _, hc⟩ := h
  obtain ⟨b, off, rfl, hd⟩ := hc h0
  exact ⟨b, off, cap, rfl, hd⟩

set_option maxHeartbeats 2000000 in
theorem Compare_any (xs ys : List Int) (v u : Value) (w : World) (hl : xs.length ≤ maxLen) (hm : ys.length ≤ maxLen) (h : IntsV w v xs) (k : IntsV w u ys) :
    Calls Try.prog 60 #[v, u] w fun e w' => e = .returned (.int .i64 (compL xs ys)) ∧ w = w' := by
  have HC := Lib.hid (fun x y W => Try.cmp_Compare_int x y W)
  have HX := Lib.hid (fun h0 => ints_cells h h0)
  have HY := Lib.hid (fun h0 => ints_cells k h0)
  have HD := Lib.hid (fun j => compL_drop j (xs := xs) (ys := ys))
  obtain ⟨ao, cap, hv, _⟩ := h
  obtain ⟨bo, cap', hu, _⟩ := k
  unfold maxLen at hl hm
  subst hv hu
  go_enter Try.func60, Try.ntmps60
  go_wp2
  go_loopw [11] (fun i wr => ∃ j : Nat, j ≤ xs.length ∧ j ≤ ys.length ∧ i = .int .i64 j ∧ xs.take j = ys.take j ∧ w = wr) (fun i _ => xs.length - (intOf i).toNat)
  case atStart => exact ⟨0, Nat.zero_le _, Nat.zero_le _, rfl, rfl, rfl⟩
  case round =>
    obtain ⟨j, hj1, hj2, rfl, ht, rfl⟩ := hrel
    have hD := HD.out j hj1 hj2 ht
    by_cases h1 : j < xs.length
    · obtain ⟨b, off, c, e1, hc⟩ := HX.out (by omega)
      cases e1
      have c1 := hc j h1
      have d1 : xs.drop j = (xs[j]?.getD 0) :: xs.drop (j + 1) := by rw [List.drop_eq_getElem_cons h1, List.getElem?_eq_getElem h1]; rfl
      have t1 : xs.take (j + 1) = xs.take j ++ [xs[j]?.getD 0] := by rw [List.take_succ_eq_append_getElem h1, List.getElem?_eq_getElem h1]; rfl
      by_cases h2 : j < ys.length
      · obtain ⟨b', off', c', e2, hc'⟩ := HY.out (by omega)
        cases e2
        have c2 := hc' j h2
        have d2 : ys.drop j = (ys[j]?.getD 0) :: ys.drop (j + 1) := by rw [List.drop_eq_getElem_cons h2, List.getElem?_eq_getElem h2]; rfl
        have t2 : ys.take (j + 1) = ys.take j ++ [ys[j]?.getD 0] := by rw [List.take_succ_eq_append_getElem h2, List.getElem?_eq_getElem h2]; rfl
        rw [d1, d2] at hD
        have HT := Lib.hid (fun e => show xs.take (j + 1) = ys.take (j + 1) by rw [t1, t2, ht, e] : xs[j]?.getD 0 = ys[j]?.getD 0 → xs.take (j + 1) = ys.take (j + 1))
        clear hc hc' d1 d2 t1 t2 ht
        generalize xs[j]?.getD 0 = x at *
        generalize ys[j]?.getD 0 = y at *
        have HE := Lib.hid hD
        clear hD
        have hci : Lib.compareInt x y = if x < y then -1 else if y < x then 1 else 0 := by
          unfold Lib.compareInt; first | rfl | (split <;> rfl) | (repeat' split) <;> omega
        have hcc := HC.out x y w
        rw [hci] at hcc
        have HCC := Lib.hid hcc
        clear hcc hci
        by_cases h3 : x < y
        · rw [if_pos h3] at HCC
          have HR := Lib.hid (show compL xs ys = -1 by rw [HE.out]; unfold compL; rw [if_pos h3])
          go_wp2_with fail
          refine HCC.out.mono ?_
          rintro e w1 ⟨rfl, rfl⟩
          go_wp2
          go_ret
          exact ⟨ret_int HR.out.symm, rfl⟩
        · by_cases h4 : y < x
          · rw [if_neg h3, if_pos h4] at HCC
            have HR := Lib.hid (show compL xs ys = 1 by rw [HE.out]; unfold compL; rw [if_neg h3, if_pos h4])
            go_wp2_with fail
            refine HCC.out.mono ?_
            rintro e w1 ⟨rfl, rfl⟩
            go_wp2
            go_ret
            exact ⟨ret_int HR.out.symm, rfl⟩
          · rw [if_neg h3, if_neg h4] at HCC
            have HN := Lib.hid (HT.out (by omega))
            clear h3 h4
            go_wp2_with fail
            refine HCC.out.mono ?_
            rintro e w1 ⟨rfl, rfl⟩
            go_wp2
            go_roundw
            case rel => exact ⟨j + 1, by omega, by omega, by go_num, HN.out, trivial⟩
            case measure => simp only [intOf]; omega
      · have e2 : ys.drop j = [] := List.drop_eq_nil_of_le (by omega)
        rw [d1, e2] at hD
        have HR := Lib.hid (show compL xs ys = 1 from hD)
        clear hD d1 t1 e2 ht hc
        go_wp2
        go_ret
        exact ⟨ret_int HR.out.symm, rfl⟩
    · have e1 : xs.drop j = [] := List.drop_eq_nil_of_le (by omega)
      rw [e1] at hD
      by_cases h2 : xs.length < ys.length
      · have d2 : ys.drop j = (ys[j]?.getD 0) :: ys.drop (j + 1) := by rw [List.drop_eq_getElem_cons (by omega), List.getElem?_eq_getElem (show j < ys.length by omega)]; rfl
        rw [d2] at hD
        have HR := Lib.hid (show compL xs ys = -1 from hD)
        clear hD d2 e1 ht
        go_wp2
        go_ret
        exact ⟨ret_int HR.out.symm, rfl⟩
      · have e2 : ys.drop j = [] := List.drop_eq_nil_of_le (by omega)
        rw [e2] at hD
        have HR := Lib.hid (show compL xs ys = 0 from hD)
        clear hD e2 e1 ht
        go_wp2
        go_ret
        exact ⟨ret_int HR.out.symm, rfl⟩
end Go.Proofs.Ytlmfmfbnbbooaaa
