/-
  IsSorted at a row of numbers.
-/
import Derived.Test.YtbghfhladigeiaaDuAlong
import Derived.Test.YtbghfhladigeiaaDuOneLaw
namespace Go.Proofs.Ytbghfhladigeiaa
open Go.ChangeShapes Go.WideShapes Go.ChangeAt Go.RowKit
set_option maxRecDepth 100000

theorem isNaN_any (x : Int) (w : World) : Calls Try.prog 75 #[.int .i64 x] w fun e w' => e = .returned (.bool false) ∧ w = w' :=
  (Try.cmp_isNaN_int x w).mono fun e w' h => ⟨h.1, h.2.symm⟩
theorem Less_any (x y : Int) (w : World) : Calls Try.prog 62 #[.int .i64 x, .int .i64 y] w fun e w' => e = .returned (.bool (decide (x < y))) ∧ w = w' := by
  have HN := Lib.hid (isNaN_any x)
  go_enter Try.func62, Try.ntmps62
  go_wp2_with fail
  refine (HN.out _).mono ?_
  rintro e w1 ⟨rfl, rfl⟩
  go_wp2
  go_ret
  exact ⟨rfl, rfl⟩

theorem IsSortedI_some (g off cap : Nat) (xs : List Int) (hl : xs.length ≤ 4096) (h1 : 1 ≤ xs.length) (hs : ∀ i, i + 1 < xs.length → nAt xs i ≤ nAt xs (i + 1)) (w : World) (hc : ∀ i, i < xs.length → w.cell? ⟨g, off + i, none⟩ = some (.int .i64 (nAt xs i))) :
    Calls Try.prog 43 #[.slice (some ⟨g, off, none⟩) xs.length cap] w fun e w' => e = .returned (.bool true) ∧ ∃ m, w' = w.drewN m := by
  have HL := Lib.hid (fun x y w => Less_any x y w)
  obtain ⟨K, hK⟩ : ∃ K, xs.length = K := ⟨_, rfl⟩
  rw [hK] at hl h1 hs hc ⊢
  have HS := Lib.hid hs
  have HC := Lib.hid hc
  clear hs hc hK
  go_enter Try.func43, Try.ntmps43
  go_wp2
  go_loopw [3] (fun v wr => ∃ i m : Nat, i < K ∧ v = .int .i64 i ∧ wr = w.drewN m) (fun v _ => (valI v).toNat)
  case atStart => exact ⟨K - 1, 0, by omega, by go_num, rfl⟩
  case round =>
    obtain ⟨i, m, hi, rfl, rfl⟩ := hrel
    by_cases h0 : 0 < i
    · obtain ⟨j, hij⟩ : ∃ j, i = j + 1 := ⟨i - 1, by omega⟩
      have c1 := HC.out i hi
      have hj : j < K := by omega
      have c2 := HC.out j hj
      have hle := HS.out j (by omega)
      rw [← hij] at hle
      have hlt : (decide (nAt xs i < nAt xs j)) = false := decide_eq_false (by omega)
      generalize nAt xs i = a at c1 hle hlt
      generalize nAt xs j = b at c2 hle hlt
      have e1 : (i : Int) - 1 = (j : Int) := by omega
      obtain ⟨W, hW⟩ : ∃ W, w.drewN m = W := ⟨_, rfl⟩
      have c1' : W.cell? ⟨g, off + i, none⟩ = some (.int .i64 a) := by rw [← hW]; exact c1
      have c2' : W.cell? ⟨g, off + j, none⟩ = some (.int .i64 b) := by rw [← hW]; exact c2
      rw [hW]
      have HW := Lib.hid hW
      clear c1 c2 hW
      have hw : IntKind.i64.wrap (j : Int) = j := IntWalk.i64_in _ (by omega)
      have HIJ := Lib.hid hij
      clear hij h0
      have h0 : 0 < i := by have := HIJ.out; omega
      have HL2 := Lib.hid (HL.out a b)
      rw [hlt] at HL2
      clear hlt
      go_wp2
      go_quiet ((go_at_call 62; exact Calls.quiet_of_same ((HL2.out _).mono fun e w' h => ⟨h.1, h.2.symm⟩)))
      go_wp2
      go_roundw
      case rel => exact ⟨j, m + nq, hj, by go_num, by rw [← HW.out, World.drewN_drewN]⟩
      case measure => have := HIJ.out; simp only [valI]; omega
    · obtain rfl : i = 0 := by omega
      go_wp2
      go_ret
      exact ⟨rfl, m, rfl⟩
theorem IsSortedI_any (xs : List Int) (v : Value) (w : World) (hl : xs.length ≤ 4096) (hs : ∀ i, i + 1 < xs.length → nAt xs i ≤ nAt xs (i + 1)) (h : IntsV w v xs) :
    Calls Try.prog 43 #[v] w fun e w' => e = .returned (.bool true) ∧ ∃ m, w' = w.drewN m := by
  by_cases h0 : 0 < xs.length
  · obtain ⟨b, off, cap, rfl, hc⟩ := d_cells h h0
    exact IsSortedI_some b off cap xs hl h0 hs w hc
  · obtain ⟨ao, cap, rfl, -⟩ := h
    obtain rfl := List.eq_nil_of_length_eq_zero (show xs.length = 0 by omega)
    rw [List.length_nil]
    clear hs
    go_enter Try.func43, Try.ntmps43
    go_wp2
    go_loopw [3] (fun v wr => v = .int .i64 (-1) ∧ wr = w) (fun v _ => 0)
    case atStart => exact ⟨rfl, rfl⟩
    case round =>
      obtain ⟨rfl, rfl⟩ := hrel
      go_wp2
      go_ret
      exact ⟨rfl, 0, rfl⟩
end Go.Proofs.Ytbghfhladigeiaa
