/-
  Whether a slice is a row; copies; comparing; steps.
-/
import Derived.Test.YthnenhfdojpobaaDoorLeafA
import Derived.Test.YthnenhfdojpobaaDoorMem
import Derived.Test.YthnenhfdojpobaaDoorCalmTail
import Derived.Maps.AppendAt
import Derived.Deep.OwnRows
import Derived.OwnWalk
namespace Go.Proofs.YthnenhfdojpobaaDoor
open Go.ChangeShapes Go.WideShapes Go.ChangeAt Go.RowKit
set_option maxRecDepth 100000

theorem Clone_any (xs : List Int) (v : Value) (w : World) (hl : xs.length ≤ 1000) (h : IntsV w v xs) :
    Calls Tryd.prog 26 #[v] w fun e w' => ∃ v', e = .returned v' ∧ IntsV w' v' xs ∧ Below w.heap.size w w' := by
  obtain ⟨ao, cap, rfl, _, hc⟩ := h
  by_cases h0 : 0 < xs.length
  · obtain ⟨b, off, rfl, hd⟩ := hc h0
    refine (Tryd.slices_Clone_int b off xs.length cap xs w (Nat.le_refl _) (by omega) hd).mono ?_
    rintro e w' ⟨v', rfl, h1, _, h2⟩
    rw [List.take_length] at h1
    exact ⟨v', rfl, IntsV.of_own h1, h2⟩
  · obtain rfl := List.eq_nil_of_length_eq_zero (show xs.length = 0 by omega)
    cases ao with
    | none =>
      refine (Tryd.slices_Clone_int_nil 0 cap w).mono ?_
      rintro e w' ⟨rfl, rfl⟩
      exact ⟨_, rfl, ⟨none, 0, rfl, Nat.le_refl _, fun h => by cases h⟩, Below.refl _ _⟩
    | some a =>
      refine (Tryd.slices_Clone_int_zero a cap w).mono ?_
      rintro e w' ⟨v', rfl, h1, _, h2⟩
      exact ⟨v', rfl, IntsV.of_own h1, h2⟩

/-- The beginning of a slice. -/
theorem IntsV.cut {W : World} {v : Value} {xs : List Int} (h : IntsV W v xs) (k : Nat) : ∀ ao cap, v = .slice ao xs.length cap → IntsV W (.slice ao (xs.take k).length cap) (xs.take k) := by
  intro ao cap e
  obtain ⟨ao', cap', rfl, hlc, hc⟩ := h
  cases e
  refine ⟨ao, cap, rfl, by rw [List.length_take]; omega, fun h0 => ?_⟩
  rw [List.length_take] at h0
  obtain ⟨b, off, e, hd⟩ := hc (by omega)
  refine ⟨b, off, e, fun i hi => ?_⟩
  rw [List.length_take] at hi
  rw [hd i (by omega), List.getElem?_take_of_lt (by omega)]

theorem Equal_any (xs ys : List Int) (v u : Value) (w : World) (hl : xs.length ≤ maxLen) (hm : ys.length ≤ maxLen) (h : IntsV w v xs) (k : IntsV w u ys) :
    Calls Tryd.prog 11 #[v, u] w fun e w' => e = .returned (.bool (xs == ys)) ∧ ∃ q, w' = w.drewN q := by
  unfold maxLen at hl hm
  obtain ⟨ao, cap, rfl, _, hc⟩ := h
  obtain ⟨bo, cap', rfl, _, hd⟩ := k
  by_cases h0 : 0 < xs.length
  · obtain ⟨b, off, rfl, hc1⟩ := hc h0
    by_cases h1 : 0 < ys.length
    · obtain ⟨b', off', rfl, hd1⟩ := hd h1
      refine (Tryd.slices_Equal_int b off xs.length cap b' off' ys.length cap' xs ys w (Nat.le_refl _) (Nat.le_refl _) (by omega) (by omega) hc1 hd1).mono ?_
      rintro e w' ⟨rfl, h⟩
      rw [List.take_length, List.take_length]
      exact ⟨rfl, h⟩
    · have hne : ¬ xs.length = 0 := by omega
      obtain rfl := List.eq_nil_of_length_eq_zero (show ys.length = 0 by omega)
      have HE : (xs == []) = false := by
        rw [beq_eq_false_iff_ne]; rintro rfl; exact hne rfl
      have hne2 : ((xs.length : Int) == 0) = false := by rw [beq_eq_false_iff_ne]; omega
      have HE := Lib.hid HE
      clear hc hd hne hc1
      go_enter Tryd.func11, Tryd.ntmps11
      go_wp2
      go_ret
      exact ⟨ret_bool HE.out.symm, 0, rfl⟩
  · obtain rfl := List.eq_nil_of_length_eq_zero (show xs.length = 0 by omega)
    refine (Tryd.slices_Equal_int_empty ao bo cap ys.length cap' w (by omega)).mono ?_
    rintro e w' ⟨rfl, rfl⟩
    refine ⟨ret_bool ?_, 0, rfl⟩
    cases ys <;> rfl

/-! ### steps -/
theorem info_intV : (Tryd.prog.info? 3).map (fun i => (i.zero, i.size, i.bytes)) = some (some (.int .i64 0), 1, 8) := by kernel_rfl

/-- Integers as cells. -/
def ivals (xs : List Int) : List Value := xs.map (Value.int .i64)
theorem IntsV.of_vals {W : World} {lo n : Nat} {v : Value} {xs : List Int} (h : W.ownsRow lo 3 1 v n (ivals xs)) : IntsV W v xs := by
  have h1 := h.1
  unfold ivals at h1
  rw [List.length_map, Nat.mul_one] at h1
  subst h1
  exact IntsV.of_own h
def stepsK (n : Nat) (ys : List Nat) (k : Nat) : List Int := natI ((List.range k).map (stepN n ys))
theorem stepsK_succ (n : Nat) (ys : List Nat) (k : Nat) : stepsK n ys (k + 1) = stepsK n ys k ++ [((stepN n ys k : Nat) : Int)] := by
  unfold stepsK; rw [List.range_succ, List.map_append]; simp [natI]
theorem stepsK_all {n : Nat} {ys : List Nat} (h : ys.length = n) : stepsK n ys (n - 1) = natI (stepsL n ys) := by
  unfold stepsK stepsL; rw [h]
theorem owns_laterV {W W' : World} {lo n : Nat} {v : Value} {xs : List Value} {t : TypeId} (h : W.ownsRow lo t 1 v n xs) (hb : Below W.heap.size W W') : W'.ownsRow lo t 1 v n xs := by
  obtain ⟨h0, h1 | ⟨g, cap, cur, hv, hg, hh, h2⟩⟩ := h
  · exact ⟨h0, Or.inl h1⟩
  · exact ⟨h0, Or.inr ⟨g, cap, cur, hv, hg, (hb.block g (Array.getElem?_eq_some_iff.1 hh).1).trans hh, h2⟩⟩

end Go.Proofs.YthnenhfdojpobaaDoor
