/-
  Whether a slice is a row; copies; comparing; steps.
-/
import Derived.Test.YtdfagnjdconkcaaLeafA
import Derived.Test.YtdfagnjdconkcaaMem
import Derived.Test.YtdfagnjdconkcaaCalmTail
import Derived.Maps.AppendAt
import Derived.Deep.OwnRows
import Derived.OwnWalk
namespace Go.Proofs.Ytdfagnjdconkcaa
open Go.ChangeShapes Go.WideShapes Go.ChangeAt Go.RowKit
set_option maxRecDepth 100000

theorem isRow_any (xs : List Int) (v : Value) (w : World) (hl : xs.length ≤ maxLen) (h : IntsV w v xs) :
    Calls Try.prog 12 #[v] w fun e w' => e = .returned (.bool (rowB xs)) ∧ w = w' := by
  have HI := Lib.hid (fun V => isLength_any xs.length V)
  by_cases h1 : 2 ≤ xs.length ∧ xs.length ≤ 10
  · have HA := Lib.hid (areTones_any xs.length (by omega) xs v w hl h)
    have HR := Lib.hid (show rowB xs = partB xs.length xs by unfold rowB; rw [decide_eq_true h1, Bool.true_and])
    have e1 : decide (2 ≤ (xs.length : Int) ∧ (xs.length : Int) ≤ 10) = true := decide_eq_true (by omega)
    rw [e1] at HI
    obtain ⟨ao, cap, rfl, _⟩ := h
    clear h1 e1
    go_enter Try.func12, Try.ntmps12
    go_wp2_with fail
    refine (HI.out _).mono ?_
    rintro e w1 ⟨rfl, rfl⟩
    go_wp2_with fail
    refine HA.out.mono ?_
    rintro e w1 ⟨rfl, rfl⟩
    go_wp2
    go_ret
    exact ⟨ret_bool HR.out.symm, rfl⟩
  · have HR := Lib.hid (show rowB xs = false by unfold rowB; rw [decide_eq_false h1, Bool.false_and])
    have e1 : decide (2 ≤ (xs.length : Int) ∧ (xs.length : Int) ≤ 10) = false := decide_eq_false (by omega)
    rw [e1] at HI
    obtain ⟨ao, cap, rfl, _⟩ := h
    clear h1 e1
    go_enter Try.func12, Try.ntmps12
    go_wp2_with fail
    refine (HI.out _).mono ?_
    rintro e w1 ⟨rfl, rfl⟩
    go_wp2
    go_ret
    exact ⟨ret_bool HR.out.symm, rfl⟩

theorem RRow_any (xs : List Int) (v : Value) (w : World) (hl : xs.length ≤ maxLen) (h : IntsV w v xs) :
    Calls Try.prog 7 #[v] w fun e w' => e = .returned (.bool (rowB xs)) ∧ w = w' := by
  by_cases h1 : 2 ≤ xs.length
  · by_cases h2 : xs.length ≤ 10
    · have HA := Lib.hid (RPart_any xs.length (by omega) xs v w hl h)
      have HR := Lib.hid (show rowB xs = partB xs.length xs by unfold rowB; rw [decide_eq_true ⟨h1, h2⟩, Bool.true_and])
      obtain ⟨ao, cap, rfl, _⟩ := h
      go_enter Try.func7, Try.ntmps7
      go_wp2_with fail
      refine HA.out.mono ?_
      rintro e w1 ⟨rfl, rfl⟩
      go_wp2
      go_ret
      exact ⟨ret_bool HR.out.symm, rfl⟩
    · have HR := Lib.hid (show rowB xs = false by unfold rowB; rw [decide_eq_false (fun h => h2 h.2), Bool.false_and])
      obtain ⟨ao, cap, rfl, _⟩ := h
      go_enter Try.func7, Try.ntmps7
      go_wp2
      go_ret
      exact ⟨ret_bool HR.out.symm, rfl⟩
  · have HR := Lib.hid (show rowB xs = false by unfold rowB; rw [decide_eq_false (fun h => h1 h.1), Bool.false_and])
    obtain ⟨ao, cap, rfl, _⟩ := h
    go_enter Try.func7, Try.ntmps7
    go_wp2
    go_ret
    exact ⟨ret_bool HR.out.symm, rfl⟩

/-! ### copies -/
theorem Clone_any (xs : List Int) (v : Value) (w : World) (hl : xs.length ≤ 1000) (h : IntsV w v xs) :
    Calls Try.prog 15 #[v] w fun e w' => ∃ v', e = .returned v' ∧ IntsV w' v' xs ∧ Below w.heap.size w w' := by
  obtain ⟨ao, cap, rfl, _, hc⟩ := h
  by_cases h0 : 0 < xs.length
  · obtain ⟨b, off, rfl, hd⟩ := hc h0
    refine (Try.slices_Clone_int b off xs.length cap xs w (Nat.le_refl _) (by omega) hd).mono ?_
    rintro e w' ⟨v', rfl, h1, _, h2⟩
    rw [List.take_length] at h1
    exact ⟨v', rfl, IntsV.of_own h1, h2⟩
  · obtain rfl := List.eq_nil_of_length_eq_zero (show xs.length = 0 by omega)
    cases ao with
    | none =>
      refine (Try.slices_Clone_int_nil 0 cap w).mono ?_
      rintro e w' ⟨rfl, rfl⟩
      exact ⟨_, rfl, ⟨none, 0, rfl, Nat.le_refl _, fun h => by cases h⟩, Below.refl _ _⟩
    | some a =>
      refine (Try.slices_Clone_int_zero a cap w).mono ?_
      rintro e w' ⟨v', rfl, h1, _, h2⟩
      exact ⟨v', rfl, IntsV.of_own h1, h2⟩

/-- The beginning of a slice. -/
theorem IntsV.cut {W : World} {v : Value} {xs : List Int} (h : IntsV W v xs) (k : Nat) : ∀ ao cap, v = .slice ao xs.length cap → IntsV W (.slice ao (xs.take k).length cap) (xs.take k) := by
  intro ao cap e
  obtain ⟨ao', cap', rfl, hlc, hc⟩ := h
  cases e
  refine ⟨ao, cap, rfl, by rw [List.length_take]; omega, fun h0 => ?_⟩
  rw [List.length_take] at h0
  obtain ⟨b, off, e, hd⟩ := hc (by omega)
  refine ⟨b, off, e, fun i hi => ?_⟩
  rw [List.length_take] at hi
  rw [hd i (by omega), List.getElem?_take_of_lt (by omega)]

theorem list_any (xs : List Int) (v : Value) (w : World) (hl : xs.length ≤ maxLen) (h : IntsV w v xs) :
    Calls Try.prog 6 #[v] w fun e w' => ∃ v', e = .returned v' ∧ IntsV w' v' (xs.take 13) ∧ Below w.heap.size w w' := by
  have HT := Lib.hid (IntsV.cut h 13)
  obtain ⟨ao, cap, rfl, hlc, _⟩ := h
  unfold maxLen at hl
  have h0 : 0 ≤ min (xs.length : Int) 13 := by omega
  have h2 : min (xs.length : Int) 13 ≤ cap := by omega
  have HM := Lib.hid (show (min (xs.length : Int) 13).toNat = (xs.take 13).length by rw [List.length_take]; omega)
  go_enter Try.func6, Try.ntmps6
  go_wp2_with fail
  rw [HM.out]
  have HC := Lib.hid (Clone_any (xs.take 13) (.slice ao (xs.take 13).length cap) w (by rw [List.length_take]; omega) (HT.out ao cap rfl))
  refine HC.out.mono ?_
  rintro e w1 ⟨v', rfl, h3, h4⟩
  have H3 := Lib.hid h3
  clear h3
  go_wp2
  go_ret
  exact ⟨v', rfl, H3.out, h4⟩

theorem Equal_any (xs ys : List Int) (v u : Value) (w : World) (hl : xs.length ≤ maxLen) (hm : ys.length ≤ maxLen) (h : IntsV w v xs) (k : IntsV w u ys) :
    Calls Try.prog 18 #[v, u] w fun e w' => e = .returned (.bool (xs == ys)) ∧ ∃ q, w' = w.drewN q := by
  unfold maxLen at hl hm
  obtain ⟨ao, cap, rfl, _, hc⟩ := h
  obtain ⟨bo, cap', rfl, _, hd⟩ := k
  by_cases h0 : 0 < xs.length
  · obtain ⟨b, off, rfl, hc1⟩ := hc h0
    by_cases h1 : 0 < ys.length
    · obtain ⟨b', off', rfl, hd1⟩ := hd h1
      refine (Try.slices_Equal_int b off xs.length cap b' off' ys.length cap' xs ys w (Nat.le_refl _) (Nat.le_refl _) (by omega) (by omega) hc1 hd1).mono ?_
      rintro e w' ⟨rfl, h⟩
      rw [List.take_length, List.take_length]
      exact ⟨rfl, h⟩
    · have hne : ¬ xs.length = 0 := by omega
      obtain rfl := List.eq_nil_of_length_eq_zero (show ys.length = 0 by omega)
      have HE : (xs == []) = false := by
        rw [beq_eq_false_iff_ne]; rintro rfl; exact hne rfl
      have hne2 : ((xs.length : Int) == 0) = false := by rw [beq_eq_false_iff_ne]; omega
      have HE := Lib.hid HE
      clear hc hd hne hc1
      go_enter Try.func18, Try.ntmps18
      go_wp2
      go_ret
      exact ⟨ret_bool HE.out.symm, 0, rfl⟩
  · obtain rfl := List.eq_nil_of_length_eq_zero (show xs.length = 0 by omega)
    refine (Try.slices_Equal_int_empty ao bo cap ys.length cap' w (by omega)).mono ?_
    rintro e w' ⟨rfl, rfl⟩
    refine ⟨ret_bool ?_, 0, rfl⟩
    cases ys <;> rfl

/-! ### steps -/
theorem info_intV : (Try.prog.info? 3).map (fun i => (i.zero, i.size, i.bytes)) = some (some (.int .i64 0), 1, 8) := by kernel_rfl

/-- Integers as cells. -/
def ivals (xs : List Int) : List Value := xs.map (Value.int .i64)
theorem IntsV.of_vals {W : World} {lo n : Nat} {v : Value} {xs : List Int} (h : W.ownsRow lo 3 1 v n (ivals xs)) : IntsV W v xs := by
  have h1 := h.1
  unfold ivals at h1
  rw [List.length_map, Nat.mul_one] at h1
  subst h1
  exact IntsV.of_own h
def stepsK (n : Nat) (ys : List Nat) (k : Nat) : List Int := natI ((List.range k).map (stepN n ys))
theorem stepsK_succ (n : Nat) (ys : List Nat) (k : Nat) : stepsK n ys (k + 1) = stepsK n ys k ++ [((stepN n ys k : Nat) : Int)] := by
  unfold stepsK; rw [List.range_succ, List.map_append]; simp [natI]
theorem stepsK_all {n : Nat} {ys : List Nat} (h : ys.length = n) : stepsK n ys (n - 1) = natI (stepsL n ys) := by
  unfold stepsK stepsL; rw [h]
theorem owns_laterV {W W' : World} {lo n : Nat} {v : Value} {xs : List Value} {t : TypeId} (h : W.ownsRow lo t 1 v n xs) (hb : Below W.heap.size W W') : W'.ownsRow lo t 1 v n xs := by
  obtain ⟨h0, h1 | ⟨g, cap, cur, hv, hg, hh, h2⟩⟩ := h
  · exact ⟨h0, Or.inl h1⟩
  · exact ⟨h0, Or.inr ⟨g, cap, cur, hv, hg, (hb.block g (Array.getElem?_eq_some_iff.1 hh).1).trans hh, h2⟩⟩

set_option maxHeartbeats 2000000 in
theorem steps_any (n : Nat) (ys : List Nat) (hr : IsRow n ys) (v : Value) (w : World) (h : IntsV w v (natI ys)) :
    Calls Try.prog 26 #[v] w fun e w' => ∃ v', e = .returned v' ∧ IntsV w' v' (natI (stepsL n ys)) ∧ Below w.heap.size w w' := by
  have hlen := hr.len
  have hlo := hr.lo
  have hhi := hr.hi
  obtain ⟨ao, cap, rfl, hlc, hc⟩ := h
  rw [natI_length] at hlc hc ⊢
  obtain ⟨b, off, rfl, hd⟩ := hc (by omega)
  rw [hlen] at hlc hd ⊢
  have HC := Lib.hid (fun i hi => (hd i hi).trans (by rw [natI_at]))
  have HM := Lib.hid (fun x => modulo_any x n (by omega) (by omega))
  have HS := Lib.hid (fun i => step_int (n := n) (ys := ys) (i := i) (getD_lt hr.lt hr.pos i))
  have HY := Lib.hid (fun i => getD_lt hr.lt hr.pos i)
  have HK := Lib.hid (stepsK_succ n ys)
  have HA := Lib.hid (stepsK_all hlen)
  have hn1 : ¬ cap = 1 := by omega
  obtain ⟨i0, hi, hz0, hz1, hz2⟩ := info_parts info_intV
  obtain ⟨H, hH⟩ : ∃ H, w.heap.size = H := ⟨_, rfl⟩
  clear hc hd hlen hr
  go_enter Try.func26, Try.ntmps26
  go_wp2_with (at_make; refine wpList_make_own _ rfl _ _ 22 rfl H 3 i0 (.int .i64 0) 1 Try.underlying22 hi hz0 hz1 .i64 .i64 _ (n - 1) rfl rfl (by omega) (by rw [hz2]; omega) (by unfold maxLen; omega) (by omega) ?_; intro w0 hown0 hgrow0)
  have hB0 : Below H w w0 := by rw [← hH]; exact (Below.refl _ w).grown hgrow0 (by omega) (fun q e => by cases e)
  have HH := Lib.hid hH
  clear hH
  have HO0 := Lib.hid hown0
  clear hown0 hgrow0
  rw [HH.out] at HO0
  go_loopw [3, 4, 5, 13] (fun o _ _ i wr => ∃ k : Nat, k ≤ n - 1 ∧ i = .int .i64 k ∧ wr.ownsRow H 3 1 o k (ivals (stepsK n ys k)) ∧ Below H w wr) (fun _ _ _ i _ => n - (intOf i).toNat)
  case atStart => exact ⟨0, Nat.zero_le _, rfl, HO0.out, hB0⟩
  case round =>
    obtain ⟨k, hk, rfl, hown, hB⟩ := hrel
    have hs := hB.size
    have hle : H ≤ wr.heap.size := by have := HH.out; omega
    have hBw : Below w.heap.size w wr := by rw [HH.out]; exact hB
    have HB := Lib.hid hB
    have HO := Lib.hid hown
    clear hown hB
    by_cases hlt : k < n - 1
    · have c1 := cell_later hBw (HC.out (k + 1) (by omega))
      have c0 := cell_later hBw (HC.out k (by omega))
      have e1 : off + (k + 1) = off + 1 + k := by omega
      rw [e1] at c1
      have y1 := HY.out (k + 1)
      have y0 := HY.out k
      have HSk := Lib.hid (HS.out k)
      have HKk := Lib.hid (HK.out k)
      generalize ys[k + 1]?.getD 0 = y at c1 y1 HSk
      generalize ys[k]?.getD 0 = x at c0 y0 HSk
      generalize stepN n ys k = s at HSk HKk
      have HMk := Lib.hid (HM.out ((y : Int) - (x : Int)))
      rw [HSk.out] at HMk
      have hlk : (stepsK n ys k).length = k := by simp [stepsK, natI]
      have HLk := Lib.hid hlk
      clear hBw e1 hlk
      go_wp2_with fail
      refine (HMk.out _).mono ?_
      rintro e w1 ⟨rfl, rfl⟩
      go_wp2_with (at_builtin; refine wpList_append_own _ rfl _ _ 22 rfl H 3 i0 (.int .i64 0) 1 8 Try.underlying22 hi hz0 hz1 hz2 rfl (by decide) _ _ _ rfl (HO.out.alloc _) ⟨wr.heap.size, 0, none⟩ 1 1 [.int .i64 s] rfl rfl (cell_one_new _ _ _) (by simp [Value.oneCell']) (by unfold maxLen; omega) (by omega) (by simp; omega) ?_; intro v' w2 hown1 hgrow1 hnil1)
      go_roundw
      case rel => exact ⟨k + 1, by omega, by go_num, by rw [HKk.out]; unfold ivals at hown1 ⊢; rw [List.map_append]; exact hown1, (HB.out.alloc (by omega) _).grown hgrow1 (by simp; omega) (fun q e => (HO.out.lt q e).1)⟩
      case measure => simp only [intOf]; omega
    · obtain rfl : k = n - 1 := by omega
      rw [HA.out] at HO
      clear hBw
      go_wp2
      go_ret
      exact ⟨_, rfl, IntsV.of_vals HO.out, by rw [HH.out]; exact HB.out⟩
end Go.Proofs.Ytdfagnjdconkcaa
