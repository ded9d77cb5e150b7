/-
  Cost, and what each statement asks of it first; copies of arguments.
-/
import Derived.Test.YtkpiakoijkflmaaVoLeast
namespace Go.Proofs.Ytkpiakoijkflmaa
open Go.ChangeShapes Go.WideShapes Go.ChangeAt Go.RowKit
set_option maxRecDepth 100000

theorem run_index_arr (cs : Array Value) (i : Nat) (hi : i < 64) (a : Int) (h : cs[i]? = some (.int .i64 a)) (w : World) : (Instr.index 99 (.agg cs) (.int .i64 i)).run Try.prog w = .ok (.int .i64 a) w := by
  simp [Instr.index, run_underlying Try.underlying99, asIntOf, go_sem, part, h]
  intro h; omega

theorem cost_any (n : Nat) (us bs : List Nat) (hv : Vc n us bs) (v u : Value) (w : World) (h : IntsV w v (natI us)) (k : IntsV w u (natI bs)) :
    Calls Try.prog 61 #[.int .i64 n, v, u] w fun e w' => e = .returned (.int .i64 (costN n us bs : Nat)) ∧ Below w.heap.size w w' := by
  have HL := Lib.hid (leastCosts_any n us bs hv v u w h k)
  obtain ⟨ao, cap, rfl, _, _⟩ := h
  obtain ⟨bo, cap', rfl, _, _⟩ := k
  have h2 : 0 < 2 ^ us.length := Nat.two_pow_pos _
  have HE := Lib.hid (fun L (hg : Good n us.length us bs 0 L) => show L[0]?.getD 0 = costN n us bs by
    have := hg 0 (Nat.le_refl _) h2
    rw [this, show pcN 0 = 0 from by unfold pcN; rw [tonesL_zero]; rfl, List.drop_zero]; rfl)
  clear h2 hv
  rw [natI_length, natI_length] at *
  generalize costN n us bs = c at *
  go_enter Try.func61, Try.ntmps61
  go_wp2_with fail
  refine HL.out.mono ?_
  rintro e w1 ⟨L, rfl, hl, hg, hb⟩
  have HB := Lib.hid hb
  have hi := run_index_arr (ints L).toArray 0 (by omega) ((L[0]?.getD 0 : Nat) : Int) (by rw [List.getElem?_toArray]; exact ints_at (by omega)) w1
  rw [HE.out L hg] at hi
  have hi' : (Instr.index 99 (.agg (ints L).toArray) (.int .i64 0)).run Try.prog w1 = .ok (.int .i64 ((c : Nat) : Int)) w1 := hi
  clear hi hb hl hg
  generalize (ints L).toArray = cs at *
  go_wp2
  go_ret
  exact ⟨rfl, HB.out⟩

theorem Cost_ok (n : Nat) (us bs : List Nat) (hv : Vc n us bs) (v u : Value) (w : World) (h : IntsV w v (natI us)) (k : IntsV w u (natI bs)) :
    Calls Try.prog 16 #[.int .i64 n, v, u] w fun e w' => e = .returned (.tuple #[.int .i64 (costN n us bs : Nat), .int .i64 0]) ∧ Below w.heap.size w w' := by
  have HV := Lib.hid (valid2_any n (natI us) (natI bs) v u w (by rw [natI_length]; have := hv.l6; unfold maxLen; omega) (by rw [natI_length]; have := hv.symm.l6; unfold maxLen; omega) h k)
  rw [two_of hv] at HV
  obtain ⟨W1, hW1⟩ : ∃ W1, w.alloc (.cells #[v, u] 22) = W1 := ⟨_, rfl⟩
  have hb : Below w.heap.size w W1 := by rw [← hW1]; exact (Below.refl _ w).alloc (Nat.le_refl _) _
  have HC := Lib.hid (cost_any n us bs hv v u W1 (h.later hb) (k.later hb))
  rw [hW1] at HV
  have HW := Lib.hid hW1
  have HB := Lib.hid hb
  obtain ⟨ao, cap, rfl, _, _⟩ := h
  obtain ⟨bo, cap', rfl, _, _⟩ := k
  clear hW1 hb hv
  generalize costN n us bs = c at *
  go_enter Try.func16, Try.ntmps16
  go_wp2_with fail
  rw [HW.out]
  refine HV.out.mono ?_
  rintro e w1 ⟨rfl, rfl⟩
  go_wp2_with fail
  refine HC.out.mono ?_
  rintro e w2 ⟨rfl, b2⟩
  go_wp2
  go_ret2
  exact ⟨rfl, below_nx HB.out b2⟩

theorem Cost_bad (n : Int) (xs zs : List Int) (hl : xs.length ≤ maxLen) (hm : zs.length ≤ maxLen) (hb : twoB n xs zs = false) (v u : Value) (w : World) (h : IntsV w v xs) (k : IntsV w u zs) :
    Calls Try.prog 16 #[.int .i64 n, v, u] w fun e w' => e = .returned (.tuple #[.int .i64 0, .int .i64 2]) ∧ Below w.heap.size w w' := by
  have HV := Lib.hid (valid2_any n xs zs v u w hl hm h k)
  rw [hb] at HV
  obtain ⟨W1, hW1⟩ : ∃ W1, w.alloc (.cells #[v, u] 22) = W1 := ⟨_, rfl⟩
  have HB := Lib.hid (show Below w.heap.size w W1 by rw [← hW1]; exact (Below.refl _ w).alloc (Nat.le_refl _) _)
  rw [hW1] at HV
  have HW := Lib.hid hW1
  obtain ⟨ao, cap, rfl, _, _⟩ := h
  obtain ⟨bo, cap', rfl, _, _⟩ := k
  clear hW1 hb
  go_enter Try.func16, Try.ntmps16
  go_wp2_with fail
  rw [HW.out]
  refine HV.out.mono ?_
  rintro e w1 ⟨rfl, rfl⟩
  go_wp2
  go_ret2
  exact ⟨rfl, HB.out⟩

theorem IntsV.one (W : World) (x : Int) : IntsV (W.alloc (.cells #[.int .i64 x] 3)) (.slice (some ⟨W.heap.size, 0, none⟩) 1 1) [x] :=
  ⟨_, 1, rfl, Nat.le_refl _, fun _ => ⟨_, 0, rfl, fun i hi => by
    have hr := Row.new W 3 [.int .i64 x]
    rw [Nat.zero_add, hr.cell i]
    rcases i with _ | i
    · rfl
    · simp at hi⟩⟩

theorem cost_awake : costN 12 [0] [11] = 1 := by decide
theorem vc_awake : Vc 12 [0] [11] := ⟨by decide, by decide, rfl, by decide, by decide, by decide, by decide⟩

theorem vawake_any (w : World) : Calls Try.prog 20 #[] w fun e w' => e = .returned (.bool true) ∧ Below w.heap.size w w' := by
  have h0 := IntsV.one w 0
  obtain ⟨W0, hW0⟩ : ∃ W0, w.alloc (.cells #[.int .i64 0] 3) = W0 := ⟨_, rfl⟩
  have hs : W0.heap.size = w.heap.size + 1 := by rw [← hW0]; simp
  have b0 : Below w.heap.size w W0 := by rw [← hW0]; exact (Below.refl _ w).alloc (Nat.le_refl _) _
  rw [hW0] at h0
  have h1 := IntsV.one W0 11
  obtain ⟨W1, hW1⟩ : ∃ W1, W0.alloc (.cells #[.int .i64 11] 3) = W1 := ⟨_, rfl⟩
  have b1 : Below W0.heap.size W0 W1 := by rw [← hW1]; exact (Below.refl _ W0).alloc (Nat.le_refl _) _
  rw [hW1] at h1
  have HC := Lib.hid (Cost_ok 12 [0] [11] vc_awake _ _ W1 (h0.later b1) h1)
  rw [cost_awake, hs] at HC
  have HW := Lib.hid (show (w.alloc (.cells #[.int .i64 0] 3)).alloc (.cells #[.int .i64 11] 3) = W1 by rw [hW0, hW1])
  have HB := Lib.hid (below_nx b0 b1)
  clear h0 h1 hW0 hW1 hs b0 b1
  go_enter Try.func20, Try.ntmps20
  go_wp2_with fail
  rw [HW.out]
  refine HC.out.mono ?_
  rintro e w2 ⟨rfl, b2⟩
  go_wp2
  go_ret
  exact ⟨rfl, below_nx HB.out b2⟩

theorem vlist_any (xs : List Int) (v : Value) (w : World) (hl : xs.length ≤ maxLen) (h : IntsV w v xs) :
    Calls Try.prog 17 #[v] w fun e w' => ∃ v', e = .returned v' ∧ IntsV w' v' (xs.take 9) ∧ Below w.heap.size w w' := by
  have HT := Lib.hid (IntsV.cut h 9)
  obtain ⟨ao, cap, rfl, hlc, _⟩ := h
  unfold maxLen at hl
  have h0 : 0 ≤ min (xs.length : Int) 9 := by omega
  have h2 : min (xs.length : Int) 9 ≤ cap := by omega
  have HM := Lib.hid (show (min (xs.length : Int) 9).toNat = (xs.take 9).length by rw [List.length_take]; omega)
  go_enter Try.func17, Try.ntmps17
  go_wp2_with fail
  rw [HM.out]
  have HC := Lib.hid (Clone_any (xs.take 9) (.slice ao (xs.take 9).length cap) w (by rw [List.length_take]; omega) (HT.out ao cap rfl))
  refine HC.out.mono ?_
  rintro e w1 ⟨v', rfl, h3, h4⟩
  have H3 := Lib.hid h3
  clear h3
  go_wp2
  go_ret
  exact ⟨v', rfl, H3.out, h4⟩


theorem take9 {xs : List Int} : (xs.take 9).length ≤ maxLen := by rw [List.length_take]; unfold maxLen; omega
theorem voic_take (n : Int) (xs : List Int) : voicB n (xs.take 9) = voicB n xs := by
  by_cases h : xs.length ≤ 9
  · rw [List.take_of_length_le h]
  · have e1 : voicB n (xs.take 9) = false := by
      unfold voicB; rw [decide_eq_false (fun hh => by have := hh.2; rw [List.length_take] at this; omega), Bool.false_and]
    have e2 : voicB n xs = false := by
      unfold voicB; rw [decide_eq_false (fun hh => by have := hh.2; omega), Bool.false_and]
    rw [e1, e2]
theorem two_take (n : Int) (xs zs : List Int) : twoB n (xs.take 9) (zs.take 9) = twoB n xs zs := by
  unfold twoB
  rw [voic_take, voic_take]
  cases h1 : voicB n xs
  · simp
  · cases h2 : voicB n zs
    · simp
    · have l1 := voic_len h1
      have l2 := voic_len h2
      rw [List.take_of_length_le (by omega), List.take_of_length_le (by omega)]
theorem Vc.take {n : Nat} {us bs : List Nat} (h : Vc n us bs) : (natI us).take 9 = natI us ∧ (natI bs).take 9 = natI bs :=
  ⟨List.take_of_length_le (by rw [natI_length]; have := h.l6; omega), List.take_of_length_le (by rw [natI_length]; have := h.symm.l6; omega)⟩
end Go.Proofs.Ytkpiakoijkflmaa
