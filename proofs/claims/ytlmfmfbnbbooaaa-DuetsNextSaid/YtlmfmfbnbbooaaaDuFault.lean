/-
  The least rule that is not kept at a place; the first place; whether a beginning keeps the rules.
-/
import Derived.Test.YtlmfmfbnbbooaaaDuRules
import Derived.Laws.EntriesVeiled
namespace Go.Proofs.Ytlmfmfbnbbooaaa
open Go.ChangeShapes Go.WideShapes Go.ChangeAt Go.RowKit
set_option maxRecDepth 100000

def rulesV : Array Value := #[.func (.func 131) #[] #[], .func (.func 132) #[] #[], .func (.func 133) #[] #[], .func (.func 134) #[] #[],
  .func (.func 135) #[] #[], .func (.func 136) #[] #[], .func (.func 137) #[] #[], .func (.func 138) #[] #[]]

theorem info_rules : (Try.prog.info? 102).map (·.size) = some 8 := by kernel_rfl
set_option maxHeartbeats 1000000 in
theorem rules_any (w : World) : Calls Try.prog 129 #[] w fun e w' => e = .returned (.agg rulesV) ∧ Below w.heap.size w w' := by
  have r0 := Row.new w 102 [.nilFunc, .nilFunc, .nilFunc, .nilFunc, .nilFunc, .nilFunc, .nilFunc, .nilFunc]
  have b0 := (Below.refl _ w).alloc (Nat.le_refl _) (.cells #[.nilFunc, .nilFunc, .nilFunc, .nilFunc, .nilFunc, .nilFunc, .nilFunc, .nilFunc] 102)
  go_enter Try.func129, Try.ntmps129
  go_wp2
  refine bodyPost_ret (results_cell_row rfl _ _ w.heap.size 102 rulesV (0, 0) _ rfl (World.alloc_heap_new w _) Try.underlying102 rfl (by kernel_rfl)) rfl ?_
  exact ⟨rfl, (Below.refl _ w).alloc (Nat.le_refl _) _⟩

theorem rix0 (w : World) : (Instr.index 102 (.agg #[.func (.func 131) #[] #[], .func (.func 132) #[] #[], .func (.func 133) #[] #[], .func (.func 134) #[] #[], .func (.func 135) #[] #[], .func (.func 136) #[] #[], .func (.func 137) #[] #[], .func (.func 138) #[] #[]]) (.int .i64 0)).run Try.prog w = .ok (.func (.func 131) #[] #[]) w := by
  simp [Instr.index, run_underlying Try.underlying102, asIntOf, go_sem, part]
theorem rix1 (w : World) : (Instr.index 102 (.agg #[.func (.func 131) #[] #[], .func (.func 132) #[] #[], .func (.func 133) #[] #[], .func (.func 134) #[] #[], .func (.func 135) #[] #[], .func (.func 136) #[] #[], .func (.func 137) #[] #[], .func (.func 138) #[] #[]]) (.int .i64 1)).run Try.prog w = .ok (.func (.func 132) #[] #[]) w := by
  simp [Instr.index, run_underlying Try.underlying102, asIntOf, go_sem, part]
theorem rix2 (w : World) : (Instr.index 102 (.agg #[.func (.func 131) #[] #[], .func (.func 132) #[] #[], .func (.func 133) #[] #[], .func (.func 134) #[] #[], .func (.func 135) #[] #[], .func (.func 136) #[] #[], .func (.func 137) #[] #[], .func (.func 138) #[] #[]]) (.int .i64 2)).run Try.prog w = .ok (.func (.func 133) #[] #[]) w := by
  simp [Instr.index, run_underlying Try.underlying102, asIntOf, go_sem, part]
theorem rix3 (w : World) : (Instr.index 102 (.agg #[.func (.func 131) #[] #[], .func (.func 132) #[] #[], .func (.func 133) #[] #[], .func (.func 134) #[] #[], .func (.func 135) #[] #[], .func (.func 136) #[] #[], .func (.func 137) #[] #[], .func (.func 138) #[] #[]]) (.int .i64 3)).run Try.prog w = .ok (.func (.func 134) #[] #[]) w := by
  simp [Instr.index, run_underlying Try.underlying102, asIntOf, go_sem, part]
theorem rix4 (w : World) : (Instr.index 102 (.agg #[.func (.func 131) #[] #[], .func (.func 132) #[] #[], .func (.func 133) #[] #[], .func (.func 134) #[] #[], .func (.func 135) #[] #[], .func (.func 136) #[] #[], .func (.func 137) #[] #[], .func (.func 138) #[] #[]]) (.int .i64 4)).run Try.prog w = .ok (.func (.func 135) #[] #[]) w := by
  simp [Instr.index, run_underlying Try.underlying102, asIntOf, go_sem, part]
theorem rix5 (w : World) : (Instr.index 102 (.agg #[.func (.func 131) #[] #[], .func (.func 132) #[] #[], .func (.func 133) #[] #[], .func (.func 134) #[] #[], .func (.func 135) #[] #[], .func (.func 136) #[] #[], .func (.func 137) #[] #[], .func (.func 138) #[] #[]]) (.int .i64 5)).run Try.prog w = .ok (.func (.func 136) #[] #[]) w := by
  simp [Instr.index, run_underlying Try.underlying102, asIntOf, go_sem, part]
theorem rix6 (w : World) : (Instr.index 102 (.agg #[.func (.func 131) #[] #[], .func (.func 132) #[] #[], .func (.func 133) #[] #[], .func (.func 134) #[] #[], .func (.func 135) #[] #[], .func (.func 136) #[] #[], .func (.func 137) #[] #[], .func (.func 138) #[] #[]]) (.int .i64 6)).run Try.prog w = .ok (.func (.func 137) #[] #[]) w := by
  simp [Instr.index, run_underlying Try.underlying102, asIntOf, go_sem, part]
theorem rix7 (w : World) : (Instr.index 102 (.agg #[.func (.func 131) #[] #[], .func (.func 132) #[] #[], .func (.func 133) #[] #[], .func (.func 134) #[] #[], .func (.func 135) #[] #[], .func (.func 136) #[] #[], .func (.func 137) #[] #[], .func (.func 138) #[] #[]]) (.int .i64 7)).run Try.prog w = .ok (.func (.func 138) #[] #[]) w := by
  simp [Instr.index, run_underlying Try.underlying102, asIntOf, go_sem, part]

set_option maxHeartbeats 4000000 in
theorem fault_any {gs ss : List Int} {g s : Value} {i : Nat} {w : World} (h : PlaceAt gs ss g s i w) :
    Calls Try.prog 113 #[plV g s (i : Int)] w fun e w' => e = .returned (.int .i64 (faultN gs ss i : Nat)) ∧ Below w.heap.size w w' := by
  have R1 := Lib.hid (fun W (hb : Below w.heap.size w W) => rule1_any (h.later hb))
  have R2 := Lib.hid (fun W (hb : Below w.heap.size w W) => rule2_any (h.later hb))
  have R3 := Lib.hid (fun W (hb : Below w.heap.size w W) => rule3_any (h.later hb))
  have R4 := Lib.hid (fun W (hb : Below w.heap.size w W) => rule4_any (h.later hb))
  have R5 := Lib.hid (fun W (hb : Below w.heap.size w W) => rule5_any (h.later hb))
  have R6 := Lib.hid (fun W (hb : Below w.heap.size w W) => rule6_any (h.later hb))
  have R7 := Lib.hid (fun W (hb : Below w.heap.size w W) => rule7_any (h.later hb))
  have R8 := Lib.hid (fun W (hb : Below w.heap.size w W) => rule8_any (h.later hb))
  have HRu := Lib.hid (fun W => rules_any W)
  obtain ⟨ff, hff⟩ : ∃ ff : Nat → Nat, ff = fun k => match k with
    | 0 => faultN gs ss i
    | 1 => if r2B gs ss i = false then 2 else if r3B gs ss i = false then 3 else if r4B ss i = false then 4 else if r5B gs ss i = false then 5 else if r6B gs ss i = false then 6 else if r7B ss i = false then 7 else if r8B ss i = false then 8 else 0
    | 2 => if r3B gs ss i = false then 3 else if r4B ss i = false then 4 else if r5B gs ss i = false then 5 else if r6B gs ss i = false then 6 else if r7B ss i = false then 7 else if r8B ss i = false then 8 else 0
    | 3 => if r4B ss i = false then 4 else if r5B gs ss i = false then 5 else if r6B gs ss i = false then 6 else if r7B ss i = false then 7 else if r8B ss i = false then 8 else 0
    | 4 => if r5B gs ss i = false then 5 else if r6B gs ss i = false then 6 else if r7B ss i = false then 7 else if r8B ss i = false then 8 else 0
    | 5 => if r6B gs ss i = false then 6 else if r7B ss i = false then 7 else if r8B ss i = false then 8 else 0
    | 6 => if r7B ss i = false then 7 else if r8B ss i = false then 8 else 0
    | 7 => if r8B ss i = false then 8 else 0
    | _ => 0 := ⟨_, rfl⟩
  have F0 := Lib.hid (show ff 0 = if r1B gs ss i = false then 1 else ff 1 by subst hff; rfl)
  have F1 := Lib.hid (show ff 1 = if r2B gs ss i = false then 2 else ff 2 by subst hff; rfl)
  have F2 := Lib.hid (show ff 2 = if r3B gs ss i = false then 3 else ff 3 by subst hff; rfl)
  have F3 := Lib.hid (show ff 3 = if r4B ss i = false then 4 else ff 4 by subst hff; rfl)
  have F4 := Lib.hid (show ff 4 = if r5B gs ss i = false then 5 else ff 5 by subst hff; rfl)
  have F5 := Lib.hid (show ff 5 = if r6B gs ss i = false then 6 else ff 6 by subst hff; rfl)
  have F6 := Lib.hid (show ff 6 = if r7B ss i = false then 7 else ff 7 by subst hff; rfl)
  have F7 := Lib.hid (show ff 7 = if r8B ss i = false then 8 else ff 8 by subst hff; rfl)
  have F8 := Lib.hid (show ff 8 = 0 by subst hff; rfl)
  have FF := Lib.hid (show faultN gs ss i = ff 0 by subst hff; rfl)
  obtain ⟨a, m, c, rfl⟩ := slice_form h.hg
  obtain ⟨a', m', c', rfl⟩ := slice_form h.hs
  have HX0 := Lib.hid (BoxAt.new (.slice a m c) (.slice a' m' c') (i : Int) w)
  clear h hff
  generalize faultN gs ss i = F at *
  generalize r1B gs ss i = b0 at *
  generalize r2B gs ss i = b1 at *
  generalize r3B gs ss i = b2 at *
  generalize r4B ss i = b3 at *
  generalize r5B gs ss i = b4 at *
  generalize r6B gs ss i = b5 at *
  generalize r7B ss i = b6 at *
  generalize r8B ss i = b7 at *
  unfold plV at *
  go_enter Try.func113, Try.ntmps113
  go_wp2_with fail
  refine (HRu.out _).mono ?_
  rintro e w1 ⟨rfl, bb⟩
  have HX1 := Lib.hid (HX0.out.later bb)
  clear bb
  unfold rulesV
  go_wp2
  go_loopw [6] (fun t wr => ∃ k : Nat, k ≤ 8 ∧ t = .int .i64 k ∧ F = ff k ∧ BoxAt w w.heap.size (.slice a m c) (.slice a' m' c') (i : Int) wr) (fun t _ => 8 - (intOf t).toNat)
  case atStart => exact ⟨0, Nat.zero_le _, rfl, FF.out, HX1.out⟩
  case round =>
    obtain ⟨k, hk, rfl, hF, hX⟩ := hrel
    have HF := Lib.hid hF
    have HX := Lib.hid hX
    obtain ⟨k0, k1, k2⟩ := hX.cell
    clear hF hX
    rcases (show k = 0 ∨ k = 1 ∨ k = 2 ∨ k = 3 ∨ k = 4 ∨ k = 5 ∨ k = 6 ∨ k = 7 ∨ k = 8 by omega) with rfl | rfl | rfl | rfl | rfl | rfl | rfl | rfl | rfl
    · have hix := rix0 wr
      cases b0
      · have HV := Lib.hid (show F = 1 by rw [HF.out, F0.out, if_pos rfl])
        go_wp2_with fail
        refine (R1.out _ HX.out.hb).mono ?_
        rintro e w3 ⟨rfl, b9⟩
        have HX3 := Lib.hid (HX.out.later b9)
        clear b9
        go_wp2
        go_ret
        exact ⟨ret_int (by rw [HV.out]; rfl), HX3.out.hb⟩
      · have HV := Lib.hid (show F = ff 1 by rw [HF.out, F0.out, if_neg (by simp)])
        go_wp2_with fail
        refine (R1.out _ HX.out.hb).mono ?_
        rintro e w3 ⟨rfl, b9⟩
        have HX3 := Lib.hid (HX.out.later b9)
        clear b9
        go_wp2
        go_roundw
        case rel => exact ⟨1, by omega, rfl, HV.out, HX3.out⟩
        case measure => simp only [intOf]; omega
    · have hix := rix1 wr
      cases b1
      · have HV := Lib.hid (show F = 2 by rw [HF.out, F1.out, if_pos rfl])
        go_wp2_with fail
        refine (R2.out _ HX.out.hb).mono ?_
        rintro e w3 ⟨rfl, b9⟩
        have HX3 := Lib.hid (HX.out.later b9)
        clear b9
        go_wp2
        go_ret
        exact ⟨ret_int (by rw [HV.out]; rfl), HX3.out.hb⟩
      · have HV := Lib.hid (show F = ff 2 by rw [HF.out, F1.out, if_neg (by simp)])
        go_wp2_with fail
        refine (R2.out _ HX.out.hb).mono ?_
        rintro e w3 ⟨rfl, b9⟩
        have HX3 := Lib.hid (HX.out.later b9)
        clear b9
        go_wp2
        go_roundw
        case rel => exact ⟨2, by omega, rfl, HV.out, HX3.out⟩
        case measure => simp only [intOf]; omega
    · have hix := rix2 wr
      cases b2
      · have HV := Lib.hid (show F = 3 by rw [HF.out, F2.out, if_pos rfl])
        go_wp2_with fail
        refine (R3.out _ HX.out.hb).mono ?_
        rintro e w3 ⟨rfl, b9⟩
        have HX3 := Lib.hid (HX.out.later b9)
        clear b9
        go_wp2
        go_ret
        exact ⟨ret_int (by rw [HV.out]; rfl), HX3.out.hb⟩
      · have HV := Lib.hid (show F = ff 3 by rw [HF.out, F2.out, if_neg (by simp)])
        go_wp2_with fail
        refine (R3.out _ HX.out.hb).mono ?_
        rintro e w3 ⟨rfl, b9⟩
        have HX3 := Lib.hid (HX.out.later b9)
        clear b9
        go_wp2
        go_roundw
        case rel => exact ⟨3, by omega, rfl, HV.out, HX3.out⟩
        case measure => simp only [intOf]; omega
    · have hix := rix3 wr
      cases b3
      · have HV := Lib.hid (show F = 4 by rw [HF.out, F3.out, if_pos rfl])
        go_wp2_with fail
        refine (R4.out _ HX.out.hb).mono ?_
        rintro e w3 ⟨rfl, b9⟩
        have HX3 := Lib.hid (HX.out.later b9)
        clear b9
        go_wp2
        go_ret
        exact ⟨ret_int (by rw [HV.out]; rfl), HX3.out.hb⟩
      · have HV := Lib.hid (show F = ff 4 by rw [HF.out, F3.out, if_neg (by simp)])
        go_wp2_with fail
        refine (R4.out _ HX.out.hb).mono ?_
        rintro e w3 ⟨rfl, b9⟩
        have HX3 := Lib.hid (HX.out.later b9)
        clear b9
        go_wp2
        go_roundw
        case rel => exact ⟨4, by omega, rfl, HV.out, HX3.out⟩
        case measure => simp only [intOf]; omega
    · have hix := rix4 wr
      cases b4
      · have HV := Lib.hid (show F = 5 by rw [HF.out, F4.out, if_pos rfl])
        go_wp2_with fail
        refine (R5.out _ HX.out.hb).mono ?_
        rintro e w3 ⟨rfl, b9⟩
        have HX3 := Lib.hid (HX.out.later b9)
        clear b9
        go_wp2
        go_ret
        exact ⟨ret_int (by rw [HV.out]; rfl), HX3.out.hb⟩
      · have HV := Lib.hid (show F = ff 5 by rw [HF.out, F4.out, if_neg (by simp)])
        go_wp2_with fail
        refine (R5.out _ HX.out.hb).mono ?_
        rintro e w3 ⟨rfl, b9⟩
        have HX3 := Lib.hid (HX.out.later b9)
        clear b9
        go_wp2
        go_roundw
        case rel => exact ⟨5, by omega, rfl, HV.out, HX3.out⟩
        case measure => simp only [intOf]; omega
    · have hix := rix5 wr
      cases b5
      · have HV := Lib.hid (show F = 6 by rw [HF.out, F5.out, if_pos rfl])
        go_wp2_with fail
        refine (R6.out _ HX.out.hb).mono ?_
        rintro e w3 ⟨rfl, b9⟩
        have HX3 := Lib.hid (HX.out.later b9)
        clear b9
        go_wp2
        go_ret
        exact ⟨ret_int (by rw [HV.out]; rfl), HX3.out.hb⟩
      · have HV := Lib.hid (show F = ff 6 by rw [HF.out, F5.out, if_neg (by simp)])
        go_wp2_with fail
        refine (R6.out _ HX.out.hb).mono ?_
        rintro e w3 ⟨rfl, b9⟩
        have HX3 := Lib.hid (HX.out.later b9)
        clear b9
        go_wp2
        go_roundw
        case rel => exact ⟨6, by omega, rfl, HV.out, HX3.out⟩
        case measure => simp only [intOf]; omega
    · have hix := rix6 wr
      cases b6
      · have HV := Lib.hid (show F = 7 by rw [HF.out, F6.out, if_pos rfl])
        go_wp2_with fail
        refine (R7.out _ HX.out.hb).mono ?_
        rintro e w3 ⟨rfl, b9⟩
        have HX3 := Lib.hid (HX.out.later b9)
        clear b9
        go_wp2
        go_ret
        exact ⟨ret_int (by rw [HV.out]; rfl), HX3.out.hb⟩
      · have HV := Lib.hid (show F = ff 7 by rw [HF.out, F6.out, if_neg (by simp)])
        go_wp2_with fail
        refine (R7.out _ HX.out.hb).mono ?_
        rintro e w3 ⟨rfl, b9⟩
        have HX3 := Lib.hid (HX.out.later b9)
        clear b9
        go_wp2
        go_roundw
        case rel => exact ⟨7, by omega, rfl, HV.out, HX3.out⟩
        case measure => simp only [intOf]; omega
    · have hix := rix7 wr
      cases b7
      · have HV := Lib.hid (show F = 8 by rw [HF.out, F7.out, if_pos rfl])
        go_wp2_with fail
        refine (R8.out _ HX.out.hb).mono ?_
        rintro e w3 ⟨rfl, b9⟩
        have HX3 := Lib.hid (HX.out.later b9)
        clear b9
        go_wp2
        go_ret
        exact ⟨ret_int (by rw [HV.out]; rfl), HX3.out.hb⟩
      · have HV := Lib.hid (show F = ff 8 by rw [HF.out, F7.out, if_neg (by simp)])
        go_wp2_with fail
        refine (R8.out _ HX.out.hb).mono ?_
        rintro e w3 ⟨rfl, b9⟩
        have HX3 := Lib.hid (HX.out.later b9)
        clear b9
        go_wp2
        go_roundw
        case rel => exact ⟨8, by omega, rfl, HV.out, HX3.out⟩
        case measure => simp only [intOf]; omega
    · have HV := Lib.hid (show F = 0 by rw [HF.out, F8.out])
      go_wp2
      go_ret
      exact ⟨ret_int (by rw [HV.out]; rfl), HX.out.hb⟩
end Go.Proofs.Ytlmfmfbnbbooaaa
