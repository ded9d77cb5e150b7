/-
  What the statements through the layers ask: the tones of a chord as a voicing.
-/
import Derived.Test.YtfglmdlmjcfleaaVoChords
namespace Go.Proofs.Ytfglmdlmjcfleaa
open Go.ChangeShapes Go.WideShapes Go.ChangeAt Go.RowKit
set_option maxRecDepth 100000

theorem leads_any (w : World) : Calls Try.prog 61 #[] w fun e w' => e = .returned (.bool true) ∧ Below w.heap.size w w' := by
  have h0 := IntsV.one w 0
  obtain ⟨W0, hW0⟩ : ∃ W0, w.alloc (.cells #[.int .i64 0] 3) = W0 := ⟨_, rfl⟩
  have hs : W0.heap.size = w.heap.size + 1 := by rw [← hW0]; simp
  have b0 : Below w.heap.size w W0 := by rw [← hW0]; exact (Below.refl _ w).alloc (Nat.le_refl _) _
  rw [hW0] at h0
  have h1 := IntsV.one W0 11
  obtain ⟨W1, hW1⟩ : ∃ W1, W0.alloc (.cells #[.int .i64 11] 3) = W1 := ⟨_, rfl⟩
  have b1 : Below W0.heap.size W0 W1 := by rw [← hW1]; exact (Below.refl _ W0).alloc (Nat.le_refl _) _
  rw [hW1] at h1
  have HC := Lib.hid (Cost_ok 12 [0] [11] vc_awake _ _ W1 (h0.later b1) h1)
  rw [cost_awake, hs] at HC
  have HW := Lib.hid (show (w.alloc (.cells #[.int .i64 0] 3)).alloc (.cells #[.int .i64 11] 3) = W1 by rw [hW0, hW1])
  have HB := Lib.hid (below_nx b0 b1)
  clear h0 h1 hW0 hW1 hs b0 b1
  go_enter Try.func61, Try.ntmps61
  go_wp2_with fail
  rw [HW.out]
  refine HC.out.mono ?_
  rintro e w2 ⟨rfl, b2⟩
  go_wp2
  go_ret
  exact ⟨rfl, below_nx HB.out b2⟩


theorem tonesB_succ' (k c : Nat) : tonesB (k + 1) c = tonesB k c ++ if c.testBit k then [k] else [] := by
  unfold tonesB
  rw [List.range_succ, List.filter_append]
  by_cases h : c.testBit k <;> simp [h]
theorem bit_shr (c x : Nat) (hc : c < 2 ^ 16) (hx : x < 16) : (bits .and .i64 ((c : Int) / 2 ^ x) 1 == 1) = c.testBit x := by
  have e1 : ((c : Nat) : Int) / 2 ^ x = ((c >>> x : Nat) : Int) := by rw [Nat.shiftRight_eq_div_pow]; simp
  have hl : c >>> x < 2 ^ 63 := by rw [Nat.shiftRight_eq_div_pow]; exact Nat.lt_of_le_of_lt (Nat.div_le_self _ _) (by omega)
  rw [e1, show (1 : Int) = ((1 : Nat) : Int) from rfl, and_nat _ _ hl (by omega), Bool.eq_iff_iff, beq_iff_eq, Nat.testBit, Nat.and_comm]
  have h2 : 1 &&& (c >>> x) ≤ 1 := Nat.and_le_left
  constructor
  · intro h
    have : 1 &&& (c >>> x) = 1 := by exact_mod_cast h
    rw [this]; rfl
  · intro h
    have : 1 &&& (c >>> x) ≠ 0 := by simpa using h
    have : 1 &&& (c >>> x) = 1 := by omega
    exact_mod_cast this

theorem tones_len (j c : Nat) : (tonesB j c).length ≤ j := by
  unfold tonesB
  have := List.length_filter_le (c.testBit ·) (List.range j)
  rwa [List.length_range] at this

set_option maxHeartbeats 2000000 in
theorem toptones_any (n c : Nat) (hn : n ≤ 16) (hc : c < 2 ^ 16) (w : World) :
    Calls Try.prog 64 #[.int .i64 n, .int .i64 c] w fun e w' => ∃ v', e = .returned v' ∧ IntsV w' v' (natI (tonesB n c)) ∧ Below w.heap.size w w' := by
  obtain ⟨i0, hi, hz0, hz1, hz2⟩ := info_parts info_intV
  have HS := Lib.hid (fun j => tonesB_succ' j c)
  have HB := Lib.hid (fun j (hj : j < 16) => bit_shr c j hc hj)
  have HLn := Lib.hid (fun j => tones_len j c)
  obtain ⟨H, hH⟩ : ∃ H, w.heap.size = H := ⟨_, rfl⟩
  rw [hH]
  have HH := Lib.hid hH
  clear hH
  go_enter Try.func64, Try.ntmps64
  go_wp2
  go_loopw [5, 8] (fun o i wr => ∃ (j : Nat), j ≤ n ∧ i = .int .i64 j ∧ wr.ownsRow H 3 1 o (tonesB j c).length (ivals (natI (tonesB j c))) ∧ Below H w wr) (fun _ i _ => n - (intOf i).toNat)
  case atStart => exact ⟨0, Nat.zero_le _, rfl, World.ownsRow_nil _ _ _ _, by rw [← HH.out]; exact Below.refl _ _⟩
  case round =>
    obtain ⟨j, hj, rfl, hown, hb⟩ := hrel
    have HBw := Lib.hid hb
    have HO := Lib.hid hown
    have hle : H ≤ wr.heap.size := by have := HH.out; have := hb.size; omega
    have hll := HLn.out j
    clear hb hown
    by_cases hlk : j < n
    · have hbit := HB.out j (by omega)
      have HSj := Lib.hid (HS.out j)
      obtain ⟨t, ht⟩ : ∃ t, c.testBit j = t := ⟨_, rfl⟩
      rw [ht] at hbit HSj
      clear ht
      cases t
      · have HSk := Lib.hid (show tonesB (j + 1) c = tonesB j c by rw [HSj.out]; simp)
        go_wp2
        go_roundw
        case rel => exact ⟨j + 1, by omega, by go_num, by rw [HSk.out]; exact HO.out, HBw.out⟩
        case measure => simp only [intOf]; omega
      · have HSk := Lib.hid (show tonesB (j + 1) c = tonesB j c ++ [j] by rw [HSj.out]; simp)
        obtain ⟨L, hL⟩ : ∃ L, (tonesB j c).length = L := ⟨_, rfl⟩
        have HL := Lib.hid hL
        rw [hL] at hll HO
        clear hL
        go_wp2_with (at_builtin; refine wpList_append_own _ rfl _ _ 22 rfl H 3 i0 (.int .i64 0) 1 8 Try.underlying22 hi hz0 hz1 hz2 rfl (by decide) _ _ _ rfl (HO.out.alloc _) ⟨wr.heap.size, 0, none⟩ 1 1 [.int .i64 j] rfl rfl (cell_one_new _ _ _) (by simp [Value.oneCell']) (by unfold maxLen; omega) (by omega) (by simp; omega) ?_; intro v' w2 hown1 hgrow1 hnil1)
        go_roundw
        case rel => exact ⟨j + 1, by omega, by go_num, by rw [HSk.out, List.length_append, HL.out, natI_append]; unfold ivals at hown1 ⊢; rw [List.map_append]; exact hown1, (HBw.out.alloc (by omega) _).grown hgrow1 (by simp; omega) (fun q e => (HO.out.lt q e).1)⟩
        case measure => simp only [intOf]; omega
    · obtain rfl : j = n := by omega
      go_wp2
      go_ret
      exact ⟨_, rfl, IntsV.of_vals HO.out, HBw.out⟩
end Go.Proofs.Ytfglmdlmjcfleaa
