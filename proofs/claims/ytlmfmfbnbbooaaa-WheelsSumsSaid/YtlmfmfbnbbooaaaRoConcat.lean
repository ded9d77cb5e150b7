/-
  slices.Grow and slices.Concat at integers; Halves.
-/
import Derived.Test.YtlmfmfbnbbooaaaRoCut
import Derived.OwnWalk
import Derived.Maps.AppendAt
import Derived.ArgAppend
import Derived.Lib.SliceRun
import Derived.Lib.AppendZeros
namespace Go.Proofs.Ytlmfmfbnbbooaaa
open Go.ChangeShapes Go.WideShapes Go.ChangeAt Go.RowKit Go.Shelf
attribute [local go_sem] Oper.semAt_some
set_option maxRecDepth 100000

theorem size_zeros (z : Value) (hz : z.cells.size = 1) (n k : Nat) (h : n ≤ k) : (Builtin.zeroCells z.cells n ++ Builtin.zeroCells z.cells (k - n)).size = k * 1 := by
  rw [Array.size_append, size_zeroCells, size_zeroCells, hz]
  omega

/-- The first i of many rows, one behind the other. -/
def catN (cs : Nat → List Value) : Nat → List Value
  | 0 => []
  | i + 1 => catN cs i ++ cs i
theorem catN_length (cs : Nat → List Value) (i : Nat) : (catN cs (i + 1)).length = (catN cs i).length + (cs i).length := by
  show (catN cs i ++ cs i).length = _
  rw [List.length_append]
theorem catN_mono (cs : Nat → List Value) {i k : Nat} (h : i ≤ k) : (catN cs i).length ≤ (catN cs k).length := by
  induction k with
  | zero => have : i = 0 := by omega
            subst this; exact Nat.le_refl _
  | succ k ih =>
    rcases Nat.lt_or_ge k i with h1 | h1
    · have : i = k + 1 := by omega
      subst this; exact Nat.le_refl _
    · rw [catN_length]
      have := ih h1
      omega

theorem GrowI_any (n : Nat) (h1 : 1 ≤ n) (h2 : n ≤ 4194304) (w : World) :
    Calls Try.prog 128 #[.slice none 0 0, .int .i64 n] w fun e w' => ∃ v, e = .returned v ∧ w'.ownsRow w.heap.size 3 1 v 0 [] ∧ Below w.heap.size w w' := by
  obtain ⟨i0, hi, hz0, hz1, hz2⟩ := info_parts info_intV
  have hrun := Lib.run_append_nil_zeros (P := Try.prog) w 22 3 22 3 i0 (.int .i64 0) .i64 .i64 Try.underlying22 (by kernel_rfl) hi hz0 n (by omega) (by rw [hz1]; decide) (by omega) (by rw [hz2]; omega)
  have hge := grownCap_ge w n 0 3
  have hcm : grownCap w n 0 3 ≤ maxLen := grownCap_le_maxLen w n 0 3 (by simp only [maxLen]; omega)
  have hown := World.ownsRow_made (base := w.heap.size) (e := 3) (size := 1) w.drew (Builtin.zeroCells (.int .i64 0 : Value).cells n ++ Builtin.zeroCells (.int .i64 0 : Value).cells (grownCap w n 0 3 - n)) (grownCap w n 0 3) (Nat.le_refl _) hcm (size_zeros _ rfl _ _ hge)
  have hB : Below w.heap.size w (w.drew.alloc (.cells (Builtin.zeroCells (.int .i64 0 : Value).cells n ++ Builtin.zeroCells (.int .i64 0 : Value).cells (grownCap w n 0 3 - n)) 3)) := (Below.refl _ w).drew.alloc (Nat.le_refl _) _
  obtain ⟨W, hW⟩ : ∃ W, w.drew.alloc (.cells (Builtin.zeroCells (.int .i64 0 : Value).cells n ++ Builtin.zeroCells (.int .i64 0 : Value).cells (grownCap w n 0 3 - n)) 3) = W := ⟨_, rfl⟩
  rw [hW] at hrun hown hB
  generalize grownCap w n 0 3 = cap at *
  have HR := Lib.hid hrun
  have HO := Lib.hid hown
  clear hrun hown hW
  have hcm' : cap ≤ 9223372036854775807 := by simp only [maxLen] at hcm; omega
  clear hcm
  go_enter Try.func128, Try.ntmps128
  go_wp2_with (at_builtin; refine Lib.wpList_append_run _ rfl _ _ 22 3 rfl _ _ rfl rfl _ _ HR.out ?_)
  go_ret
  exact ⟨_, rfl, HO.out, hB⟩

set_option maxHeartbeats 2000000 in
theorem ConcatI_any (K Z z0 cap : Nat) (hK : K ≤ 64) (ad : Nat → Addr) (c : Nat → Nat) (cs : Nat → List Value) (w : World) (hV : ∀ i, i < K → w.cell? ⟨Z, z0 + i, none⟩ = some (.slice (some (ad i)) (cs i).length (c i)))
    (hC : ∀ i, i < K → ∀ j u, (cs i)[j]? = some u → w.cell? ((ad i).add j) = some u) (h1 : ∀ i, ∀ u ∈ cs i, u.oneCell' = true) (ht1 : 1 ≤ (catN cs K).length) (ht2 : (catN cs K).length ≤ 4194304) :
    Calls Try.prog 111 #[.slice (some ⟨Z, z0, none⟩) K cap] w fun e w' => ∃ v, e = .returned v ∧ w'.ownsRow w.heap.size 3 1 v (catN cs K).length (catN cs K) ∧ Below w.heap.size w w' := by
  obtain ⟨i0, hi, hz0, hz1, hz2⟩ := info_parts info_intV
  have hM := Lib.hid (fun i (h : i ≤ K) => catN_mono cs h)
  have hS := Lib.hid (catN_length cs)
  have HG := Lib.hid (fun n h1 h2 w => GrowI_any n h1 h2 w)
  have HV := Lib.hid hV
  have HC := Lib.hid hC
  have H1 := Lib.hid h1
  clear hV hC h1
  go_enter Try.func111, Try.ntmps111
  go_wp2_with fail
  go_loopw [3, 11] (fun t v wr => ∃ i : Nat, i ≤ K ∧ v = .int .i64 i ∧ t = .int .i64 ((catN cs i).length : Nat) ∧ w = wr) (fun _ v _ => K - (intOf v).toNat)
  case atStart => exact ⟨0, Nat.zero_le _, rfl, rfl, rfl⟩
  case round =>
    obtain ⟨i, hi', rfl, rfl, rfl⟩ := hrel
    by_cases hlt : i < K
    · have cV := HV.out i hlt
      have e1 := hS.out i
      have e2 := hM.out (i + 1) (by omega)
      obtain ⟨a, ha⟩ : ∃ a, (catN cs i).length = a := ⟨_, rfl⟩
      obtain ⟨b, hb⟩ : ∃ b, (cs i).length = b := ⟨_, rfl⟩
      rw [ha, hb] at e1
      rw [hb] at cV
      rw [ha]
      rw [e1] at e2
      have E1 := Lib.hid e1
      clear e1 ha hb
      go_wp2
      go_roundw
      case rel => exact ⟨i + 1, by omega, by go_num, by rw [E1.out]; go_num, by trivial⟩
      case measure => simp only [intOf]; omega
    · obtain rfl : i = K := by omega
      clear hlt
      obtain ⟨T, hT⟩ : ∃ T, (catN cs i).length = T := ⟨_, rfl⟩
      rw [hT] at ht1 ht2 ⊢
      have HT := Lib.hid hT
      clear hT
      go_wp2_with fail
      refine (HG.out T ht1 (by omega) _).mono ?_
      rintro e w1 ⟨v, rfl, hown, hb⟩
      go_wp2_with fail
      have hwl := hb.size
      go_loopw [6, 27] (fun t v' w2 => ∃ k : Nat, k ≤ i ∧ v' = .int .i64 k ∧ w2.ownsRow w.heap.size 3 1 t (catN cs k).length (catN cs k) ∧ Below w.heap.size w w2) (fun _ v' _ => i - (intOf v').toNat)
      case atStart => exact ⟨0, Nat.zero_le _, rfl, hown, hb⟩
      case round =>
        obtain ⟨k, hk, rfl, hown2, hb2⟩ := hrel
        by_cases hlt2 : k < i
        · have cV := cell_later hb2 (HV.out k hlt2)
          have hsrc := Lib.hid (fun j u (hu : (cs k)[j]? = some u) => cell_later hb2 (HC.out k hlt2 j u hu))
          have e1 := hS.out k
          have e2 := hM.out (k + 1) (by omega)
          rw [HT.out] at e2
          obtain ⟨a, ha⟩ : ∃ a, (catN cs k).length = a := ⟨_, rfl⟩
          obtain ⟨b, hb3⟩ : ∃ b, (cs k).length = b := ⟨_, rfl⟩
          rw [ha, hb3] at e1
          rw [hb3] at cV
          rw [ha] at hown2
          rw [e1] at e2
          have hl2 := Lib.hid (show (cs k).length = b * 1 by rw [hb3, Nat.mul_one])
          have HO2 := Lib.hid hown2
          have E1 := Lib.hid e1
          have hw2 := hb2.size
          clear e1 ha hb3 hown2 hown hb
          go_wp2_with (at_builtin; refine wpList_append_own_at _ rfl _ _ 22 rfl w.heap.size 3 i0 (.int .i64 0) 1 8 Try.underlying22 hi hz0 hz1 hz2 rfl (by decide) _ _ _ rfl HO2.out (ad k) b (c k) (cs k) rfl hl2.out hsrc.out (H1.out k) (by unfold maxLen; omega) (by omega) hw2 ?_; intro v' w3 hown3 hgrow3 _ _)
          go_roundw
          case rel =>
            refine ⟨k + 1, by omega, by go_num, ?_, hb2.grown hgrow3 hw2 (fun q hq => (HO2.out.lt q hq).1)⟩
            rw [E1.out]
            exact hown3
          case measure => simp only [intOf]; omega
        · obtain rfl : k = i := by omega
          rw [HT.out] at hown2
          have HO2 := Lib.hid hown2
          clear hown2
          go_wp2
          go_ret
          refine ⟨_, rfl, ?_, hb2⟩
          rw [HT.out]
          exact HO2.out


theorem Concat_any (xs ys : List Int) (hx : 0 < xs.length) (hy : 0 < ys.length) (hl : xs.length + ys.length ≤ 1000) (v1 v2 : Value) (Z cap : Nat) (w : World) (h1 : IntsV w v1 xs) (h2 : IntsV w v2 ys)
    (c1 : w.cell? ⟨Z, 0, none⟩ = some v1) (c2 : w.cell? ⟨Z, 1, none⟩ = some v2) :
    Calls Try.prog 111 #[.slice (some ⟨Z, 0, none⟩) 2 cap] w fun e w' => ∃ v, e = .returned v ∧ IntsV w' v (xs ++ ys) ∧ Below w.heap.size w w' := by
  obtain ⟨a1, k1, rfl, _, d1⟩ := h1
  obtain ⟨a2, k2, rfl, _, d2⟩ := h2
  obtain ⟨b1, o1, rfl, f1⟩ := d1 hx
  obtain ⟨b2, o2, rfl, f2⟩ := d2 hy
  have e : catN (fun i => if i = 0 then ivals xs else ivals ys) 2 = ivals (xs ++ ys) := by
    simp [catN, ivals]
  have hl2 : (ivals (xs ++ ys)).length = xs.length + ys.length := by simp [ivals]
  refine (ConcatI_any 2 Z 0 cap (by decide) (fun i => if i = 0 then ⟨b1, o1, none⟩ else ⟨b2, o2, none⟩) (fun i => if i = 0 then k1 else k2) (fun i => if i = 0 then ivals xs else ivals ys) w ?_ ?_ ?_ ?_ ?_).mono ?_
  · intro i hi
    have : i = 0 ∨ i = 1 := by omega
    rcases this with rfl | rfl
    · simpa [ivals] using c1
    · simpa [ivals] using c2
  · intro i hi j u hu
    have : i = 0 ∨ i = 1 := by omega
    rcases this with rfl | rfl
    · simp only [if_true] at hu ⊢
      rw [add_addr]
      have hj : j < xs.length := by
        have := (List.getElem?_eq_some_iff.1 hu).1
        simpa [ivals] using this
      rw [f1 j hj, ← hu]
      simp [ivals, hj]
    · simp only [if_neg (show ¬ 1 = 0 by decide)] at hu ⊢
      rw [add_addr]
      have hj : j < ys.length := by
        have := (List.getElem?_eq_some_iff.1 hu).1
        simpa [ivals] using this
      rw [f2 j hj, ← hu]
      simp [ivals, hj]
  · intro i u hu
    have hc : ∀ zs : List Int, u ∈ ivals zs → u.oneCell' = true := by
      intro zs h
      obtain ⟨z, _, rfl⟩ := List.mem_map.1 h
      rfl
    by_cases h0 : i = 0
    · simp only [h0, if_true] at hu; exact hc _ hu
    · simp only [if_neg h0] at hu; exact hc _ hu
  · rw [e, hl2]; omega
  · rw [e, hl2]; omega
  · rintro e' w' ⟨v, rfl, ho, hb⟩
    rw [e] at ho
    exact ⟨v, rfl, IntsV.of_vals ho, hb⟩
end Go.Proofs.Ytlmfmfbnbbooaaa
