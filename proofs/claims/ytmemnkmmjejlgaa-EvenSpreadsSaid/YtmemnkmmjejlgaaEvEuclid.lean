/-
  join of package even; slices.Grow and slices.Concat; the groups of strokes as lists: Euclid's way.
-/
import Derived.Test.YtmemnkmmjejlgaaEvJoinMath
namespace Go.Proofs.Ytmemnkmmjejlgaa
open Go.RowKit Go.Shelf
attribute [local go_sem] Oper.semAt_some
set_option maxRecDepth 100000

/-- What the first i groups hold behind i joins. -/
def joined (f i : Nat) (x : Nat → List Nat) (j : Nat) : List Nat := if j < i then x j ++ x (f + j) else x j
theorem joined_zero (f : Nat) (x : Nat → List Nat) (j : Nat) : joined f 0 x j = x j := by simp [joined]

theorem below_lo {lo : Nat} {w w1 w2 : World} (h : Below lo w w1) (h2 : Below lo w1 w2) : Below lo w w2 := h.trans h2

theorem join_walk (lo A o1 f c1 B o2 s c2 r L : Nat) (gs : Nat → G) (hr : r = min f s) (hf : 1 ≤ f) (hs : 1 ≤ s) (hf6 : f ≤ 64) (hs6 : s ≤ 64) (hc1 : f ≤ c1) (hc2 : s ≤ c2) (hm1 : c1 ≤ 65536) (hm2 : c2 ≤ 65536) (hL : L ≤ 262144) (w : World)
    (hx : ∀ i, i < f + s → (gs i).xs.length ≤ L) (h : St w lo A o1 f B o2 s gs) :
    Calls Try.prog 13 #[.slice (some ⟨A, o1, none⟩) f c1, .slice (some ⟨B, o2, none⟩) s c2] w fun e w' => ∃ gs', St w' lo A o1 f B o2 s gs' ∧ (∀ j, (gs' j).xs = joined f r (fun i => (gs i).xs) j) ∧ Below lo w w' ∧
      ((f < s ∧ e = .returned (.tuple #[.slice (some ⟨A, o1, none⟩) f f, .slice (some ⟨B, o2 + f, none⟩) (s - f) (c2 - f)])) ∨
       (s ≤ f ∧ ∃ p : Nat, (s < f → p = o1 + s) ∧ e = .returned (.tuple #[.slice (some ⟨A, o1, none⟩) s s, .slice (some ⟨A, p, none⟩) (f - s) (c1 - s)]))) := by
  have hmin : min (f : Int) (s : Int) = (r : Int) := by rw [hr]; omega
  have hrf : r ≤ f := by omega
  have hrs : r ≤ s := by omega
  have hr1 : 1 ≤ r := by omega
  have H := Lib.hid h
  have HX := Lib.hid hx
  have HR := Lib.hid hr
  clear h hx hr
  go_enter Try.func13, Try.ntmps13
  go_wp2_with fail
  go_loopw [18] (fun v wr => ∃ (i : Nat) (gs' : Nat → G), i ≤ r ∧ v = .int .i64 i ∧ St wr lo A o1 f B o2 s gs' ∧ (∀ j, (gs' j).xs = joined f i (fun i => (gs i).xs) j) ∧ Below lo w wr) (fun v _ => r - (intOf v).toNat)
  case atStart => exact ⟨0, gs, Nat.zero_le _, rfl, H.out, fun j => (joined_zero f (fun i => (gs i).xs) j).symm, Below.refl _ _⟩
  case round =>
    obtain ⟨i, gs', hi, rfl, hst, hxs, hb⟩ := hrel
    by_cases hlt : i < r
    · have hif : i < f := by omega
      have x1 : (gs' i).xs = (gs i).xs := by rw [hxs i]; simp [joined]
      have x2 : (gs' (f + i)).xs = (gs (f + i)).xs := by rw [hxs (f + i)]; unfold joined; rw [if_neg (by omega)]
      have l1 := HX.out i (by omega)
      have l2 := HX.out (f + i) (by omega)
      obtain ⟨g', w', happ, k1, k2, k3, k4, k5⟩ := append_group (hst.ok i (by omega)) (hst.ok (f + i) (by omega)) (by have := hst.lA; omega) (by rw [x1, x2]; omega) 25
      obtain ⟨p1, p2⟩ := hst.put hif k4 k1 k3 k5
      obtain ⟨q1, q2⟩ := hst.place hif k4
      have cB := hst.cB i (by omega)
      have cA := hst.cA i hif
      have HX2 := Lib.hid (show ∀ j, (putG gs' i g' j).xs = joined f (i + 1) (fun i => (gs i).xs) j from by
        intro j
        unfold putG
        by_cases e : j = i
        · rw [if_pos e, k2, x1, x2, e]; unfold joined; rw [if_pos (by omega)]
        · rw [if_neg e, hxs j]; unfold joined
          by_cases e2 : j < i
          · rw [if_pos e2, if_pos (by omega)]
          · rw [if_neg e2, if_neg (by omega)])
      have P2 := Lib.hid (below_lo hb p2)
      obtain ⟨b3, o3, c3, hv3, _⟩ := k1.shape
      obtain ⟨n3, hn3⟩ : ∃ n3, g'.xs.length = n3 := ⟨_, rfl⟩
      rw [hn3] at hv3
      have P1 := Lib.hid p1
      rw [hv3] at happ P1 P2
      have HA := Lib.hid happ
      clear happ p1 p2 k1 k2 k3 k4 k5 hst hxs hb x1 x2 l1 l2 hv3 hn3
      go_wp2_with (at_builtin; refine Lib.wpList_append_run _ rfl _ _ 25 25 rfl _ _ rfl rfl _ _ HA.out ?_)
      go_roundw
      case rel => exact ⟨i + 1, _, by omega, by go_num, P1.out, HX2.out, P2.out⟩
      case measure => simp only [intOf]; omega
    · have hir : i = r := by omega
      have hfin := Lib.hid (show St wr lo A o1 f B o2 s gs' ∧ (∀ j, (gs' j).xs = joined f r (fun i => (gs i).xs) j) ∧ Below lo w wr from ⟨hst, by rw [← hir]; exact hxs, hb⟩)
      clear hst hxs hb
      by_cases hfs : f < s
      · have hrf2 : r = f := by have := HR.out; omega
        rw [hrf2] at hir hmin hrf hrs hr1 hfin ⊢
        rw [hir] at *
        have e0 : ¬ c2 = f := by omega
        have e1 : (((s : Int) - (f : Int)) == 0) = false := by rw [beq_eq_false_iff_ne]; omega
        go_wp2
        go_ret2
        refine ⟨gs', hfin.out.1, hfin.out.2.1, hfin.out.2.2, Or.inl ?_⟩
        first
        | rfl
        | exact ⟨hfs, rfl⟩
      · have hrf2 : r = s := by have := HR.out; omega
        have hsf : s ≤ f := by omega
        rw [hrf2] at hir hmin hrf hrs hr1 hfin ⊢
        rw [hir] at *
        by_cases e0 : c2 = s <;> by_cases e1 : c1 = s
        all_goals
          go_wp2
          go_ret2
          refine ⟨gs', hfin.out.1, hfin.out.2.1, hfin.out.2.2, ?_⟩
          first
          | exact ⟨o1, fun h => absurd h (by omega), rfl⟩
          | exact ⟨o1 + s, fun _ => rfl, rfl⟩

theorem info_list : (Try.prog.info? 25).map (fun i => (i.zero, i.size, i.bytes)) = some (some (.slice none 0 0), 1, 24) := by kernel_rfl

theorem size_zeros (z : Value) (hz : z.cells.size = 1) (n k : Nat) (h : n ≤ k) : (Builtin.zeroCells z.cells n ++ Builtin.zeroCells z.cells (k - n)).size = k * 1 := by
  rw [Array.size_append, size_zeroCells, size_zeroCells, hz]
  omega

/-- The first i of many rows, one behind the other. -/
def catN (cs : Nat → List Value) : Nat → List Value
  | 0 => []
  | i + 1 => catN cs i ++ cs i
theorem catN_length (cs : Nat → List Value) (i : Nat) : (catN cs (i + 1)).length = (catN cs i).length + (cs i).length := by
  show (catN cs i ++ cs i).length = _
  rw [List.length_append]
theorem catN_mono (cs : Nat → List Value) {i k : Nat} (h : i ≤ k) : (catN cs i).length ≤ (catN cs k).length := by
  induction k with
  | zero => have : i = 0 := by omega
            subst this; exact Nat.le_refl _
  | succ k ih =>
    rcases Nat.lt_or_ge k i with h1 | h1
    · have : i = k + 1 := by omega
      subst this; exact Nat.le_refl _
    · rw [catN_length]
      have := ih h1
      omega

theorem GrowI_any (n : Nat) (h1 : 1 ≤ n) (h2 : n ≤ 4194304) (w : World) :
    Calls Try.prog 18 #[.slice none 0 0, .int .i64 n] w fun e w' => ∃ v, e = .returned v ∧ w'.ownsRow w.heap.size 3 1 v 0 [] ∧ Below w.heap.size w w' := by
  obtain ⟨i0, hi, hz0, hz1, hz2⟩ := info_parts info_int
  have hrun := Lib.run_append_nil_zeros (P := Try.prog) w 25 3 25 3 i0 (.int .i64 0) .i64 .i64 Try.underlying25 (by kernel_rfl) hi hz0 n (by omega) (by rw [hz1]; decide) (by omega) (by rw [hz2]; omega)
  have hge := grownCap_ge w n 0 3
  have hcm : grownCap w n 0 3 ≤ maxLen := grownCap_le_maxLen w n 0 3 (by simp only [maxLen]; omega)
  have hown := World.ownsRow_made (base := w.heap.size) (e := 3) (size := 1) w.drew (Builtin.zeroCells (.int .i64 0 : Value).cells n ++ Builtin.zeroCells (.int .i64 0 : Value).cells (grownCap w n 0 3 - n)) (grownCap w n 0 3) (Nat.le_refl _) hcm (size_zeros _ rfl _ _ hge)
  have hB : Below w.heap.size w (w.drew.alloc (.cells (Builtin.zeroCells (.int .i64 0 : Value).cells n ++ Builtin.zeroCells (.int .i64 0 : Value).cells (grownCap w n 0 3 - n)) 3)) := (Below.refl _ w).drew.alloc (Nat.le_refl _) _
  obtain ⟨W, hW⟩ : ∃ W, w.drew.alloc (.cells (Builtin.zeroCells (.int .i64 0 : Value).cells n ++ Builtin.zeroCells (.int .i64 0 : Value).cells (grownCap w n 0 3 - n)) 3) = W := ⟨_, rfl⟩
  rw [hW] at hrun hown hB
  generalize grownCap w n 0 3 = cap at *
  have HR := Lib.hid hrun
  have HO := Lib.hid hown
  clear hrun hown hW
  have hcm' : cap ≤ 9223372036854775807 := by simp only [maxLen] at hcm; omega
  clear hcm
  go_enter Try.func18, Try.ntmps18
  go_wp2_with (at_builtin; refine Lib.wpList_append_run _ rfl _ _ 25 3 rfl _ _ rfl rfl _ _ HR.out ?_)
  go_ret
  exact ⟨_, rfl, HO.out, hB⟩

theorem ConcatI_any (K Z z0 cap : Nat) (hK : K ≤ 64) (ad : Nat → Addr) (c : Nat → Nat) (cs : Nat → List Value) (w : World) (hV : ∀ i, i < K → w.cell? ⟨Z, z0 + i, none⟩ = some (.slice (some (ad i)) (cs i).length (c i)))
    (hC : ∀ i, i < K → ∀ j u, (cs i)[j]? = some u → w.cell? ((ad i).add j) = some u) (h1 : ∀ i, ∀ u ∈ cs i, u.oneCell' = true) (ht1 : 1 ≤ (catN cs K).length) (ht2 : (catN cs K).length ≤ 4194304) :
    Calls Try.prog 14 #[.slice (some ⟨Z, z0, none⟩) K cap] w fun e w' => ∃ v, e = .returned v ∧ w'.ownsRow w.heap.size 3 1 v (catN cs K).length (catN cs K) ∧ Below w.heap.size w w' := by
  obtain ⟨i0, hi, hz0, hz1, hz2⟩ := info_parts info_int
  have hM := Lib.hid (fun i (h : i ≤ K) => catN_mono cs h)
  have hS := Lib.hid (catN_length cs)
  have HG := Lib.hid (fun n h1 h2 w => GrowI_any n h1 h2 w)
  have HV := Lib.hid hV
  have HC := Lib.hid hC
  have H1 := Lib.hid h1
  clear hV hC h1
  go_enter Try.func14, Try.ntmps14
  go_wp2_with fail
  go_loopw [3, 11] (fun t v wr => ∃ i : Nat, i ≤ K ∧ v = .int .i64 i ∧ t = .int .i64 ((catN cs i).length : Nat) ∧ w = wr) (fun _ v _ => K - (intOf v).toNat)
  case atStart => exact ⟨0, Nat.zero_le _, rfl, rfl, rfl⟩
  case round =>
    obtain ⟨i, hi', rfl, rfl, rfl⟩ := hrel
    by_cases hlt : i < K
    · have cV := HV.out i hlt
      have e1 := hS.out i
      have e2 := hM.out (i + 1) (by omega)
      obtain ⟨a, ha⟩ : ∃ a, (catN cs i).length = a := ⟨_, rfl⟩
      obtain ⟨b, hb⟩ : ∃ b, (cs i).length = b := ⟨_, rfl⟩
      rw [ha, hb] at e1
      rw [hb] at cV
      rw [ha]
      rw [e1] at e2
      have E1 := Lib.hid e1
      clear e1 ha hb
      go_wp2
      go_roundw
      case rel => exact ⟨i + 1, by omega, by go_num, by rw [E1.out]; go_num, by trivial⟩
      case measure => simp only [intOf]; omega
    · obtain rfl : i = K := by omega
      clear hlt
      obtain ⟨T, hT⟩ : ∃ T, (catN cs i).length = T := ⟨_, rfl⟩
      rw [hT] at ht1 ht2 ⊢
      have HT := Lib.hid hT
      clear hT
      go_wp2_with fail
      refine (HG.out T ht1 (by omega) _).mono ?_
      rintro e w1 ⟨v, rfl, hown, hb⟩
      go_wp2_with fail
      have hwl := hb.size
      go_loopw [6, 27] (fun t v' w2 => ∃ k : Nat, k ≤ i ∧ v' = .int .i64 k ∧ w2.ownsRow w.heap.size 3 1 t (catN cs k).length (catN cs k) ∧ Below w.heap.size w w2) (fun _ v' _ => i - (intOf v').toNat)
      case atStart => exact ⟨0, Nat.zero_le _, rfl, hown, hb⟩
      case round =>
        obtain ⟨k, hk, rfl, hown2, hb2⟩ := hrel
        by_cases hlt2 : k < i
        · have cV := cell_later hb2 (HV.out k hlt2)
          have hsrc := Lib.hid (fun j u (hu : (cs k)[j]? = some u) => cell_later hb2 (HC.out k hlt2 j u hu))
          have e1 := hS.out k
          have e2 := hM.out (k + 1) (by omega)
          rw [HT.out] at e2
          obtain ⟨a, ha⟩ : ∃ a, (catN cs k).length = a := ⟨_, rfl⟩
          obtain ⟨b, hb3⟩ : ∃ b, (cs k).length = b := ⟨_, rfl⟩
          rw [ha, hb3] at e1
          rw [hb3] at cV
          rw [ha] at hown2
          rw [e1] at e2
          have hl2 := Lib.hid (show (cs k).length = b * 1 by rw [hb3, Nat.mul_one])
          have HO2 := Lib.hid hown2
          have E1 := Lib.hid e1
          have hw2 := hb2.size
          clear e1 ha hb3 hown2 hown hb
          go_wp2_with (at_builtin; refine wpList_append_own_at _ rfl _ _ 25 rfl w.heap.size 3 i0 (.int .i64 0) 1 8 Try.underlying25 hi hz0 hz1 hz2 rfl (by decide) _ _ _ rfl HO2.out (ad k) b (c k) (cs k) rfl hl2.out hsrc.out (H1.out k) (by unfold maxLen; omega) (by omega) hw2 ?_; intro v' w3 hown3 hgrow3 _ _)
          go_roundw
          case rel =>
            refine ⟨k + 1, by omega, by go_num, ?_, hb2.grown hgrow3 hw2 (fun q hq => (HO2.out.lt q hq).1)⟩
            rw [E1.out]
            exact hown3
          case measure => simp only [intOf]; omega
        · obtain rfl : k = i := by omega
          rw [HT.out] at hown2
          have HO2 := Lib.hid hown2
          clear hown2
          go_wp2
          go_ret
          refine ⟨_, rfl, ?_, hb2⟩
          rw [HT.out]
          exact HO2.out

theorem GrowL_any (n : Nat) (h1 : 1 ≤ n) (h2 : n ≤ 4194304) (w : World) :
    Calls Try.prog 19 #[.slice none 0 0, .int .i64 n] w fun e w' => ∃ v, e = .returned v ∧ w'.ownsRow w.heap.size 25 1 v 0 [] ∧ Below w.heap.size w w' := by
  obtain ⟨i0, hi, hz0, hz1, hz2⟩ := info_parts info_list
  have hrun := Lib.run_append_nil_zeros (P := Try.prog) w 34 3 34 25 i0 (.slice none 0 0) .i64 .i64 Try.underlying34 (by kernel_rfl) hi hz0 n (by omega) (by rw [hz1]; decide) (by omega) (by rw [hz2]; omega)
  have hge := grownCap_ge w n 0 25
  have hcm : grownCap w n 0 25 ≤ maxLen := grownCap_le_maxLen w n 0 25 (by simp only [maxLen]; omega)
  have hown := World.ownsRow_made (base := w.heap.size) (e := 25) (size := 1) w.drew (Builtin.zeroCells (.slice none 0 0 : Value).cells n ++ Builtin.zeroCells (.slice none 0 0 : Value).cells (grownCap w n 0 25 - n)) (grownCap w n 0 25) (Nat.le_refl _) hcm (size_zeros _ rfl _ _ hge)
  have hB : Below w.heap.size w (w.drew.alloc (.cells (Builtin.zeroCells (.slice none 0 0 : Value).cells n ++ Builtin.zeroCells (.slice none 0 0 : Value).cells (grownCap w n 0 25 - n)) 25)) := (Below.refl _ w).drew.alloc (Nat.le_refl _) _
  obtain ⟨W, hW⟩ : ∃ W, w.drew.alloc (.cells (Builtin.zeroCells (.slice none 0 0 : Value).cells n ++ Builtin.zeroCells (.slice none 0 0 : Value).cells (grownCap w n 0 25 - n)) 25) = W := ⟨_, rfl⟩
  rw [hW] at hrun hown hB
  generalize grownCap w n 0 25 = cap at *
  have HR := Lib.hid hrun
  have HO := Lib.hid hown
  clear hrun hown hW
  have hcm' : cap ≤ 9223372036854775807 := by simp only [maxLen] at hcm; omega
  clear hcm
  go_enter Try.func19, Try.ntmps19
  go_wp2_with (at_builtin; refine Lib.wpList_append_run _ rfl _ _ 34 3 rfl _ _ rfl rfl _ _ HR.out ?_)
  go_ret
  exact ⟨_, rfl, HO.out, hB⟩

theorem ConcatL_any (K Z z0 cap : Nat) (hK : K ≤ 64) (ad : Nat → Addr) (c : Nat → Nat) (cs : Nat → List Value) (w : World) (hV : ∀ i, i < K → w.cell? ⟨Z, z0 + i, none⟩ = some (.slice (some (ad i)) (cs i).length (c i)))
    (hC : ∀ i, i < K → ∀ j u, (cs i)[j]? = some u → w.cell? ((ad i).add j) = some u) (h1 : ∀ i, ∀ u ∈ cs i, u.oneCell' = true) (ht1 : 1 ≤ (catN cs K).length) (ht2 : (catN cs K).length ≤ 4194304) :
    Calls Try.prog 15 #[.slice (some ⟨Z, z0, none⟩) K cap] w fun e w' => ∃ v, e = .returned v ∧ w'.ownsRow w.heap.size 25 1 v (catN cs K).length (catN cs K) ∧ Below w.heap.size w w' := by
  obtain ⟨i0, hi, hz0, hz1, hz2⟩ := info_parts info_list
  have hM := Lib.hid (fun i (h : i ≤ K) => catN_mono cs h)
  have hS := Lib.hid (catN_length cs)
  have HG := Lib.hid (fun n h1 h2 w => GrowL_any n h1 h2 w)
  have HV := Lib.hid hV
  have HC := Lib.hid hC
  have H1 := Lib.hid h1
  clear hV hC h1
  go_enter Try.func15, Try.ntmps15
  go_wp2_with fail
  go_loopw [3, 11] (fun t v wr => ∃ i : Nat, i ≤ K ∧ v = .int .i64 i ∧ t = .int .i64 ((catN cs i).length : Nat) ∧ w = wr) (fun _ v _ => K - (intOf v).toNat)
  case atStart => exact ⟨0, Nat.zero_le _, rfl, rfl, rfl⟩
  case round =>
    obtain ⟨i, hi', rfl, rfl, rfl⟩ := hrel
    by_cases hlt : i < K
    · have cV := HV.out i hlt
      have e1 := hS.out i
      have e2 := hM.out (i + 1) (by omega)
      obtain ⟨a, ha⟩ : ∃ a, (catN cs i).length = a := ⟨_, rfl⟩
      obtain ⟨b, hb⟩ : ∃ b, (cs i).length = b := ⟨_, rfl⟩
      rw [ha, hb] at e1
      rw [hb] at cV
      rw [ha]
      rw [e1] at e2
      have E1 := Lib.hid e1
      clear e1 ha hb
      go_wp2
      go_roundw
      case rel => exact ⟨i + 1, by omega, by go_num, by rw [E1.out]; go_num, by trivial⟩
      case measure => simp only [intOf]; omega
    · obtain rfl : i = K := by omega
      clear hlt
      obtain ⟨T, hT⟩ : ∃ T, (catN cs i).length = T := ⟨_, rfl⟩
      rw [hT] at ht1 ht2 ⊢
      have HT := Lib.hid hT
      clear hT
      go_wp2_with fail
      refine (HG.out T ht1 (by omega) _).mono ?_
      rintro e w1 ⟨v, rfl, hown, hb⟩
      go_wp2_with fail
      have hwl := hb.size
      go_loopw [6, 27] (fun t v' w2 => ∃ k : Nat, k ≤ i ∧ v' = .int .i64 k ∧ w2.ownsRow w.heap.size 25 1 t (catN cs k).length (catN cs k) ∧ Below w.heap.size w w2) (fun _ v' _ => i - (intOf v').toNat)
      case atStart => exact ⟨0, Nat.zero_le _, rfl, hown, hb⟩
      case round =>
        obtain ⟨k, hk, rfl, hown2, hb2⟩ := hrel
        by_cases hlt2 : k < i
        · have cV := cell_later hb2 (HV.out k hlt2)
          have hsrc := Lib.hid (fun j u (hu : (cs k)[j]? = some u) => cell_later hb2 (HC.out k hlt2 j u hu))
          have e1 := hS.out k
          have e2 := hM.out (k + 1) (by omega)
          rw [HT.out] at e2
          obtain ⟨a, ha⟩ : ∃ a, (catN cs k).length = a := ⟨_, rfl⟩
          obtain ⟨b, hb3⟩ : ∃ b, (cs k).length = b := ⟨_, rfl⟩
          rw [ha, hb3] at e1
          rw [hb3] at cV
          rw [ha] at hown2
          rw [e1] at e2
          have hl2 := Lib.hid (show (cs k).length = b * 1 by rw [hb3, Nat.mul_one])
          have HO2 := Lib.hid hown2
          have E1 := Lib.hid e1
          have hw2 := hb2.size
          clear e1 ha hb3 hown2 hown hb
          go_wp2_with (at_builtin; refine wpList_append_own_at _ rfl _ _ 34 rfl w.heap.size 25 i0 (.slice none 0 0) 1 24 Try.underlying34 hi hz0 hz1 hz2 rfl (by decide) _ _ _ rfl HO2.out (ad k) b (c k) (cs k) rfl hl2.out hsrc.out (H1.out k) (by unfold maxLen; omega) (by omega) hw2 ?_; intro v' w3 hown3 hgrow3 _ _)
          go_roundw
          case rel =>
            refine ⟨k + 1, by omega, by go_num, ?_, hb2.grown hgrow3 hw2 (fun q hq => (HO2.out.lt q hq).1)⟩
            rw [E1.out]
            exact hown3
          case measure => simp only [intOf]; omega
        · obtain rfl : k = i := by omega
          rw [HT.out] at hown2
          have HO2 := Lib.hid hown2
          clear hown2
          go_wp2
          go_ret
          refine ⟨_, rfl, ?_, hb2⟩
          rw [HT.out]
          exact HO2.out

/-- The first k lists, one behind the other. -/
def catX (x : Nat → List Nat) : Nat → List Nat
  | 0 => []
  | k + 1 => catX x k ++ x k
theorem catX_ints (x : Nat → List Nat) (k : Nat) : ints (catX x k) = catN (fun i => ints (x i)) k := by
  induction k with
  | zero => rfl
  | succ k ih =>
    show ints (catX x k ++ x k) = catN _ k ++ ints (x k)
    rw [← ih]; simp [ints]
theorem catX_congr {x y : Nat → List Nat} {k : Nat} (h : ∀ i, i < k → x i = y i) : catX x k = catX y k := by
  induction k with
  | zero => rfl
  | succ k ih =>
    show catX x k ++ x k = catX y k ++ y k
    rw [ih (fun i hi => h i (by omega)), h k (by omega)]
theorem catN_congr {x y : Nat → List Value} {k : Nat} (h : ∀ i, i < k → x i = y i) : catN x k = catN y k := by
  induction k with
  | zero => rfl
  | succ k ih =>
    show catN x k ++ x k = catN y k ++ y k
    rw [ih (fun i hi => h i (by omega)), h k (by omega)]

/-- The lists that are left. -/
def left (f s : Nat) (x : Nat → List Nat) (j : Nat) : List Nat :=
  if f < s then (if j < f then joined f f x j else joined f f x (j + f)) else joined f s x j

def eu : Nat → Nat → Nat → (Nat → List Nat) → List Nat
  | 0, _, _, _ => []
  | t + 1, f, s, x => if 2 ≤ s then (if f < s then eu t f (s - f) (left f s x) else eu t s (f - s) (left f s x)) else catX x (f + s)

def strokesN (n k : Nat) : List Nat := eu 17 k (n - k) (fun i => if i < k then [1] else [0])

theorem eu_congr (t : Nat) : ∀ (f s : Nat) (x y : Nat → List Nat), (∀ i, i < f + s → x i = y i) → eu t f s x = eu t f s y := by
  induction t with
  | zero => intros; rfl
  | succ t ih =>
    intro f s x y h
    unfold eu
    by_cases h2 : 2 ≤ s
    · rw [if_pos h2, if_pos h2]
      by_cases hf : f < s
      · rw [if_pos hf, if_pos hf]
        apply ih
        intro i hi
        unfold left joined
        rw [if_pos hf, if_pos hf]
        by_cases e : i < f
        · rw [if_pos e, if_pos e, if_pos e, if_pos e, h i (by omega), h (f + i) (by omega)]
        · rw [if_neg e, if_neg e, if_neg (by omega), if_neg (by omega), h (i + f) (by omega)]
      · rw [if_neg hf, if_neg hf]
        apply ih
        intro i hi
        unfold left joined
        rw [if_neg hf, if_neg hf]
        by_cases e : i < s
        · rw [if_pos e, if_pos e, h i (by omega), h (f + i) (by omega)]
        · rw [if_neg e, if_neg e, h i (by omega)]
    · rw [if_neg h2, if_neg h2]
      exact catX_congr h

end Go.Proofs.Ytmemnkmmjejlgaa
