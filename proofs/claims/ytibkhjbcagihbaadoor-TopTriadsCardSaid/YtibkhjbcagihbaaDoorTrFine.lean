/-
  The reference's Valid, the statements' fine.
-/
import Derived.Test.YtibkhjbcagihbaaDoorTrSmall
namespace Go.Proofs.YtibkhjbcagihbaaDoor
open Go.ChangeShapes Go.WideShapes Go.ChangeAt Go.RowKit
set_option maxRecDepth 100000

set_option maxHeartbeats 2000000 in
theorem RValid_any (n a b : Int) (w : World) :
    Calls Tryd.prog 10 #[kv n a b] w fun e w' => e = .returned (.bool (kindB n a b)) ∧ Below w.heap.size w w' := by
  have hal := Lib.hid ((Below.refl w.heap.size w).alloc (Nat.le_refl _) (rcells n a b))
  have no : ¬ (5 ≤ n ∧ n ≤ 16 ∧ 0 < a ∧ a < b ∧ b < n) → Hid (kindB n a b = false) := fun h => Lib.hid (by unfold kindB; exact decide_eq_false (fun h' => h ⟨by omega, h'.2.1, h'.2.2.1, h'.2.2.2.1, h'.2.2.2.2.1⟩))
  by_cases h1 : 5 ≤ n
  · skip
    by_cases h2 : n ≤ 16
    · skip
      by_cases h3 : 0 < a
      · skip
        by_cases h4 : a < b
        · skip
          by_cases h5 : b < n
          · skip
            clear no
            obtain ⟨r, hr⟩ : ∃ r, kindB n a b = r := ⟨_, rfl⟩
            have HR := Lib.hid (show (((a != b - a) && (a != n - b)) && (b - a != n - b)) = r by
              rw [← hr]; unfold kindB
              rw [Bool.eq_iff_iff, Bool.and_eq_true, Bool.and_eq_true, bne_iff_ne, bne_iff_ne, bne_iff_ne, decide_eq_true_eq]
              constructor
              · rintro ⟨⟨e1, e2⟩, e3⟩; exact ⟨by omega, h2, h3, h4, h5, e1, e3, fun e => e2 e.symm⟩
              · rintro ⟨_, _, _, _, _, e1, e2, e3⟩; exact ⟨⟨e1, fun e => e3 e.symm⟩, e2⟩)
            rw [hr]
            clear hr
            by_cases e1 : a = b - a
            · have q1 : (a != b - a) = false := by rw [bne_eq_false_iff_eq]; exact e1
              have H := Lib.hid (show r = false by rw [← HR.out, q1]; rfl)
              clear HR e1
              go_enter Tryd.func10, Tryd.ntmps10
              go_wp2
              go_quiet (fail)
              go_wp2
              go_ret
              exact ⟨ret_bool H.out.symm, below_drewN hal.out _⟩
            · have q1 : (a != b - a) = true := by rw [bne_iff_ne]; exact e1
              by_cases e2 : a = n - b
              · have q2 : (a != n - b) = false := by rw [bne_eq_false_iff_eq]; exact e2
                have H := Lib.hid (show r = false by rw [← HR.out, q1, q2]; rfl)
                clear HR e1 e2
                go_enter Tryd.func10, Tryd.ntmps10
                go_wp2
                go_quiet (fail)
                go_wp2
                go_ret
                exact ⟨ret_bool H.out.symm, below_drewN hal.out _⟩
              · have q2 : (a != n - b) = true := by rw [bne_iff_ne]; exact e2
                by_cases e3 : b - a = n - b
                · have q3 : (b - a != n - b) = false := by rw [bne_eq_false_iff_eq]; exact e3
                  have H := Lib.hid (show r = false by rw [← HR.out, q1, q2, q3]; rfl)
                  clear HR e1 e2 e3
                  go_enter Tryd.func10, Tryd.ntmps10
                  go_wp2
                  go_quiet (fail)
                  go_wp2
                  go_ret
                  exact ⟨ret_bool H.out.symm, below_drewN hal.out _⟩
                · have q3 : (b - a != n - b) = true := by rw [bne_iff_ne]; exact e3
                  have H := Lib.hid (show r = true by rw [← HR.out, q1, q2, q3]; rfl)
                  clear HR e1 e2 e3
                  go_enter Tryd.func10, Tryd.ntmps10
                  go_wp2
                  go_quiet (fail)
                  go_wp2
                  go_ret
                  exact ⟨ret_bool H.out.symm, below_drewN hal.out _⟩
          · have H := no (by omega)
            clear no
            go_enter Tryd.func10, Tryd.ntmps10
            go_wp2
            go_quiet (fail)
            go_wp2
            go_ret
            exact ⟨ret_bool H.out.symm, below_drewN hal.out _⟩
        · have H := no (by omega)
          clear no
          go_enter Tryd.func10, Tryd.ntmps10
          go_wp2
          go_quiet (fail)
          go_wp2
          go_ret
          exact ⟨ret_bool H.out.symm, below_drewN hal.out _⟩
      · have H := no (by omega)
        clear no
        go_enter Tryd.func10, Tryd.ntmps10
        go_wp2
        go_quiet (fail)
        go_wp2
        go_ret
        exact ⟨ret_bool H.out.symm, below_drewN hal.out _⟩
    · have H := no (by omega)
      clear no
      go_enter Tryd.func10, Tryd.ntmps10
      go_wp2
      go_quiet (fail)
      go_wp2
      go_ret
      exact ⟨ret_bool H.out.symm, below_drewN hal.out _⟩
  · have H := no (by omega)
    clear no
    go_enter Tryd.func10, Tryd.ntmps10
    go_wp2
    go_quiet (fail)
    go_wp2
    go_ret
    exact ⟨ret_bool H.out.symm, below_drewN hal.out _⟩

theorem wrap_two {n a b : Int} (h : kindB n a b = true) : wrap64 (2 * n) = 2 * n := by
  unfold kindB at h
  have := of_decide_eq_true h
  exact wrap64_fix (by omega) (by omega)

theorem triad_test {n a b t : Int} (h : kindB n a b = true) : (decide (0 ≤ t) && decide (t < wrap64 (2 * n))) = triB n t := by
  rw [wrap_two h]; unfold triB
  rw [Bool.eq_iff_iff, Bool.and_eq_true, decide_eq_true_eq, decide_eq_true_eq, decide_eq_true_eq]

set_option maxHeartbeats 2000000 in
theorem fine_any (n a b : Int) (ts : List Int) (bk cap : Nat) (w : World) (hl : ts.length < 2 ^ 40) (hc : ∀ i, i < ts.length → w.cell? ⟨bk, i, none⟩ = some (.int .i64 (ts[i]?.getD 0))) :
    Calls Tryd.prog 8 #[kv n a b, .slice (some ⟨bk, 0, none⟩) ts.length cap] w fun e w' => e = .returned (.bool (kindB n a b && ts.all (triB n))) ∧ Below w.heap.size w w' := by
  obtain ⟨W0, hW0⟩ : ∃ W0, w.alloc (rcells n a b) = W0 := ⟨_, rfl⟩
  have b0 : Below w.heap.size w W0 := by rw [← hW0]; exact (Below.refl _ w).alloc (Nat.le_refl _) _
  have s0 : w.heap.size < W0.heap.size := by rw [← hW0]; simp
  have k0 : W0.cell? ⟨w.heap.size, 0, none⟩ = some (.int .i64 n) := by rw [← hW0]; simp
  have k1 : W0.cell? ⟨w.heap.size, 1, none⟩ = some (.int .i64 a) := by rw [← hW0]; simp
  have k2 : W0.cell? ⟨w.heap.size, 2, none⟩ = some (.int .i64 b) := by rw [← hW0]; simp
  have HW := Lib.hid hW0
  have HC0 := Lib.hid (fun i hi => cell_later b0 (hc i hi))
  have HTr := Lib.hid (RTriad_any n a b)
  have HV := Lib.hid (RValid_any n a b)
  have HK := Lib.hid (fun t (h : kindB n a b = true) => triad_test (t := t) h)
  obtain ⟨K, hK⟩ : ∃ K, kindB n a b = K := ⟨_, rfl⟩
  rw [hK] at HV HK ⊢
  clear hW0 hc hK
  go_enter Tryd.func8, Tryd.ntmps8
  go_wp2
  rw [HW.out]
  go_loopw [6, 9] (fun _ i wr => ∃ k : Nat, k ≤ ts.length ∧ i = .int .i64 k ∧ (K = true → (ts.take k).all (triB n) = true) ∧ Below W0.heap.size W0 wr) (fun _ i _ => ts.length - (intOf i).toNat)
  case atStart => exact ⟨0, Nat.zero_le _, rfl, fun _ => by simp, Below.refl _ _⟩
  case round =>
    obtain ⟨k, hk, rfl, hall, hB⟩ := hrel
    have HB := Lib.hid hB
    have HA := Lib.hid hall
    have c0 := (hB.cell (p := ⟨w.heap.size, 0, none⟩) s0).trans k0
    have c1 := (hB.cell (p := ⟨w.heap.size, 1, none⟩) s0).trans k1
    have c2 := (hB.cell (p := ⟨w.heap.size, 2, none⟩) s0).trans k2
    clear hall hB
    by_cases hlt : k < ts.length
    · have hck := cell_later HB.out (HC0.out k hlt)
      have HS : Hid (ts.take (k + 1) = ts.take k ++ [ts[k]?.getD 0]) := by
        rw [List.take_succ_eq_append_getElem hlt, List.getElem?_eq_getElem hlt]; rfl
      have HM : Hid (ts[k]?.getD 0 ∈ ts) := by
        rw [List.getElem?_eq_getElem hlt]; exact List.getElem_mem hlt
      generalize ts[k]?.getD 0 = c at hck HS HM
      have HTc := Lib.hid (HTr.out c)
      have HKc := Lib.hid (HK.out c)
      clear HTr HK
      generalize (decide (0 ≤ c) && decide (c < wrap64 (2 * n))) = r at HTc HKc
      cases r
      · go_wp2_with fail
        refine (HTc.out _).mono ?_
        rintro e w1 ⟨rfl, b1⟩
        go_wp2
        go_ret
        refine ⟨ret_bool ?_, b0.trans ((HB.out.trans (b1.mono HB.out.size)).mono (by omega))⟩
        cases K
        · rfl
        · rw [Bool.true_and]; exact all_false HM.out (HKc.out rfl).symm
      · go_wp2_with fail
        refine (HTc.out _).mono ?_
        rintro e w1 ⟨rfl, b1⟩
        go_wp2
        go_roundw
        case rel => exact ⟨k + 1, by omega, by go_num, fun h => by rw [HS.out, List.all_append, HA.out h]; simp [← HKc.out h], HB.out.trans (b1.mono HB.out.size)⟩
        case measure => simp [intOf]; omega
    · have HA2 := Lib.hid (fun h => (show ts.all (triB n) = true by have := HA.out h; rwa [List.take_of_length_le (by omega)] at this))
      go_wp2_with fail
      refine (HV.out _).mono ?_
      rintro e w1 ⟨rfl, b1⟩
      go_wp2
      go_ret
      refine ⟨ret_bool ?_, b0.trans ((HB.out.trans (b1.mono HB.out.size)).mono (by omega))⟩
      cases K
      · rfl
      · rw [HA2.out rfl]; rfl
end Go.Proofs.YtibkhjbcagihbaaDoor
