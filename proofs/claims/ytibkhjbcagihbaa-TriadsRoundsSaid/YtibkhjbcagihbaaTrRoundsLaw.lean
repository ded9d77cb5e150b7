/-
  The statement on Round.
-/
import Derived.Test.YtibkhjbcagihbaaTrRoundRef2
import Derived.Test.YtibkhjbcagihbaaTrVisitsLaw
namespace Go.Proofs.Ytibkhjbcagihbaa
open Go.ChangeShapes Go.WideShapes Go.ChangeAt Go.RowKit
set_option maxRecDepth 100000

theorem steps_short {s : ByteArray} (h1 : (bsN s).all isLetN = true) (h2 : (bsN s).Nodup) : s.size ≤ 3 := by
  have := nodup_subset h2 (let_lpr h1)
  rw [bsN_length] at this
  exact this

theorem text_steps (s : ByteArray) : stepsB (s.extract 0 (min s.size 70)) = rstepsB s ∧ (rstepsB s = true → s.extract 0 (min s.size 70) = s ∧ s.size ≤ 3) := by
  by_cases h : s.size ≤ 70
  · have e : s.extract 0 (min s.size 70) = s := by rw [Nat.min_eq_left h, ByteArray.extract_zero_size]
    rw [e]
    have key : stepsB s = rstepsB s := by
      unfold stepsB rstepsB walkB
      by_cases h1 : (bsN s).all isLetN = true
      · by_cases h2 : (bsN s).Nodup
        · have := steps_short h1 h2
          rw [h1, decide_eq_true h2, decide_eq_true (show s.size ≤ 60 by omega)]; simp
        · rw [decide_eq_false h2]; simp
      · have h1' : (bsN s).all isLetN = false := by simpa using h1
        rw [h1']; simp
    refine ⟨key, fun hr => ⟨rfl, ?_⟩⟩
    have := stepsB_let (key.trans hr)
    exact steps_short this.1 this.2.1
  · have e : rstepsB s = false := by unfold rstepsB walkB; rw [decide_eq_false (show ¬ s.size ≤ 60 by omega)]; simp
    refine ⟨?_, fun h => by rw [e] at h; cases h⟩
    rw [e]
    cases hb : stepsB (s.extract 0 (min s.size 70))
    · rfl
    · have := stepsB_let hb
      have h3 := steps_short this.1 this.2.1
      rw [ByteArray.size_extract] at h3
      omega

set_option maxHeartbeats 2000000 in
theorem TriadsRounds_walk (n a b t : Int) (s : ByteArray) (_ : (Lit.int .i64 n).wf = true) (_ : (Lit.int .i64 a).wf = true) (_ : (Lit.int .i64 b).wf = true) (_ : (Lit.int .i64 t).wf = true) (hs : s.size ≤ maxLen) (w : World) :
    Calls Try.prog 7 #[kv n a b, .int .i64 t, .string s] w fun e w' => e = .returned (.bool true) ∧ Below w.heap.size w w' := by
  have HO := Lib.hid (Of_any n a b)
  have HT := Lib.hid (text_any s)
  have HAw := Lib.hid awake_any
  have HRs := Lib.hid (RSteps_any s hs)
  obtain ⟨W0, hW0⟩ : ∃ W0, w.alloc (rcells n a b) = W0 := ⟨_, rfl⟩
  have b0 : Below w.heap.size w W0 := by rw [← hW0]; exact (Below.refl _ w).alloc (Nat.le_refl _) _
  have k0 : W0.cell? ⟨w.heap.size, 0, none⟩ = some (.int .i64 n) := by rw [← hW0]; simp
  have k1 : W0.cell? ⟨w.heap.size, 1, none⟩ = some (.int .i64 a) := by rw [← hW0]; simp
  have k2 : W0.cell? ⟨w.heap.size, 2, none⟩ = some (.int .i64 b) := by rw [← hW0]; simp
  have hW := Lib.hid hW0
  clear hW0
  cases hb : kindB n a b && triB n t
  · have HW := Lib.hid (Round_bad n a b t (s.extract 0 (min s.size 70)) (text_size s hs) (Or.inl hb))
    have HF := Lib.hid (fine1 n a b t false hb)
    clear hb
    go_enter Try.func7, Try.ntmps7
    go_wp2_with fail
    rw [hW.out]
    refine (HO.out _).mono ?_
    rintro e w1 ⟨rfl, b1⟩
    have c1 := below_nx b0 b1
    have k0 := cell_later b1 k0
    have k1 := cell_later b1 k1
    have k2 := cell_later b1 k2
    go_wp2_with fail
    refine (HT.out _).mono ?_
    rintro e w2 ⟨rfl, rfl⟩
    go_wp2_with fail
    refine (HW.out _).mono ?_
    rintro e w3 ⟨rfl, b3⟩
    have c3 := below_nx c1 b3
    have k0 := cell_later b3 k0
    have k1 := cell_later b3 k1
    have k2 := cell_later b3 k2
    have HFc := Lib.hid (HF.out w3.heap.size 1 (w3.alloc (.cells #[.int .i64 t] 3)) (by simp))
    have c4 := c3.alloc c3.size (.cells #[.int .i64 t] 3)
    go_wp2_with fail
    refine HFc.out.mono ?_
    rintro e w4 ⟨rfl, b4⟩
    have c5 := below_nx c4 b4
    go_wp2_with fail
    refine (HAw.out _).mono ?_
    rintro e w5 ⟨rfl, b5⟩
    go_wp2
    go_ret
    exact ⟨rfl, below_nx c5 b5⟩
  · have hb' := hb
    rw [Bool.and_eq_true] at hb'
    obtain ⟨n, a, b, rfl, rfl, rfl, hk⟩ := kindB_nat hb'.1
    have ht : 0 ≤ t ∧ t < 2 * n := by have := hb'.2; unfold triB at this; exact of_decide_eq_true this
    obtain ⟨t, rfl⟩ := Int.eq_ofNat_of_zero_le ht.1
    have ht : t < 2 * n := by omega
    have HF := Lib.hid (fine1 n a b t true hb)
    cases hst : rstepsB s
    · have HW := Lib.hid (Round_bad n a b t (s.extract 0 (min s.size 70)) (text_size s hs) (Or.inr ((text_steps s).1.trans hst)))
      rw [hst] at HRs
      clear hb hb' hst
      go_enter Try.func7, Try.ntmps7
      go_wp2_with fail
      rw [hW.out]
      refine (HO.out _).mono ?_
      rintro e w1 ⟨rfl, b1⟩
      have c1 := below_nx b0 b1
      have k0 := cell_later b1 k0
      have k1 := cell_later b1 k1
      have k2 := cell_later b1 k2
      go_wp2_with fail
      refine (HT.out _).mono ?_
      rintro e w2 ⟨rfl, rfl⟩
      go_wp2_with fail
      refine (HW.out _).mono ?_
      rintro e w3 ⟨rfl, b3⟩
      have c3 := below_nx c1 b3
      have k0 := cell_later b3 k0
      have k1 := cell_later b3 k1
      have k2 := cell_later b3 k2
      have HFc := Lib.hid (HF.out w3.heap.size 1 (w3.alloc (.cells #[.int .i64 t] 3)) (by simp))
      have c4 := c3.alloc c3.size (.cells #[.int .i64 t] 3)
      go_wp2_with fail
      refine HFc.out.mono ?_
      rintro e w4 ⟨rfl, b4⟩
      have c5 := below_nx c4 b4
      go_wp2_with fail
      refine (HRs.out _).mono ?_
      rintro e w5 ⟨rfl, b5⟩
      have c6 := below_nx c5 b5
      go_wp2_with fail
      refine (HAw.out _).mono ?_
      rintro e w6 ⟨rfl, b6⟩
      go_wp2
      go_ret
      exact ⟨rfl, below_nx c6 b6⟩
    · obtain ⟨te, hl3⟩ := (text_steps s).2 hst
      have hsB : stepsB s = true := by rw [← te, (text_steps s).1]; exact hst
      have HW := Lib.hid (Round_ok n a b t hk ht s hs hsB)
      have HR := Lib.hid (RRound_any n a b t hk ht s (by omega))
      have h16 := hk.h16
      have HLn : Hid ((riseL n (bfs n a b t (bsN s))).length < 2 ^ 40) := Lib.hid (by
        unfold riseL
        have := List.length_filter_le (hasK (bfs n a b t (bsN s))) (List.range (2 * n))
        rw [List.length_range] at this
        omega)
      rw [te] at HT
      rw [hst] at HRs
      clear hb hb' hst te hsB
      generalize riseL n (bfs n a b t (bsN s)) = xs at HW HR HLn
      go_enter Try.func7, Try.ntmps7
      go_wp2_with fail
      rw [hW.out]
      refine (HO.out _).mono ?_
      rintro e w1 ⟨rfl, b1⟩
      have c1 := below_nx b0 b1
      have k0 := cell_later b1 k0
      have k1 := cell_later b1 k1
      have k2 := cell_later b1 k2
      go_wp2_with fail
      refine (HT.out _).mono ?_
      rintro e w2 ⟨rfl, rfl⟩
      go_wp2_with fail
      refine (HW.out _).mono ?_
      rintro e w3 ⟨v, rfl, hown, b3⟩
      have HI := IntsAt.of_own hown
      have c3 := below_nx c1 b3
      have k0 := cell_later b3 k0
      have k1 := cell_later b3 k1
      have k2 := cell_later b3 k2
      clear hown
      have HFc := Lib.hid (HF.out w3.heap.size 1 (w3.alloc (.cells #[.int .i64 t] 3)) (by simp))
      have bA : Below w3.heap.size w3 (w3.alloc (.cells #[.int .i64 t] 3)) := (Below.refl _ w3).alloc (Nat.le_refl _) _
      have c4 := c3.alloc c3.size (.cells #[.int .i64 t] 3)
      have HI := HI.later bA
      have k0 : (w3.alloc (.cells #[.int .i64 t] 3)).cell? ⟨w.heap.size, 0, none⟩ = some (.int .i64 n) := cell_later bA k0
      have k1 : (w3.alloc (.cells #[.int .i64 t] 3)).cell? ⟨w.heap.size, 1, none⟩ = some (.int .i64 a) := cell_later bA k1
      have k2 : (w3.alloc (.cells #[.int .i64 t] 3)).cell? ⟨w.heap.size, 2, none⟩ = some (.int .i64 b) := cell_later bA k2
      have HI := Lib.hid HI
      go_wp2_with fail
      refine HFc.out.mono ?_
      rintro e w4 ⟨rfl, b4⟩
      have c5 := below_nx c4 b4
      have k0 := cell_later b4 k0
      have k1 := cell_later b4 k1
      have k2 := cell_later b4 k2
      have HI := Lib.hid (HI.out.later b4)
      go_wp2_with fail
      refine (HRs.out _).mono ?_
      rintro e w5 ⟨rfl, b5⟩
      have c6 := below_nx c5 b5
      have k0 := cell_later b5 k0
      have k1 := cell_later b5 k1
      have k2 := cell_later b5 k2
      have HI := Lib.hid (HI.out.later b5)
      clear b1 b3 b4 b5 bA
      go_wp2_with fail
      refine (HR.out _).mono ?_
      rintro e w6 ⟨u, rfl, hown, b6⟩
      have c7 := below_nx c6 b6
      have HI := HI.out.later b6
      have HE := Lib.hid (EqInts_any HLn.out HI (IntsAt.of_own hown))
      clear hown b6 HI
      go_wp2_with fail
      refine HE.out.mono ?_
      rintro e w7 ⟨rfl, m, rfl⟩
      have c8 := below_drewN c7 m
      go_wp2_with fail
      refine (HAw.out _).mono ?_
      rintro e w8 ⟨rfl, b8⟩
      go_wp2
      go_ret
      exact ⟨rfl, below_nx c8 b8⟩
end Go.Proofs.Ytibkhjbcagihbaa
