/-
  period, Period, Fold, and the reference's; the walk of the statement on periods.
-/
import Derived.Test.YtehjdhegnpmfaabDoorCaTilesLaw
namespace Go.Proofs.YtehjdhegnpmfaabDoor
open Go.RowKit Go.Shelf
attribute [local go_sem] Oper.semAt_some
set_option maxRecDepth 100000

theorem per_le {n a d : Nat} (hn : 1 ≤ n) (h : perB n a d = true) : d ≤ n := by
  unfold perB at h
  rw [Bool.and_eq_true, beq_iff_eq] at h
  exact Nat.le_of_dvd (by omega) (Nat.dvd_of_mod_eq_zero h.1)

theorem isPeriod_any (n a d : Nat) (hn : 2 ≤ n) (hn2 : n ≤ 24) (ha : a < 2 ^ n) (hd : 1 ≤ d) (hd2 : d < 2 ^ 63) (w : World) :
    Calls Tryd.prog 57 #[.int .i64 n, .int .i64 a, .int .i64 d] w fun e w' => e = .returned (.bool (perB n a d)) ∧ ∃ m, w' = w.drewN m := by
  by_cases h0 : n % d = 0
  · have hdn : d ≤ n := Nat.le_of_dvd (by omega) (Nat.dvd_of_mod_eq_zero h0)
    have HM := Lib.hid (fun V => move_any n a d hn hn2 ha hdn V)
    have q0 : ((n : Int) % (d : Int) == 0) = true := by rw [beq_iff_eq]; omega
    have hp : perB n a d = (mvN n a d == a) := by unfold perB; rw [h0]; simp
    have HP := Lib.hid hp
    clear hp h0 ha
    generalize mvN n a d = mk at HM HP
    by_cases h1 : mk = a
    · have q1 : ((mk : Int) == (a : Int)) = true := by rw [h1]; simp
      have HQ := Lib.hid h1
      clear h1
      go_enter Tryd.func57, Tryd.ntmps57
      go_wp2_with fail
      refine (HM.out _).mono ?_
      rintro e w' ⟨rfl, m1, rfl⟩
      go_wp2_with fail
      go_ret
      exact ⟨ret_bool (by rw [HP.out, HQ.out]; simp), m1, rfl⟩
    · have q1 : ((mk : Int) == (a : Int)) = false := by rw [beq_eq_false_iff_ne]; omega
      have HQ := Lib.hid h1
      clear h1
      go_enter Tryd.func57, Tryd.ntmps57
      go_wp2_with fail
      refine (HM.out _).mono ?_
      rintro e w' ⟨rfl, m1, rfl⟩
      go_wp2_with fail
      go_ret
      exact ⟨ret_bool (by rw [HP.out]; symm; rw [beq_eq_false_iff_ne]; exact HQ.out), m1, rfl⟩
  · have q0 : ((n : Int) % (d : Int) == 0) = false := by rw [beq_eq_false_iff_ne]; omega
    have HP := Lib.hid (show perB n a d = false by unfold perB; rw [beq_eq_false_iff_ne.2 h0]; rfl)
    clear h0 ha
    go_enter Tryd.func57, Tryd.ntmps57
    go_wp2_with fail
    go_ret
    exact ⟨ret_bool HP.out.symm, 0, rfl⟩

theorem refIs_any (n a d : Nat) (hn : 2 ≤ n) (hn2 : n ≤ 24) (ha : a < 2 ^ n) (hd : 1 ≤ d) (hd2 : d < 2 ^ 63) (w : World) :
    Calls Tryd.prog 27 #[.int .i64 n, .int .i64 a, .int .i64 d] w fun e w' => e = .returned (.bool (perB n a d)) ∧ ∃ m, w' = w.drewN m := by
  by_cases hdn : d ≤ n
  · by_cases h0 : n % d = 0
    · have q0 : ((n : Int) % (d : Int) == 0) = true := by rw [beq_iff_eq]; omega
      by_cases hdd : d = n
      · have qd : ((d : Int) == (n : Int)) = true := by rw [beq_iff_eq]; omega
        have HP := Lib.hid (show perB n a d = true by rw [hdd]; exact perB_full ha)
        clear hdd h0 ha
        go_enter Tryd.func27, Tryd.ntmps27
        go_wp2_with fail
        go_ret
        exact ⟨ret_bool HP.out.symm, 0, rfl⟩
      · have qd : ((d : Int) == (n : Int)) = false := by rw [beq_eq_false_iff_ne]; omega
        have HM := Lib.hid (fun V => moved_any n a d hn hn2 ha hdn V)
        have hp : perB n a d = (mvN n a d == a) := by unfold perB; rw [h0]; simp
        have HP := Lib.hid hp
        clear hp h0 ha hdd
        generalize mvN n a d = mk at HM HP
        by_cases h1 : mk = a
        · have q1 : ((mk : Int) == (a : Int)) = true := by rw [h1]; simp
          have HQ := Lib.hid h1
          clear h1
          go_enter Tryd.func27, Tryd.ntmps27
          go_wp2_with fail
          refine (HM.out _).mono ?_
          rintro e w' ⟨rfl, m1, rfl⟩
          go_wp2_with fail
          go_ret
          exact ⟨ret_bool (by rw [HP.out, HQ.out]; simp), m1, rfl⟩
        · have q1 : ((mk : Int) == (a : Int)) = false := by rw [beq_eq_false_iff_ne]; omega
          have HQ := Lib.hid h1
          clear h1
          go_enter Tryd.func27, Tryd.ntmps27
          go_wp2_with fail
          refine (HM.out _).mono ?_
          rintro e w' ⟨rfl, m1, rfl⟩
          go_wp2_with fail
          go_ret
          exact ⟨ret_bool (by rw [HP.out]; symm; rw [beq_eq_false_iff_ne]; exact HQ.out), m1, rfl⟩
    · have q0 : ((n : Int) % (d : Int) == 0) = false := by rw [beq_eq_false_iff_ne]; omega
      have HP := Lib.hid (show perB n a d = false by unfold perB; rw [beq_eq_false_iff_ne.2 h0]; rfl)
      clear h0 ha
      go_enter Tryd.func27, Tryd.ntmps27
      go_wp2_with fail
      go_ret
      exact ⟨ret_bool HP.out.symm, 0, rfl⟩
  · have HP := Lib.hid (show perB n a d = false by
      cases h : perB n a d
      · rfl
      · exact absurd (per_le (by omega) h) hdn)
    clear ha
    go_enter Tryd.func27, Tryd.ntmps27
    go_wp2_with fail
    go_ret
    exact ⟨ret_bool HP.out.symm, 0, rfl⟩

theorem period_any (n a : Nat) (hn : 2 ≤ n) (hn2 : n ≤ 24) (ha : a < 2 ^ n) (w : World) :
    Calls Tryd.prog 56 #[.int .i64 n, .int .i64 a] w fun e w' => e = .returned (.int .i64 (perN n a : Nat)) ∧ ∃ m, w' = w.drewN m := by
  obtain ⟨h1, h2, h3, h4⟩ := perN_spec (n := n) (a := a) (by omega) ha
  have HI := Lib.hid (fun d hd hd2 V => isPeriod_any n a d hn hn2 ha hd hd2 V)
  generalize perN n a = p at h1 h2 h3 h4
  have H3 := Lib.hid h3
  have H4 := Lib.hid h4
  clear h3 h4 ha
  go_enter Tryd.func56, Tryd.ntmps56
  go_wp2
  go_loopw [5] (fun i wr => ∃ k m : Nat, 1 ≤ k ∧ k ≤ p ∧ i = .int .i64 k ∧ wr = w.drewN m) (fun i _ => p - (intOf i).toNat)
  case atStart => exact ⟨1, 0, Nat.le_refl _, h1, rfl, rfl⟩
  case round =>
    obtain ⟨k, m, hk1, hk2, rfl, rfl⟩ := hrel
    have hi := Lib.hid (HI.out k hk1 (by omega))
    by_cases hlt : k < p
    · rw [H4.out k hk1 hlt] at hi
      go_wp2_with fail
      refine (hi.out _).mono ?_
      rintro e w' ⟨rfl, m1, rfl⟩
      go_wp2_with fail
      go_roundw
      case rel => exact ⟨k + 1, m + m1, by omega, by omega, by go_num, rfl⟩
      case measure => simp only [intOf]; omega
    · obtain rfl : k = p := by omega
      rw [H3.out] at hi
      go_wp2_with fail
      refine (hi.out _).mono ?_
      rintro e w' ⟨rfl, m1, rfl⟩
      go_wp2_with fail
      go_ret
      exact ⟨rfl, m + m1, rfl⟩

theorem refPeriod_any (n a : Nat) (hn : 2 ≤ n) (hn2 : n ≤ 24) (ha : a < 2 ^ n) (w : World) :
    Calls Tryd.prog 26 #[.int .i64 n, .int .i64 a] w fun e w' => e = .returned (.int .i64 (perN n a : Nat)) ∧ ∃ m, w' = w.drewN m := by
  obtain ⟨h1, h2, h3, h4⟩ := perN_spec (n := n) (a := a) (by omega) ha
  have HI := Lib.hid (fun d hd hd2 V => refIs_any n a d hn hn2 ha hd hd2 V)
  generalize perN n a = p at h1 h2 h3 h4
  have H3 := Lib.hid h3
  have H4 := Lib.hid h4
  clear h3 h4 ha
  go_enter Tryd.func26, Tryd.ntmps26
  go_wp2
  go_loopw [5] (fun i wr => ∃ k m : Nat, 1 ≤ k ∧ k ≤ p ∧ i = .int .i64 k ∧ wr = w.drewN m) (fun i _ => p - (intOf i).toNat)
  case atStart => exact ⟨1, 0, Nat.le_refl _, h1, rfl, rfl⟩
  case round =>
    obtain ⟨k, m, hk1, hk2, rfl, rfl⟩ := hrel
    have hi := Lib.hid (HI.out k hk1 (by omega))
    by_cases hlt : k < p
    · rw [H4.out k hk1 hlt] at hi
      go_wp2_with fail
      refine (hi.out _).mono ?_
      rintro e w' ⟨rfl, m1, rfl⟩
      go_wp2_with fail
      go_roundw
      case rel => exact ⟨k + 1, m + m1, by omega, by omega, by go_num, rfl⟩
      case measure => simp only [intOf]; omega
    · obtain rfl : k = p := by omega
      rw [H3.out] at hi
      go_wp2_with fail
      refine (hi.out _).mono ?_
      rintro e w' ⟨rfl, m1, rfl⟩
      go_wp2_with fail
      go_ret
      exact ⟨rfl, m + m1, rfl⟩

theorem Period_bad (n a : Int) (h : vldB n a = false) (w : World) :
    Calls Tryd.prog 24 #[.int .i64 n, .int .i64 a] w fun e w' => e = .returned (.tuple #[.int .i64 0, .int .i64 2]) ∧ Below w.heap.size w w' := by
  have HV := Lib.hid (valid1 n a _ h)
  clear h
  go_enter Tryd.func24, Tryd.ntmps24
  go_wp2_with (go_at_call 46; refine (HV.out _ _ _ (cell_at rfl)).mono ?_; rintro e w' ⟨rfl, rfl⟩)
  go_ret2
  exact ⟨rfl, below_two _ _⟩

theorem Period_ok (n a : Nat) (hn : 2 ≤ n) (hn2 : n ≤ 24) (ha : a < 2 ^ n) (ha1 : a % 2 = 1) (w : World) :
    Calls Tryd.prog 24 #[.int .i64 n, .int .i64 a] w fun e w' => e = .returned (.tuple #[.int .i64 (perN n a : Nat), .int .i64 0]) ∧ Below w.heap.size w w' := by
  have HV := Lib.hid (valid1 n a true (vldB_of_nat hn hn2 ha ha1))
  have HP := Lib.hid (period_any n a hn hn2 ha)
  generalize perN n a = p at HP
  clear ha
  go_enter Tryd.func24, Tryd.ntmps24
  go_wp2_with (first | (go_at_call 46; refine (HV.out _ _ _ (cell_at rfl)).mono ?_; rintro e w' ⟨rfl, rfl⟩) | (go_at_call 56; refine (HP.out _).mono ?_; rintro e w' ⟨rfl, mm, rfl⟩))
  go_ret2
  exact ⟨rfl, below_drewN (below_two _ _) mm⟩

/-- What Fold takes. -/
def foldOk (n a d : Int) : Prop := vldB n a = true ∧ 2 ≤ d ∧ perB n.toNat a.toNat d.toNat = true

theorem Fold_bad (n a d : Int) (hw : (Lit.int .i64 d).wf = true) (h : ¬ foldOk n a d) (w : World) :
    Calls Tryd.prog 25 #[.int .i64 n, .int .i64 a, .int .i64 d] w fun e w' => e = .returned (.tuple #[.int .i64 0, .int .i64 2]) ∧ Below w.heap.size w w' := by
  unfold foldOk at h
  cases hv : vldB n a
  · have HV := Lib.hid (valid1 n a _ hv)
    clear h hv
    go_enter Tryd.func25, Tryd.ntmps25
    go_wp2_with (go_at_call 46; refine (HV.out _ _ _ (cell_at rfl)).mono ?_; rintro e w' ⟨rfl, rfl⟩)
    go_ret2
    exact ⟨rfl, below_two _ _⟩
  · have HV := Lib.hid (valid1 n a _ hv)
    by_cases h2 : 2 ≤ d
    · have hd := bounds_i64 hw
      obtain ⟨n, a, rfl, rfl, hn, hn2, ha, ha1⟩ := vldB_nat hv
      obtain ⟨d, rfl⟩ := Int.eq_ofNat_of_zero_le (show 0 ≤ d by omega)
      have hp : perB n a d = false := by
        cases hp : perB n a d
        · rfl
        · exact absurd ⟨hv, h2, hp⟩ h
      have HP := Lib.hid (isPeriod_any n a d hn hn2 ha (by omega) (by omega))
      rw [hp] at HP
      clear h hv ha hp
      go_enter Tryd.func25, Tryd.ntmps25
      go_wp2_with (first | (go_at_call 46; refine (HV.out _ _ _ (cell_at rfl)).mono ?_; rintro e w' ⟨rfl, rfl⟩) | (go_at_call 57; refine (HP.out _).mono ?_; rintro e w' ⟨rfl, mm, rfl⟩))
      go_ret2
      exact ⟨rfl, below_drewN (below_two _ _) mm⟩
    · clear h hv
      go_enter Tryd.func25, Tryd.ntmps25
      go_wp2_with (go_at_call 46; refine (HV.out _ _ _ (cell_at rfl)).mono ?_; rintro e w' ⟨rfl, rfl⟩)
      go_ret2
      exact ⟨rfl, below_two _ _⟩

theorem Fold_ok (n a d : Nat) (hn : 2 ≤ n) (hn2 : n ≤ 24) (ha : a < 2 ^ n) (ha1 : a % 2 = 1) (hd : 2 ≤ d) (hp : perB n a d = true) (w : World) :
    Calls Tryd.prog 25 #[.int .i64 n, .int .i64 a, .int .i64 d] w fun e w' => e = .returned (.tuple #[.int .i64 (foldN n a d : Nat), .int .i64 0]) ∧ Below w.heap.size w w' := by
  have hdn := per_le (by omega) hp
  have HV := Lib.hid (valid1 n a true (vldB_of_nat hn hn2 ha ha1))
  have HP := Lib.hid (isPeriod_any n a d hn hn2 ha (by omega) (by omega))
  have he := fold_eq (by omega) hdn ha hp
  have hpd := pow_bd (d : Int) (by omega) (by omega)
  simp only [Int.toNat_natCast] at hpd
  have hn24 : 2 ^ n ≤ 2 ^ 24 := Nat.pow_le_pow_right (by omega) hn2
  have hd24 : 2 ^ d ≤ 2 ^ 24 := Nat.pow_le_pow_right (by omega) (by omega)
  have hand := and_nat a (2 ^ d - 1) (by omega) (by omega)
  rw [← two_pow_sub, he] at hand
  have HA := Lib.hid hand
  rw [hp] at HP
  clear ha hp he hand
  generalize foldN n a d = q at HA
  go_enter Tryd.func25, Tryd.ntmps25
  go_wp2_with (first | (go_at_call 46; refine (HV.out _ _ _ (cell_at rfl)).mono ?_; rintro e w' ⟨rfl, rfl⟩) | (go_at_call 57; refine (HP.out _).mono ?_; rintro e w' ⟨rfl, mm, rfl⟩))
  go_ret2
  refine ⟨?_, below_drewN (below_two _ _) mm⟩
  rw [HA.out]
  rfl

theorem refFold_any (n a d : Nat) (hn : 2 ≤ n) (hn2 : n ≤ 24) (ha : a < 2 ^ n) (hd : 1 ≤ d) (hdn : d ≤ n) (w : World) :
    Calls Tryd.prog 28 #[.int .i64 n, .int .i64 a, .int .i64 d] w fun e w' => e = .returned (.int .i64 (foldN n a d : Nat)) ∧ w = w' := by
  have hp24 : 2 ^ n ≤ 2 ^ 24 := Nat.pow_le_pow_right (by omega) hn2
  have HB := Lib.hid (fun x => bit_int a x (by omega))
  have HS := Lib.hid (fun k => tonesB_snoc k a)
  have HL := Lib.hid (fun k => orL_lt (fun x => x % d) (tonesB k a) n (fun t _ => by have := Nat.mod_lt t (show 0 < d by omega); omega))
  have HF := Lib.hid (show foldN n a d = orL (fun x => x % d) (tonesB n a) from rfl)
  clear ha
  go_enter Tryd.func28, Tryd.ntmps28
  go_wp2
  go_loop [7, 8, 10] (fun o _ i => ∃ k : Nat, k ≤ n ∧ i = .int .i64 k ∧ o = .int .i64 ((orL (fun x => x % d) (tonesB k a) : Nat) : Int)) (fun _ _ i => n - (intOf i).toNat)
  case atStart => exact ⟨0, Nat.zero_le _, rfl, rfl⟩
  case round =>
    obtain ⟨k, hk, rfl, rfl⟩ := hrel
    have hol := HL.out k
    by_cases hlt : k < n
    · cases hbk : a.testBit k
      · have hb1 : (bits .and .i64 ((a : Int) / 2 ^ k) 1 == 1) = false := by rw [HB.out k, hbk]; rfl
        have hts := Lib.hid (show orL (fun x => x % d) (tonesB (k + 1) a) = orL (fun x => x % d) (tonesB k a) by rw [HS.out k, hbk]; simp)
        generalize orL (fun x => x % d) (tonesB k a) = o at hol hts
        clear hbk
        go_wp2
        go_round
        case rel => exact ⟨k + 1, by omega, by go_num, by rw [hts.out]⟩
        case measure => simp only [intOf]; omega
      · have hb1 : (bits .and .i64 ((a : Int) / 2 ^ k) 1 == 1) = true := by rw [HB.out k, hbk]; rfl
        have hts := Lib.hid (show orL (fun x => x % d) (tonesB (k + 1) a) = orL (fun x => x % d) (tonesB k a) ||| 2 ^ (k % d) by rw [HS.out k, hbk]; simp only [if_true]; rw [orL_snoc, Nat.one_shiftLeft])
        have hul : k % d < n := by have := Nat.mod_lt k (show 0 < d by omega); omega
        have hum : (k : Int) % (d : Int) = ((k % d : Nat) : Int) := by simp
        have hpu := pow_bd ((k % d : Nat) : Int) (by omega) (by omega)
        simp only [Int.toNat_natCast] at hpu
        have hu24 : 2 ^ (k % d) ≤ 2 ^ 24 := Nat.pow_le_pow_right (by omega) (by omega)
        generalize orL (fun x => x % d) (tonesB k a) = o at hol hts
        have hor := or_nat o (2 ^ (k % d)) (by omega) (by omega)
        have e2 : (2 : Int) ^ (k % d) = ((2 ^ (k % d) : Nat) : Int) := by simp
        rw [← e2] at hor
        have hor' := Lib.hid hor
        clear hbk hor e2 hu24
        generalize k % d = u at hts hul hum hpu hor'
        go_wp2
        go_round
        case rel => exact ⟨k + 1, by omega, by go_num, by rw [hts.out, hor'.out]⟩
        case measure => simp only [intOf]; omega
    · obtain rfl : k = n := by omega
      go_wp2
      go_ret
      exact ⟨ret_int (by rw [HF.out]), rfl⟩

end Go.Proofs.YtehjdhegnpmfaabDoor
