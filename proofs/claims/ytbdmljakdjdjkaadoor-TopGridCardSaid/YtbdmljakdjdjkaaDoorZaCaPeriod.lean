/-
  period, Period, Fold, and the reference's; the walk of the statement on periods.
-/
import Derived.Test.YtbdmljakdjdjkaaDoorZaLeafA
import Derived.Test.YtbdmljakdjdjkaaDoorZaCaTilesLaw
namespace Go.Proofs.YtbdmljakdjdjkaaDoor.Za
open Go.RowKit Go.Shelf
attribute [local go_sem] Oper.semAt_some
set_option maxRecDepth 100000

theorem per_le {n a d : Nat} (hn : 1 ≤ n) (h : perB n a d = true) : d ≤ n := by
  unfold perB at h
  rw [Bool.and_eq_true, beq_iff_eq] at h
  exact Nat.le_of_dvd (by omega) (Nat.dvd_of_mod_eq_zero h.1)

theorem isPeriod_any (n a d : Nat) (hn : 2 ≤ n) (hn2 : n ≤ 24) (ha : a < 2 ^ n) (hd : 1 ≤ d) (hd2 : d < 2 ^ 63) (w : World) :
    Calls Tryd.prog 30 #[.int .i64 n, .int .i64 a, .int .i64 d] w fun e w' => e = .returned (.bool (perB n a d)) ∧ ∃ m, w' = w.drewN m := by
  by_cases h0 : n % d = 0
  · have hdn : d ≤ n := Nat.le_of_dvd (by omega) (Nat.dvd_of_mod_eq_zero h0)
    have HM := Lib.hid (fun V => move_any n a d hn hn2 ha hdn V)
    have q0 : ((n : Int) % (d : Int) == 0) = true := by rw [beq_iff_eq]; omega
    have hp : perB n a d = (mvN n a d == a) := by unfold perB; rw [h0]; simp
    have HP := Lib.hid hp
    clear hp h0 ha
    generalize mvN n a d = mk at HM HP
    by_cases h1 : mk = a
    · have q1 : ((mk : Int) == (a : Int)) = true := by rw [h1]; simp
      have HQ := Lib.hid h1
      clear h1
      go_enter Tryd.func30, Tryd.ntmps30
      go_wp2_with fail
      refine (HM.out _).mono ?_
      rintro e w' ⟨rfl, m1, rfl⟩
      go_wp2_with fail
      go_ret
      exact ⟨ret_bool (by rw [HP.out, HQ.out]; simp), m1, rfl⟩
    · have q1 : ((mk : Int) == (a : Int)) = false := by rw [beq_eq_false_iff_ne]; omega
      have HQ := Lib.hid h1
      clear h1
      go_enter Tryd.func30, Tryd.ntmps30
      go_wp2_with fail
      refine (HM.out _).mono ?_
      rintro e w' ⟨rfl, m1, rfl⟩
      go_wp2_with fail
      go_ret
      exact ⟨ret_bool (by rw [HP.out]; symm; rw [beq_eq_false_iff_ne]; exact HQ.out), m1, rfl⟩
  · have q0 : ((n : Int) % (d : Int) == 0) = false := by rw [beq_eq_false_iff_ne]; omega
    have HP := Lib.hid (show perB n a d = false by unfold perB; rw [beq_eq_false_iff_ne.2 h0]; rfl)
    clear h0 ha
    go_enter Tryd.func30, Tryd.ntmps30
    go_wp2_with fail
    go_ret
    exact ⟨ret_bool HP.out.symm, 0, rfl⟩

theorem period_any (n a : Nat) (hn : 2 ≤ n) (hn2 : n ≤ 24) (ha : a < 2 ^ n) (w : World) :
    Calls Tryd.prog 16 #[.int .i64 n, .int .i64 a] w fun e w' => e = .returned (.int .i64 (perN n a : Nat)) ∧ ∃ m, w' = w.drewN m := by
  obtain ⟨h1, h2, h3, h4⟩ := perN_spec (n := n) (a := a) (by omega) ha
  have HI := Lib.hid (fun d hd hd2 V => isPeriod_any n a d hn hn2 ha hd hd2 V)
  generalize perN n a = p at h1 h2 h3 h4
  have H3 := Lib.hid h3
  have H4 := Lib.hid h4
  clear h3 h4 ha
  go_enter Tryd.func16, Tryd.ntmps16
  go_wp2
  go_loopw [5] (fun i wr => ∃ k m : Nat, 1 ≤ k ∧ k ≤ p ∧ i = .int .i64 k ∧ wr = w.drewN m) (fun i _ => p - (intOf i).toNat)
  case atStart => exact ⟨1, 0, Nat.le_refl _, h1, rfl, rfl⟩
  case round =>
    obtain ⟨k, m, hk1, hk2, rfl, rfl⟩ := hrel
    have hi := Lib.hid (HI.out k hk1 (by omega))
    by_cases hlt : k < p
    · rw [H4.out k hk1 hlt] at hi
      go_wp2_with fail
      refine (hi.out _).mono ?_
      rintro e w' ⟨rfl, m1, rfl⟩
      go_wp2_with fail
      go_roundw
      case rel => exact ⟨k + 1, m + m1, by omega, by omega, by go_num, rfl⟩
      case measure => simp only [intOf]; omega
    · obtain rfl : k = p := by omega
      rw [H3.out] at hi
      go_wp2_with fail
      refine (hi.out _).mono ?_
      rintro e w' ⟨rfl, m1, rfl⟩
      go_wp2_with fail
      go_ret
      exact ⟨rfl, m + m1, rfl⟩

theorem Period_bad (n a : Int) (h : vldB n a = false) (w : World) :
    Calls Tryd.prog 8 #[.int .i64 n, .int .i64 a] w fun e w' => e = .returned (.tuple #[.int .i64 0, .int .i64 2]) ∧ Below w.heap.size w w' := by
  have HV := Lib.hid (valid1 n a _ h)
  clear h
  go_enter Tryd.func8, Tryd.ntmps8
  go_wp2_with (go_at_call 15; refine (HV.out _ _ _ (cell_at rfl)).mono ?_; rintro e w' ⟨rfl, rfl⟩)
  go_ret2
  exact ⟨rfl, below_two _ _⟩

theorem Period_ok (n a : Nat) (hn : 2 ≤ n) (hn2 : n ≤ 24) (ha : a < 2 ^ n) (ha1 : a % 2 = 1) (w : World) :
    Calls Tryd.prog 8 #[.int .i64 n, .int .i64 a] w fun e w' => e = .returned (.tuple #[.int .i64 (perN n a : Nat), .int .i64 0]) ∧ Below w.heap.size w w' := by
  have HV := Lib.hid (valid1 n a true (vldB_of_nat hn hn2 ha ha1))
  have HP := Lib.hid (period_any n a hn hn2 ha)
  generalize perN n a = p at HP
  clear ha
  go_enter Tryd.func8, Tryd.ntmps8
  go_wp2_with (first | (go_at_call 15; refine (HV.out _ _ _ (cell_at rfl)).mono ?_; rintro e w' ⟨rfl, rfl⟩) | (go_at_call 16; refine (HP.out _).mono ?_; rintro e w' ⟨rfl, mm, rfl⟩))
  go_ret2
  exact ⟨rfl, below_drewN (below_two _ _) mm⟩

/-- What Fold takes. -/
def foldOk (n a d : Int) : Prop := vldB n a = true ∧ 2 ≤ d ∧ perB n.toNat a.toNat d.toNat = true

end Go.Proofs.YtbdmljakdjdjkaaDoor.Za
