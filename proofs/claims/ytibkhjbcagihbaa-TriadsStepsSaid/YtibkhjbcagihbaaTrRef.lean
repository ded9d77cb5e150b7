/-
  The reference's small functions (Step, Valid, Triad, IsWalk, Walk, Shift), the statements' own (fine, text, Of), and Walk, Shift of the program.
-/
import Derived.Test.YtibkhjbcagihbaaTrWalk
namespace Go.Proofs.Ytibkhjbcagihbaa
open Go.ChangeShapes Go.WideShapes Go.ChangeAt Go.RowKit
set_option maxRecDepth 100000

abbrev rcells (n a b : Int) : Obj := .cells #[.int .i64 n, .int .i64 a, .int .i64 b] 23

theorem wrap64_fix {x : Int} (h1 : -9223372036854775808 ≤ x) (h2 : x < 9223372036854775808) : wrap64 x = x := by unfold wrap64; omega

theorem stepN_up {n a b t c : Nat} (hn : 0 < n) (h : t < n) : ((stepN n a b t c : Nat) : Int) = (n : Int) + ((t : Int) + (byL a b c : Nat)).tmod n := by
  unfold stepN; rw [if_pos h, Int.tmod_eq_emod_of_nonneg (by omega)]; simp
theorem stepN_down {n a b t c : Nat} (hk : KOk n a b) (ht : t < 2 * n) (h : ¬ t < n) : ((stepN n a b t c : Nat) : Int) = ((t : Int) - (byL a b c : Nat)) % n := by
  have hb := hk.by_le c
  unfold stepN
  rw [if_neg h, Int.natCast_emod]
  have e : ((t - n + (2 * n - byL a b c) : Nat) : Int) = ((t : Int) - (byL a b c : Nat)) + (n : Int) * 1 := by omega
  rw [e, Int.add_mul_emod_self_left]

set_option maxHeartbeats 2000000 in
theorem RStep_any (n a b t c : Nat) (hk : KOk n a b) (ht : t < 2 * n) (hc : c < 256) (w : World) :
    Calls Try.prog 52 #[kv n a b, .int .i64 t, .int .u8 c] w fun e w' => e = .returned (.int .i64 (stepN n a b t c : Nat)) ∧ Below w.heap.size w w' := by
  have h0 := hk.h6
  have h1 := hk.h16
  have h2 := hk.hab
  have h3 := hk.hbn
  have hal := Lib.hid ((Below.refl w.heap.size w).alloc (Nat.le_refl _) (rcells n a b))
  have hnz : ((n : Int) == 0) = false := by rw [beq_eq_false_iff_ne]; omega
  have hcs : c = 80 ∨ c = 76 ∨ (c ≠ 80 ∧ c ≠ 76) := by omega
  by_cases hd : t < n
  · have HS := Lib.hid (stepN_up (a := a) (b := b) (c := c) (by omega) hd)
    rcases hcs with rfl | rfl | ⟨e1, e2⟩
    · skip
      have hb : ((byL a b 80 : Nat) : Int) = (b : Int) := rfl
      rw [hb] at HS
      have hm1 : 0 ≤ ((t : Int) + (b : Int)).tmod n := Int.tmod_nonneg _ (by omega)
      have hm2 : ((t : Int) + (b : Int)).tmod n < n := Int.tmod_lt_of_pos _ (by omega)
      have hwr : IntKind.i64.wrap ((t : Int) + (b : Int)) = (t : Int) + (b : Int) := by rw [IntKind.wrap_i64]; omega
      have hwr2 : IntKind.i64.wrap ((n : Int) + ((t : Int) + (b : Int)).tmod n) = (n : Int) + ((t : Int) + (b : Int)).tmod n := by rw [IntKind.wrap_i64]; omega
      have hwr3 : IntKind.i64.wrap (((t : Int) + (b : Int)).tmod n) = ((t : Int) + (b : Int)).tmod n := by rw [IntKind.wrap_i64]; omega
      have HW := Lib.hid (show wrap64 ((n : Int) + ((t : Int) + (b : Int)) % n) = (n : Int) + ((t : Int) + (b : Int)).tmod n by rw [Int.tmod_eq_emod_of_nonneg (by omega)] at hm1 hm2 ⊢; exact wrap64_fix (by omega) (by omega))
      clear hb
      go_enter Try.func52, Try.ntmps52
      go_wp2
      go_quiet (fail)
      go_wp2
      go_ret
      exact ⟨ret_int (HW.out.trans HS.out.symm), below_drewN hal.out _⟩
    · skip
      have hb : ((byL a b 76 : Nat) : Int) = (a : Int) + (b : Int) := by show ((a + b : Nat) : Int) = _; omega
      rw [hb] at HS
      have hm1 : 0 ≤ ((t : Int) + ((a : Int) + (b : Int))).tmod n := Int.tmod_nonneg _ (by omega)
      have hm2 : ((t : Int) + ((a : Int) + (b : Int))).tmod n < n := Int.tmod_lt_of_pos _ (by omega)
      have hwr : IntKind.i64.wrap ((t : Int) + ((a : Int) + (b : Int))) = (t : Int) + ((a : Int) + (b : Int)) := by rw [IntKind.wrap_i64]; omega
      have hwr2 : IntKind.i64.wrap ((n : Int) + ((t : Int) + ((a : Int) + (b : Int))).tmod n) = (n : Int) + ((t : Int) + ((a : Int) + (b : Int))).tmod n := by rw [IntKind.wrap_i64]; omega
      have hwr3 : IntKind.i64.wrap (((t : Int) + ((a : Int) + (b : Int))).tmod n) = ((t : Int) + ((a : Int) + (b : Int))).tmod n := by rw [IntKind.wrap_i64]; omega
      have HW := Lib.hid (show wrap64 ((n : Int) + ((t : Int) + ((a : Int) + (b : Int))) % n) = (n : Int) + ((t : Int) + ((a : Int) + (b : Int))).tmod n by rw [Int.tmod_eq_emod_of_nonneg (by omega)] at hm1 hm2 ⊢; exact wrap64_fix (by omega) (by omega))
      clear hb
      go_enter Try.func52, Try.ntmps52
      go_wp2
      go_quiet (fail)
      go_wp2
      go_ret
      exact ⟨ret_int (HW.out.trans HS.out.symm), below_drewN hal.out _⟩
    · have q1 : ((c : Int) == 80) = false := by rw [beq_eq_false_iff_ne]; omega
      have q2 : ((c : Int) == 76) = false := by rw [beq_eq_false_iff_ne]; omega
      have hb : ((byL a b c : Nat) : Int) = (a : Int) := by unfold byL; rw [if_neg e1, if_neg e2]
      rw [hb] at HS
      have hm1 : 0 ≤ ((t : Int) + (a : Int)).tmod n := Int.tmod_nonneg _ (by omega)
      have hm2 : ((t : Int) + (a : Int)).tmod n < n := Int.tmod_lt_of_pos _ (by omega)
      have hwr : IntKind.i64.wrap ((t : Int) + (a : Int)) = (t : Int) + (a : Int) := by rw [IntKind.wrap_i64]; omega
      have hwr2 : IntKind.i64.wrap ((n : Int) + ((t : Int) + (a : Int)).tmod n) = (n : Int) + ((t : Int) + (a : Int)).tmod n := by rw [IntKind.wrap_i64]; omega
      have hwr3 : IntKind.i64.wrap (((t : Int) + (a : Int)).tmod n) = ((t : Int) + (a : Int)).tmod n := by rw [IntKind.wrap_i64]; omega
      have HW := Lib.hid (show wrap64 ((n : Int) + ((t : Int) + (a : Int)) % n) = (n : Int) + ((t : Int) + (a : Int)).tmod n by rw [Int.tmod_eq_emod_of_nonneg (by omega)] at hm1 hm2 ⊢; exact wrap64_fix (by omega) (by omega))
      clear hb
      go_enter Try.func52, Try.ntmps52
      go_wp2
      go_quiet (fail)
      go_wp2
      go_ret
      exact ⟨ret_int (HW.out.trans HS.out.symm), below_drewN hal.out _⟩
  · have HS := Lib.hid (stepN_down (c := c) hk ht hd)
    rcases hcs with rfl | rfl | ⟨e1, e2⟩
    · skip
      have hb : ((byL a b 80 : Nat) : Int) = (b : Int) := rfl
      rw [hb] at HS
      have HM := Lib.hid (refmod_any ((t : Int) - (b : Int)) n (by omega) (by omega))
      clear hb
      go_enter Try.func52, Try.ntmps52
      go_wp2_with fail
      refine (HM.out _).mono ?_
      rintro e w1 ⟨rfl, rfl⟩
      go_wp2
      go_ret
      exact ⟨ret_int (by rw [HS.out]), hal.out⟩
    · skip
      have hb : ((byL a b 76 : Nat) : Int) = (a : Int) + (b : Int) := by show ((a + b : Nat) : Int) = _; omega
      rw [hb] at HS
      have HM := Lib.hid (refmod_any ((t : Int) - ((a : Int) + (b : Int))) n (by omega) (by omega))
      clear hb
      go_enter Try.func52, Try.ntmps52
      go_wp2_with fail
      refine (HM.out _).mono ?_
      rintro e w1 ⟨rfl, rfl⟩
      go_wp2
      go_ret
      exact ⟨ret_int (by rw [HS.out]), hal.out⟩
    · have q1 : ((c : Int) == 80) = false := by rw [beq_eq_false_iff_ne]; omega
      have q2 : ((c : Int) == 76) = false := by rw [beq_eq_false_iff_ne]; omega
      have hb : ((byL a b c : Nat) : Int) = (a : Int) := by unfold byL; rw [if_neg e1, if_neg e2]
      rw [hb] at HS
      have HM := Lib.hid (refmod_any ((t : Int) - (a : Int)) n (by omega) (by omega))
      clear hb
      go_enter Try.func52, Try.ntmps52
      go_wp2_with fail
      refine (HM.out _).mono ?_
      rintro e w1 ⟨rfl, rfl⟩
      go_wp2
      go_ret
      exact ⟨ret_int (by rw [HS.out]), hal.out⟩
end Go.Proofs.Ytibkhjbcagihbaa
