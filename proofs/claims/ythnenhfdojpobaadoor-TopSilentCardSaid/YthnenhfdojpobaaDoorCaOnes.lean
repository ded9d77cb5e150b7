/-
  How many beats a rhythm has: the library's OnesCount64 below 2^24, and beatsIn.
-/
import Derived.Test.YthnenhfdojpobaaDoorPopMath
import Derived.Test.YthnenhfdojpobaaDoorKeep
namespace Go.Proofs.YthnenhfdojpobaaDoor
open Go.RowKit
attribute [local go_sem] Oper.semAt_some
set_option maxRecDepth 100000

theorem shr_nat (x k : Nat) : ((x : Nat) : Int) / ((2 ^ k : Nat) : Int) = ((Nat.shiftRight x k : Nat) : Int) := by
  rw [show Nat.shiftRight x k = x / 2 ^ k from Nat.shiftRight_eq_div_pow x k]; rfl
theorem popG1 (x : Nat) (h : x < 2 ^ 64) : IntKind.u64.wrap (bits .and .u64 ((x : Int) / 2) 6148914691236517205 + bits .and .u64 (x : Int) 6148914691236517205) = ((popS1 x : Nat) : Int) := by
  have e := shr_nat x 1
  have l1 : Nat.land (Nat.shiftRight x 1) 6148914691236517205 ≤ 6148914691236517205 := Nat.and_le_right
  have l2 : Nat.land x 6148914691236517205 ≤ 6148914691236517205 := Nat.and_le_right
  have hx : Nat.shiftRight x 1 < 2 ^ 64 := by rw [show Nat.shiftRight x 1 = x / 2 ^ 1 from Nat.shiftRight_eq_div_pow x 1]; omega
  have a1 := andu_nat (Nat.shiftRight x 1) 6148914691236517205 hx (by decide)
  have a2 := andu_nat x 6148914691236517205 h (by decide)
  rw [show ((x : Int) / 2) = ((Nat.shiftRight x 1 : Nat) : Int) from e]
  rw [show bits .and .u64 ((Nat.shiftRight x 1 : Nat) : Int) 6148914691236517205 = _ from a1, show bits .and .u64 ((x : Nat) : Int) 6148914691236517205 = _ from a2]
  exact wrap_natu (popS1 x) (by show Nat.land (Nat.shiftRight x 1) 6148914691236517205 + Nat.land x 6148914691236517205 < _; omega)
theorem popG2 (x : Nat) (h : x < 2 ^ 64) : IntKind.u64.wrap (bits .and .u64 ((x : Int) / 4) 3689348814741910323 + bits .and .u64 (x : Int) 3689348814741910323) = ((popS2 x : Nat) : Int) := by
  have e := shr_nat x 2
  have l1 : Nat.land (Nat.shiftRight x 2) 3689348814741910323 ≤ 3689348814741910323 := Nat.and_le_right
  have l2 : Nat.land x 3689348814741910323 ≤ 3689348814741910323 := Nat.and_le_right
  have hx : Nat.shiftRight x 2 < 2 ^ 64 := by rw [show Nat.shiftRight x 2 = x / 2 ^ 2 from Nat.shiftRight_eq_div_pow x 2]; omega
  have a1 := andu_nat (Nat.shiftRight x 2) 3689348814741910323 hx (by decide)
  have a2 := andu_nat x 3689348814741910323 h (by decide)
  rw [show ((x : Int) / 4) = ((Nat.shiftRight x 2 : Nat) : Int) from e]
  rw [show bits .and .u64 ((Nat.shiftRight x 2 : Nat) : Int) 3689348814741910323 = _ from a1, show bits .and .u64 ((x : Nat) : Int) 3689348814741910323 = _ from a2]
  exact wrap_natu (popS2 x) (by show Nat.land (Nat.shiftRight x 2) 3689348814741910323 + Nat.land x 3689348814741910323 < _; omega)
theorem popG3 (x : Nat) (h : x < 2 ^ 63) : bits .and .u64 (IntKind.u64.wrap ((x : Int) / 16 + (x : Int))) 1085102592571150095 = ((popS3 x : Nat) : Int) := by
  have e := shr_nat x 4
  have hx : Nat.shiftRight x 4 + x < 2 ^ 64 := by rw [show Nat.shiftRight x 4 = x / 2 ^ 4 from Nat.shiftRight_eq_div_pow x 4]; omega
  rw [show ((x : Int) / 16) = ((Nat.shiftRight x 4 : Nat) : Int) from e]
  rw [show (((Nat.shiftRight x 4 : Nat) : Int) + (x : Int)) = ((Nat.shiftRight x 4 + x : Nat) : Int) from rfl, wrap_natu _ hx]
  exact andu_nat _ 1085102592571150095 hx (by decide)
theorem popG4 (k : Nat) (x : Nat) (h : x < 2 ^ 63) (hk : 1 ≤ k) : IntKind.u64.wrap ((x : Int) + (x : Int) / ((2 ^ k : Nat) : Int)) = ((Nat.add x (Nat.shiftRight x k) : Nat) : Int) := by
  have e := shr_nat x k
  rw [e]
  exact wrap_natu _ (by
    rw [show Nat.shiftRight x k = x / 2 ^ k from Nat.shiftRight_eq_div_pow x k]
    have : x / 2 ^ k ≤ x / 2 ^ 1 := Nat.div_le_div_left (Nat.pow_le_pow_right (by omega) hk) (by decide)
    show x + x / 2 ^ k < _
    omega)
theorem popB1 (x : Nat) : popS1 x < 2 ^ 64 := by
  unfold popS1
  have l1 : Nat.land (Nat.shiftRight x 1) 6148914691236517205 ≤ 6148914691236517205 := Nat.and_le_right
  have l2 : Nat.land x 6148914691236517205 ≤ 6148914691236517205 := Nat.and_le_right
  simp only [Nat.add_eq]
  omega
theorem popB2 (x : Nat) : popS2 x < 2 ^ 63 := by
  unfold popS2
  have l1 : Nat.land (Nat.shiftRight x 2) 3689348814741910323 ≤ 3689348814741910323 := Nat.and_le_right
  have l2 : Nat.land x 3689348814741910323 ≤ 3689348814741910323 := Nat.and_le_right
  simp only [Nat.add_eq]
  omega
theorem popB3 (x : Nat) : popS3 x ≤ 1085102592571150095 := Nat.and_le_right
theorem popB4 (k B : Nat) (x : Nat) (h : x ≤ B) : Nat.add x (Nat.shiftRight x k) ≤ 2 * B := by
  have : Nat.shiftRight x k ≤ x := by rw [show Nat.shiftRight x k = x / 2 ^ k from Nat.shiftRight_eq_div_pow x k]; exact Nat.div_le_self _ _
  show x + Nat.shiftRight x k ≤ _
  omega
theorem popG7 (x : Nat) (h : x < 2 ^ 63) : bits .and .i64 (x : Int) 127 = ((Nat.land x 127 : Nat) : Int) := and_nat x 127 h (by decide)

theorem ones64_any (c : Nat) (hc : c < 2 ^ 24) (w : World) :
    Calls Tryd.prog 45 #[.int .u64 c] w fun e w' => e = .returned (.int .i64 ((tonesL c).length : Nat)) ∧ w = w' := by
  have e1 := popG1 c (by omega)
  have e2 := popG2 (popS1 c) (popB1 _)
  have e3 := popG3 (popS2 (popS1 c)) (popB2 _)
  have b3 := popB3 (popS2 (popS1 c))
  have hp := popGo_tones hc
  unfold popGo at hp
  generalize popS1 c = x1 at e1 e2 e3 b3 hp
  generalize popS2 x1 = x2 at e2 e3 b3 hp
  generalize popS3 x2 = x3 at e3 b3 hp
  have e4 : IntKind.u64.wrap ((x3 : Int) + (x3 : Int) / 256) = ((popS4 x3 : Nat) : Int) := popG4 8 x3 (by omega) (by omega)
  have b4 : popS4 x3 ≤ 2 * 1085102592571150095 := popB4 8 _ x3 b3
  generalize popS4 x3 = x4 at e4 b4 hp
  have e5 : IntKind.u64.wrap ((x4 : Int) + (x4 : Int) / 65536) = ((popS5 x4 : Nat) : Int) := popG4 16 x4 (by omega) (by omega)
  have b5 : popS5 x4 ≤ 2 * (2 * 1085102592571150095) := popB4 16 _ x4 b4
  generalize popS5 x4 = x5 at e5 b5 hp
  have e6 : IntKind.u64.wrap ((x5 : Int) + (x5 : Int) / 4294967296) = ((popS6 x5 : Nat) : Int) := popG4 32 x5 (by omega) (by omega)
  have b6 : popS6 x5 ≤ 2 * (2 * (2 * 1085102592571150095)) := popB4 32 _ x5 b5
  generalize popS6 x5 = x6 at e6 b6 hp
  have e7 := popG7 x6 (by omega)
  have e8 : wrap64 (x6 : Int) = x6 := IntWalk.wrap64_in _ (by omega)
  rw [hp] at e7
  generalize (tonesL c).length = k at e7 hp
  have E := Lib.hid (And.intro e1 (And.intro e2 (And.intro e3 (And.intro e4 (And.intro e5 (And.intro e6 (And.intro e7 e8)))))))
  clear e1 e2 e3 e4 e5 e6 e7 e8 b3 b4 b5 b6 hp
  go_enter Tryd.func45, Tryd.ntmps45
  go_wp2
  obtain ⟨e1, e2, e3, e4, e5, e6, e7, e8⟩ := E.out
  simp only [e1, e2, e3, e4, e5, e6, e8, e7]
  go_ret
  exact ⟨rfl, rfl⟩

theorem tonesIn_any (c : Nat) (hc : c < 2 ^ 24) (w : World) :
    Calls Tryd.prog 33 #[.int .i64 c] w fun e w' => e = .returned (.int .i64 ((tonesL c).length : Nat)) ∧ w = w' := by
  have H := Lib.hid (ones64_any c hc)
  have hcw : IntKind.u64.wrap (c : Int) = c := wrap_natu c (by omega)
  have H2 : ∀ V : World, Calls Tryd.prog 40 #[.int .u64 c] V fun e w' => e = .returned (.int .i64 ((tonesL c).length : Nat)) ∧ V = w' := fun V => by
    clear hcw
    generalize (tonesL c).length = k at H
    go_enter Tryd.func40, Tryd.ntmps40
    go_wp2_with (go_at_call 45; refine (H.out _).mono ?_; rintro e w' ⟨rfl, rfl⟩)
    go_ret
    exact ⟨rfl, rfl⟩
  have H2' := Lib.hid H2
  clear H2 H
  generalize (tonesL c).length = k at H2'
  go_enter Tryd.func33, Tryd.ntmps33
  go_wp2_with (go_at_call 40; refine (H2'.out _).mono ?_; rintro e w' ⟨rfl, rfl⟩)
  go_ret
  exact ⟨rfl, rfl⟩

end Go.Proofs.YthnenhfdojpobaaDoor
