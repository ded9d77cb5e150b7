/-
  The reference's rules at a place.
-/
import Derived.Test.YtlmfmfbnbbooaaaDuCheck
import Derived.Deep.Cut
import Derived.Deep.CutRange
namespace Go.Proofs.Ytlmfmfbnbbooaaa
open Go.ChangeShapes Go.WideShapes Go.ChangeAt Go.RowKit
set_option maxRecDepth 100000

theorem rsort_any (x : Int) (h : -100 ≤ x ∧ x ≤ 100) (w : World) : Calls Try.prog 115 #[.int .i64 x] w fun e w' => e = .returned (.int .i64 (x % 7)) ∧ w = w' := by
  have h2 : x.tmod 7 < 7 := Int.tmod_lt_of_pos x (by omega)
  have h3 : -7 < x.tmod 7 := Int.lt_tmod_of_pos x (by omega)
  have HT := Lib.hid (mod_fix x 7)
  go_enter Try.func115, Try.ntmps115
  go_wp2
  go_ret
  exact ⟨ret_int HT.out, rfl⟩
theorem ropen_any (x : Int) (h : -100 ≤ x ∧ x ≤ 100) (w : World) : Calls Try.prog 114 #[.int .i64 x] w fun e w' => e = .returned (.bool (openB x)) ∧ w = w' := by
  have HS := Lib.hid (fun W => rsort_any x h W)
  have HE := Lib.hid (show openB x = decide (x % 7 = 0 ∨ x % 7 = 4) from rfl)
  generalize x % 7 = r at *
  clear h
  go_enter Try.func114, Try.ntmps114
  by_cases h0 : r = 0
  · have e0 : (r == 0) = true := beq_iff_eq.2 h0
    go_wp2_with fail
    refine (HS.out _).mono ?_
    rintro e w1 ⟨rfl, rfl⟩
    go_wp2
    go_ret
    exact ⟨ret_bool (by rw [HE.out]; exact (decide_eq_true (.inl h0)).symm), rfl⟩
  · have e0 : (r == 0) = false := beq_eq_false_iff_ne.2 h0
    go_wp2_with fail
    refine (HS.out _).mono ?_
    rintro e w1 ⟨rfl, rfl⟩
    go_wp2_with fail
    refine (HS.out _).mono ?_
    rintro e w1 ⟨rfl, rfl⟩
    go_wp2
    go_ret
    exact ⟨ret_bool (by rw [HE.out]; by_cases h4 : r = 4 <;> simp [h0, h4]), rfl⟩
theorem rabs_any (x : Int) (h : -100 ≤ x ∧ x ≤ 100) (w : World) : Calls Try.prog 116 #[.int .i64 x] w fun e w' => e = .returned (.int .i64 (absI x)) ∧ w = w' := by
  have HE := Lib.hid (show absI x = max x (-x) from rfl)
  go_enter Try.func116, Try.ntmps116
  go_wp2
  go_ret
  exact ⟨ret_int (by rw [HE.out]), rfl⟩

theorem wrap_nn {a : Nat} (h : a < 1000) : IntKind.i64.wrap (a : Int) = (a : Int) := by unfold IntKind.wrap; simp [IntKind.bits, IntKind.signed]; omega
theorem wrap64_nn {a : Nat} (h : a < 1000) : wrap64 (a : Int) = (a : Int) := IntWalk.wrap64_in _ (by omega)
theorem idx1 {i : Nat} (h : 1 ≤ i) (h2 : i < 1000) : (i : Int) - 1 = ((i - 1 : Nat) : Int) ∧ IntKind.i64.wrap ((i : Int) - 1) = ((i - 1 : Nat) : Int) ∧ wrap64 ((i : Int) - 1) = ((i - 1 : Nat) : Int) := by
  have z1 : (i : Int) - 1 = ((i - 1 : Nat) : Int) := by omega
  exact ⟨z1, by rw [z1]; exact wrap_nn (by omega), by rw [z1]; exact wrap64_nn (by omega)⟩
theorem idx2 {i : Nat} (h : 2 ≤ i) (h2 : i < 1000) : (i : Int) - 2 = ((i - 2 : Nat) : Int) ∧ IntKind.i64.wrap ((i : Int) - 2) = ((i - 2 : Nat) : Int) ∧ wrap64 ((i : Int) - 2) = ((i - 2 : Nat) : Int) := by
  have z1 : (i : Int) - 2 = ((i - 2 : Nat) : Int) := by omega
  exact ⟨z1, by rw [z1]; exact wrap_nn (by omega), by rw [z1]; exact wrap64_nn (by omega)⟩
/-- The least rule that is not kept, over plain numbers. -/
def brk (v rv ru m am p g : Int) (i L : Nat) : Nat :=
  if v < 0 ∨ 14 < v then 1
  else if ¬ (rv = 0 ∨ rv = 4) ∧ rv ≠ 2 ∧ rv ≠ 5 then 2
  else if (i + 1 = L ∧ rv ≠ 0) ∨ (i = 0 ∧ rv ≠ 0 ∧ rv ≠ 4) then 3
  else if i = 0 then 0
  else if 4 < am ∧ am ≠ 7 then 4
  else if (ru = 0 ∨ ru = 4) ∧ (rv = 0 ∨ rv = 4) ∧ ru = rv ∧ m ≠ 0 then 5
  else if (rv = 0 ∨ rv = 4) ∧ ((0 < m ∧ 0 < g) ∨ (m < 0 ∧ g < 0)) ∧ am ≠ 1 then 6
  else if i = 1 then 0
  else if (2 < p ∧ m ≠ -1 ∧ m ≠ -2) ∨ (p < -2 ∧ m ≠ 1 ∧ m ≠ 2) then 7
  else if p = 0 ∧ m = 0 then 8
  else 0
theorem broken_brk (gs ss : List Int) (i : Nat) : brokenN gs ss i = brk (ivA gs ss i) (ivA gs ss i % 7) (ivA gs ss (i - 1) % 7) (mvA ss i) (absI (mvA ss i)) (mvA ss (i - 1)) (mvA gs i) i gs.length := by
  unfold brokenN brk
  simp only [open_iff, open_not, sweet_not]
  generalize ivA gs ss i = v
  generalize ivA gs ss (i - 1) = u
  refine ite_same (by omega) fun h1 => ite_same (by omega) fun h2 => ite_same (by omega) fun h3 => ite_same (by omega) fun h0 => ite_same (by omega) fun h4 => ite_same (by omega) fun h5 => ite_same (by omega) fun h6 => ite_same (by omega) fun h7 => ite_same (by omega) fun h8 => ite_same (by omega) fun _ => rfl

end Go.Proofs.Ytlmfmfbnbbooaaa
