/-
  Move, Turn, Times of package chords, and those of its reference: their contracts.
-/
import Derived.Test.YtaldfaecpcnomaaDoorZcLeafA
import Derived.Test.YtaldfaecpcnomaaDoorZcMult
import Derived.WalkSmall
namespace Go.Proofs.YtaldfaecpcnomaaDoor.Zc
open Go.RowKit Go.Shelf
attribute [local go_sem] Oper.semAt_some
set_option maxRecDepth 100000

theorem valid1 (n c : Int) (b cap : Nat) (w : World) (hc : w.cell? ⟨b, 0, none⟩ = some (.int .i64 c)) :
    Calls Tryd.prog 19 #[.int .i64 n, .slice (some ⟨b, 0, none⟩) 1 cap] w fun e w' => e = .returned (.bool (vldB n c)) ∧ w = w' := by
  refine (valid_any n [c] b cap w (by simp) (fun i hi => ?_)).mono ?_
  · obtain rfl : i = 0 := by simpa using hi
    exact hc
  · rintro e w' ⟨rfl, rfl⟩
    exact ⟨ret_bool (by rw [vldB_eq]; simp), rfl⟩

theorem valid2 (n c d : Int) (b cap : Nat) (w : World) (hc : w.cell? ⟨b, 0, none⟩ = some (.int .i64 c)) (hd : w.cell? ⟨b, 1, none⟩ = some (.int .i64 d)) :
    Calls Tryd.prog 19 #[.int .i64 n, .slice (some ⟨b, 0, none⟩) 2 cap] w fun e w' => e = .returned (.bool (vldB n c && vldB n d)) ∧ w = w' := by
  refine (valid_any n [c, d] b cap w (by simp) (fun i hi => ?_)).mono ?_
  · obtain rfl | rfl : i = 0 ∨ i = 1 := by simp at hi; omega
    · exact hc
    · exact hd
  · rintro e w' ⟨rfl, rfl⟩
    refine ⟨ret_bool ?_, rfl⟩
    rw [vldB_eq, vldB_eq]
    simp only [List.all_cons, List.all_nil]
    cases vldN n <;> cases vldC n c <;> cases vldC n d <;> rfl

/-- A valid circle and chord, as natural numbers. -/
theorem vldB_nat {n c : Int} (h : vldB n c = true) : ∃ n' c' : Nat, n = n' ∧ c = c' ∧ 2 ≤ n' ∧ n' ≤ 16 ∧ c' < 2 ^ n' := by
  unfold vldB at h
  obtain ⟨h1, h2, h3, h4⟩ := of_decide_eq_true h
  obtain ⟨n', rfl⟩ := Int.eq_ofNat_of_zero_le (show 0 ≤ n by omega)
  obtain ⟨c', rfl⟩ := Int.eq_ofNat_of_zero_le h3
  refine ⟨n', c', rfl, rfl, by omega, by omega, ?_⟩
  rw [Int.toNat_natCast] at h4
  have e : (2 : Int) ^ n' = ((2 ^ n' : Nat) : Int) := by simp
  rw [e] at h4
  omega

theorem vldB_of_nat {n c : Nat} (h1 : 2 ≤ n) (h2 : n ≤ 16) (h3 : c < 2 ^ n) : vldB n c = true := by
  unfold vldB
  refine decide_eq_true ⟨by omega, by omega, by omega, ?_⟩
  rw [Int.toNat_natCast]
  have e : (2 : Int) ^ n = ((2 ^ n : Nat) : Int) := by simp
  rw [e]; omega

theorem Move_bad (n c k : Int) (h : vldB n c = false) (w : World) :
    Calls Tryd.prog 10 #[.int .i64 n, .int .i64 c, .int .i64 k] w fun e w' => e = .returned (.tuple #[.int .i64 0, .int .i64 2]) ∧ Below w.heap.size w w' := by
  have HV : ∀ V : World, V.cell? ⟨w.heap.size, 0, none⟩ = some (.int .i64 c) → Calls Tryd.prog 19 #[.int .i64 n, .slice (some ⟨w.heap.size, 0, none⟩) 1 1] V fun e w' => e = .returned (.bool false) ∧ V = w' :=
    fun V hc => by have := valid1 n c w.heap.size 1 V hc; rwa [h] at this
  have HV' := Lib.hid HV
  clear HV h
  go_enter Tryd.func10, Tryd.ntmps10
  go_wp2_with (go_at_call 19; refine (HV'.out _ (cell_at rfl)).mono ?_; rintro e w' ⟨rfl, rfl⟩)
  go_ret2
  exact ⟨rfl, (Below.refl _ w).alloc (Nat.le_refl _) _⟩

theorem Move_ok (n c : Nat) (k : Int) (h1 : 2 ≤ n) (h2 : n ≤ 16) (h3 : c < 2 ^ n) (w : World) :
    Calls Tryd.prog 10 #[.int .i64 n, .int .i64 c, .int .i64 k] w fun e w' => e = .returned (.tuple #[.int .i64 (mvN n c (k % n).toNat : Nat), .int .i64 0]) ∧ Below w.heap.size w w' := by
  have HV : ∀ V : World, V.cell? ⟨w.heap.size, 0, none⟩ = some (.int .i64 c) → Calls Tryd.prog 19 #[.int .i64 n, .slice (some ⟨w.heap.size, 0, none⟩) 1 1] V fun e w' => e = .returned (.bool true) ∧ V = w' :=
    fun V hc => by have := valid1 n c w.heap.size 1 V hc; rwa [vldB_of_nat h1 h2 h3] at this
  have HV' := Lib.hid HV
  have HM := Lib.hid (fun V => move_any n c k h1 h2 h3 V)
  clear HV
  go_enter Tryd.func10, Tryd.ntmps10
  go_wp2_with (first | (go_at_call 19; refine (HV'.out _ (cell_at rfl)).mono ?_; rintro e w' ⟨rfl, rfl⟩) | (go_at_call 21; refine (HM.out _).mono ?_; rintro e w' ⟨rfl, mm, rfl⟩))
  go_ret2
  exact ⟨rfl, below_drewN ((Below.refl _ w).alloc (Nat.le_refl _) _) _⟩

/-- What valid says of one chord, wherever it lies. -/
theorem valid_of (n c : Int) (v : Bool) (h : vldB n c = v) (b : Nat) (V : World) (hc : V.cell? ⟨b, 0, none⟩ = some (.int .i64 c)) :
    Calls Tryd.prog 19 #[.int .i64 n, .slice (some ⟨b, 0, none⟩) 1 1] V fun e w' => e = .returned (.bool v) ∧ V = w' := by
  have := valid1 n c b 1 V hc
  rwa [h] at this

theorem Turn_bad (n c : Int) (h : vldB n c = false) (w : World) :
    Calls Tryd.prog 11 #[.int .i64 n, .int .i64 c] w fun e w' => e = .returned (.tuple #[.int .i64 0, .int .i64 2]) ∧ Below w.heap.size w w' := by
  have HV := Lib.hid (valid_of n c _ h)
  clear h
  go_enter Tryd.func11, Tryd.ntmps11
  go_wp2_with (go_at_call 19; refine (HV.out _ _ (cell_at rfl)).mono ?_; rintro e w' ⟨rfl, rfl⟩)
  go_ret2
  exact ⟨rfl, (Below.refl _ w).alloc (Nat.le_refl _) _⟩

theorem Turn_ok (n c : Nat) (h1 : 2 ≤ n) (h2 : n ≤ 16) (h3 : c < 2 ^ n) (w : World) (hT : Tab w) :
    Calls Tryd.prog 11 #[.int .i64 n, .int .i64 c] w fun e w' => e = .returned (.tuple #[.int .i64 (mulN n c (-1) : Nat), .int .i64 0]) ∧ Below w.heap.size w w' := by
  have HV := Lib.hid (valid_of n c _ (vldB_of_nat h1 h2 h3))
  have hB : Below w.heap.size w (w.alloc (.cells #[.int .i64 c] 3)) := (Below.refl _ w).alloc (Nat.le_refl _) _
  have HM := Lib.hid (turn_any n c h1 h2 h3 (w.alloc (.cells #[.int .i64 c] 3)) (hT.same hB))
  clear hT
  go_enter Tryd.func11, Tryd.ntmps11
  go_wp2_with (first | (go_at_call 19; refine (HV.out _ _ (cell_at rfl)).mono ?_; rintro e w' ⟨rfl, rfl⟩) | (go_at_call 22; refine HM.out.mono ?_; rintro e w' ⟨rfl, hb⟩))
  go_ret2
  exact ⟨rfl, hB.trans (Below.mono (by assumption) (by simp))⟩

/-- What Times takes. -/
def mulOkB (n c m : Int) : Bool := vldB n c && (decide (1 ≤ m ∧ m < n) && copB n.toNat m.toNat)

/-- A chord mapped, as the reference makes it. -/
def mapN (n c : Nat) (m k : Int) : Nat := orL (fun x => ((m * x + k) % n).toNat) (tonesB n c)

theorem bit_int (c x : Nat) (hc : c < 2 ^ 62) : bits .and .i64 ((c : Int) / 2 ^ x) 1 = if c.testBit x then 1 else 0 := by
  have e1 : (c : Int) / 2 ^ x = ((c / 2 ^ x : Nat) : Int) := by simp
  have e2 : (1 : Int) = ((1 : Nat) : Int) := rfl
  have hb : c / 2 ^ x < 2 ^ 63 := Nat.lt_of_le_of_lt (Nat.div_le_self _ _) (by omega)
  rw [e1, e2, and_nat _ _ hb (by omega), Nat.and_one_is_mod, Nat.testBit_eq_decide_div_mod_eq]
  have := Nat.mod_two_eq_zero_or_one (c / 2 ^ x)
  rcases this with h | h <;> simp [h]

theorem tonesB_succ (k c : Nat) : tonesB (k + 1) c = tonesB k c ++ if c.testBit k then [k] else [] := by
  unfold tonesB
  rw [List.range_succ, List.filter_append]
  congr 1
  cases h : c.testBit k <;> simp [h]

end Go.Proofs.YtaldfaecpcnomaaDoor.Zc
