/-
  Contracts of the small functions of package even and of its reference that only reckon: valid, hasScales, Scale, Part.
-/
import Derived.Test.YtbdmljakdjdjkaaDoorRows
import Derived.Test.YtbdmljakdjdjkaaDoorBits
import Derived.WalkKit
import Derived.ProofKit
import Derived.OpenShut
import Derived.Deep.QuietTactic
import Derived.BigQuiet
import Derived.IntWalk
import Derived.Lib.Hide
namespace Go.Proofs.YtbdmljakdjdjkaaDoor.Ze
open Go.ChangeShapes Go.WideShapes Go.ChangeAt Go.RowKit
set_option maxRecDepth 100000

theorem ret_int {k : IntKind} {a b : Int} (h : a = b) : Ending.returned (.int k a) = .returned (.int k b) := by rw [h]
theorem ret_bool {a b : Bool} (h : a = b) : Ending.returned (.bool a) = .returned (.bool b) := by rw [h]

theorem pow_bd (n : Int) (h1 : 0 ≤ n) (h : n ≤ 16) : (1 : Int) ≤ 2 ^ n.toNat ∧ (2 : Int) ^ n.toNat ≤ 65536 := by
  obtain ⟨k, rfl⟩ := Int.eq_ofNat_of_zero_le h1
  simp only [Int.toNat_natCast]
  have h2 : k ≤ 16 := by omega
  have h3 : 2 ^ k ≤ 2 ^ 16 := Nat.pow_le_pow_right (by omega) h2
  have h4 := Nat.two_pow_pos k
  have e : ((2 : Int) ^ k) = ((2 ^ k : Nat) : Int) := by simp
  rw [e]; omega


/-- What a valid circle and scale are. -/
def vldN (n : Int) : Bool := decide (2 ≤ n ∧ n ≤ 16)
def vldC (n c : Int) : Bool := decide (1 ≤ c ∧ c < 2 ^ n.toNat)
def vldB (n c : Int) : Bool := vldN n && vldC n c
/-- What a valid circle and number of tones are. -/
def vldK (n k : Int) : Bool := vldN n && decide (1 ≤ k ∧ k ≤ n)

theorem valid_any (n : Int) (cs : List Int) (b cap : Nat) (w : World) (hl : cs.length < 2 ^ 40) (hc : ∀ i, i < cs.length → w.cell? ⟨b, i, none⟩ = some (.int .i64 (cs[i]?.getD 0))) :
    Calls Tryd.prog 28 #[.int .i64 n, .slice (some ⟨b, 0, none⟩) cs.length cap] w fun e w' => e = .returned (.bool (vldN n && cs.all (vldC n))) ∧ w = w' := by
  by_cases h1 : 2 ≤ n
  · by_cases h2 : n ≤ 16
    · have hp := pow_bd n (by omega) h2
      have H : vldN n = true := by unfold vldN; exact decide_eq_true ⟨h1, h2⟩
      have H' := Lib.hid H; clear H
      go_enter Tryd.func28, Tryd.ntmps28
      go_wp2
      go_loop [6, 15] (fun _ i => ∃ k : Nat, k ≤ cs.length ∧ i = .int .i64 k ∧ (cs.take k).all (vldC n) = true) (fun _ i => cs.length - (intOf i).toNat)
      case atStart => exact ⟨0, Nat.zero_le _, rfl, by simp⟩
      case round =>
        obtain ⟨k, hk, rfl, hall⟩ := hrel
        have HA := Lib.hid hall; clear hall
        by_cases hlt : k < cs.length
        · have hck := hc k hlt
          clear hc
          have HS : Hid (cs.take (k + 1) = cs.take k ++ [cs[k]?.getD 0]) := by
            rw [List.take_succ_eq_append_getElem hlt, List.getElem?_eq_getElem hlt]; rfl
          have HM : Hid (cs[k]?.getD 0 ∈ cs) := by
            rw [List.getElem?_eq_getElem hlt]; exact List.getElem_mem hlt
          generalize cs[k]?.getD 0 = c at hck HS HM
          by_cases h3 : 1 ≤ c
          · by_cases h4 : c < 2 ^ n.toNat
            · have HV := Lib.hid (show vldC n c = true by unfold vldC; exact decide_eq_true ⟨h3, h4⟩)
              go_wp2
              go_round
              case rel => exact ⟨k + 1, by omega, by go_num, by rw [HS.out, List.all_append, HA.out]; simp [HV.out]⟩
              case measure => simp [intOf]; omega
            · have HV := Lib.hid (show vldC n c = false by unfold vldC; exact decide_eq_false (fun h => h4 h.2))
              go_wp2
              go_ret
              refine ⟨ret_bool ?_, rfl⟩
              rw [H'.out, Bool.true_and, eq_comm, List.all_eq_false]
              exact ⟨c, HM.out, by rw [HV.out]; simp⟩
          · have HV := Lib.hid (show vldC n c = false by unfold vldC; exact decide_eq_false (fun h => h3 h.1))
            go_wp2
            go_ret
            refine ⟨ret_bool ?_, rfl⟩
            rw [H'.out, Bool.true_and, eq_comm, List.all_eq_false]
            exact ⟨c, HM.out, by rw [HV.out]; simp⟩
        · go_wp2
          go_ret
          refine ⟨ret_bool ?_, rfl⟩
          have := HA.out
          rw [List.take_of_length_le (by omega)] at this
          rw [H'.out, this]; rfl
    · have H : vldN n = false := by unfold vldN; exact decide_eq_false (fun h => h2 h.2)
      have H' := Lib.hid H; clear H
      go_enter Tryd.func28, Tryd.ntmps28
      go_wp2
      go_ret
      exact ⟨ret_bool (by rw [H'.out]; rfl), rfl⟩
  · have H : vldN n = false := by unfold vldN; exact decide_eq_false (fun h => h1 h.1)
    have H' := Lib.hid H; clear H
    go_enter Tryd.func28, Tryd.ntmps28
    go_wp2
    go_ret
    exact ⟨ret_bool (by rw [H'.out]; rfl), rfl⟩

theorem valid1 (n c : Int) (v : Bool) (h : vldB n c = v) (b cap : Nat) (w : World) (hc : w.cell? ⟨b, 0, none⟩ = some (.int .i64 c)) :
    Calls Tryd.prog 28 #[.int .i64 n, .slice (some ⟨b, 0, none⟩) 1 cap] w fun e w' => e = .returned (.bool v) ∧ w = w' := by
  refine (valid_any n [c] b cap w (by simp) (fun i hi => ?_)).mono ?_
  · obtain rfl : i = 0 := by simpa using hi
    exact hc
  · rintro e w' ⟨rfl, rfl⟩
    exact ⟨ret_bool (by rw [← h]; unfold vldB; simp), rfl⟩

theorem valid0 (n : Int) (w : World) :
    Calls Tryd.prog 28 #[.int .i64 n, .slice none 0 0] w fun e w' => e = .returned (.bool (vldN n)) ∧ w = w' := by
  by_cases h1 : 2 ≤ n
  · by_cases h2 : n ≤ 16
    · have hp := pow_bd n (by omega) h2
      have H' := Lib.hid (show vldN n = true by unfold vldN; exact decide_eq_true ⟨h1, h2⟩)
      go_enter Tryd.func28, Tryd.ntmps28
      go_wp2
      go_loop [6, 15] (fun _ i => i = .int .i64 0) (fun _ _ => 0)
      case atStart => rfl
      case round =>
        obtain rfl := hrel
        go_wp2
        go_ret
        exact ⟨ret_bool (by rw [H'.out]), rfl⟩
    · have H' := Lib.hid (show vldN n = false by unfold vldN; exact decide_eq_false (fun h => h2 h.2))
      go_enter Tryd.func28, Tryd.ntmps28
      go_wp2
      go_ret
      exact ⟨ret_bool (by rw [H'.out]), rfl⟩
  · have H' := Lib.hid (show vldN n = false by unfold vldN; exact decide_eq_false (fun h => h1 h.1))
    go_enter Tryd.func28, Tryd.ntmps28
    go_wp2
    go_ret
    exact ⟨ret_bool (by rw [H'.out]), rfl⟩


theorem hasScales_any (n k : Int) (w : World) :
    Calls Tryd.prog 14 #[.int .i64 n, .int .i64 k] w fun e w' => e = .returned (.bool (vldK n k)) ∧ w = w' := by
  have H0 := Lib.hid (valid0 n)
  by_cases hv : vldN n = true
  · rw [hv] at H0
    by_cases h1 : 1 ≤ k
    · by_cases h2 : k ≤ n
      · have H' := Lib.hid (show vldK n k = true by unfold vldK; rw [hv]; exact decide_eq_true ⟨h1, h2⟩)
        clear hv
        go_enter Tryd.func14, Tryd.ntmps14
        go_wp2_with fail
        refine (H0.out _).mono ?_
        rintro e w' ⟨rfl, rfl⟩
        go_wp2
        go_ret
        exact ⟨ret_bool H'.out.symm, rfl⟩
      · have H' := Lib.hid (show vldK n k = false by unfold vldK; rw [decide_eq_false (fun h => h2 h.2)]; simp)
        clear hv
        go_enter Tryd.func14, Tryd.ntmps14
        go_wp2_with fail
        refine (H0.out _).mono ?_
        rintro e w' ⟨rfl, rfl⟩
        go_wp2
        go_ret
        exact ⟨ret_bool (by rw [H'.out]; exact decide_eq_false (by omega)), rfl⟩
    · have H' := Lib.hid (show vldK n k = false by unfold vldK; rw [decide_eq_false (fun h => h1 h.1)]; simp)
      clear hv
      go_enter Tryd.func14, Tryd.ntmps14
      go_wp2_with fail
      refine (H0.out _).mono ?_
      rintro e w' ⟨rfl, rfl⟩
      go_wp2
      go_ret
      exact ⟨ret_bool H'.out.symm, rfl⟩
  · have hv' : vldN n = false := by simpa using hv
    rw [hv'] at H0
    have H' := Lib.hid (show vldK n k = false by unfold vldK; rw [hv']; rfl)
    clear hv hv'
    go_enter Tryd.func14, Tryd.ntmps14
    go_wp2_with fail
    refine (H0.out _).mono ?_
    rintro e w' ⟨rfl, rfl⟩
    go_wp2
    go_ret
    exact ⟨ret_bool H'.out.symm, rfl⟩

/-- A valid circle and scale, as natural numbers. -/
theorem vldB_nat {n c : Int} (h : vldB n c = true) : ∃ n' c' : Nat, n = n' ∧ c = c' ∧ 2 ≤ n' ∧ n' ≤ 16 ∧ 1 ≤ c' ∧ c' < 2 ^ n' := by
  unfold vldB at h
  rw [Bool.and_eq_true] at h
  obtain ⟨h1, h2⟩ := h
  unfold vldN at h1
  unfold vldC at h2
  obtain ⟨h1, h1'⟩ := of_decide_eq_true h1
  obtain ⟨h3, h4⟩ := of_decide_eq_true h2
  obtain ⟨n', rfl⟩ := Int.eq_ofNat_of_zero_le (show 0 ≤ n by omega)
  obtain ⟨c', rfl⟩ := Int.eq_ofNat_of_zero_le (show 0 ≤ c by omega)
  refine ⟨n', c', rfl, rfl, by omega, by omega, by omega, ?_⟩
  rw [Int.toNat_natCast] at h4
  have e : (2 : Int) ^ n' = ((2 ^ n' : Nat) : Int) := by simp
  rw [e] at h4
  omega

theorem vldB_of_nat {n c : Nat} (h1 : 2 ≤ n) (h2 : n ≤ 16) (h3 : 1 ≤ c) (h4 : c < 2 ^ n) : vldB n c = true := by
  unfold vldB vldN vldC
  rw [Bool.and_eq_true]
  refine ⟨decide_eq_true ⟨by omega, by omega⟩, decide_eq_true ⟨by omega, ?_⟩⟩
  rw [Int.toNat_natCast]
  have e : (2 : Int) ^ n = ((2 ^ n : Nat) : Int) := by simp
  rw [e]; omega

theorem vldK_nat {n k : Int} (h : vldK n k = true) : ∃ n' k' : Nat, n = n' ∧ k = k' ∧ 2 ≤ n' ∧ n' ≤ 16 ∧ 1 ≤ k' ∧ k' ≤ n' := by
  unfold vldK at h
  rw [Bool.and_eq_true] at h
  obtain ⟨h1, h2⟩ := h
  unfold vldN at h1
  obtain ⟨h1, h1'⟩ := of_decide_eq_true h1
  obtain ⟨h3, h4⟩ := of_decide_eq_true h2
  obtain ⟨n', rfl⟩ := Int.eq_ofNat_of_zero_le (show 0 ≤ n by omega)
  obtain ⟨k', rfl⟩ := Int.eq_ofNat_of_zero_le (show 0 ≤ k by omega)
  exact ⟨n', k', rfl, rfl, by omega, by omega, by omega, by omega⟩

theorem vldK_of_nat {n k : Nat} (h1 : 2 ≤ n) (h2 : n ≤ 16) (h3 : 1 ≤ k) (h4 : k ≤ n) : vldK n k = true := by
  unfold vldK vldN
  rw [Bool.and_eq_true]
  exact ⟨decide_eq_true ⟨by omega, by omega⟩, decide_eq_true ⟨by omega, by omega⟩⟩

theorem Part_any (n k : Int) (w : World) :
    Calls Tryd.prog 4 #[.int .i64 n, .int .i64 k] w fun e w' => e = .returned (.bool (vldK n k)) ∧ w = w' := by
  by_cases h1 : 2 ≤ n
  · by_cases h2 : n ≤ 16
    · have HN : vldN n = true := by unfold vldN; exact decide_eq_true ⟨h1, h2⟩
      by_cases h3 : 1 ≤ k
      · by_cases h4 : k ≤ n
        · have H' := Lib.hid (show vldK n k = true by unfold vldK; rw [HN]; exact decide_eq_true ⟨h3, h4⟩)
          clear HN
          go_enter Tryd.func4, Tryd.ntmps4
          go_wp2
          go_ret
          exact ⟨ret_bool H'.out.symm, rfl⟩
        · have H' := Lib.hid (show vldK n k = false by unfold vldK; rw [HN]; exact decide_eq_false (fun h => h4 h.2))
          clear HN
          go_enter Tryd.func4, Tryd.ntmps4
          go_wp2
          go_ret
          exact ⟨ret_bool H'.out.symm, rfl⟩
      · have H' := Lib.hid (show vldK n k = false by unfold vldK; rw [HN]; exact decide_eq_false (fun h => h3 h.1))
        clear HN
        go_enter Tryd.func4, Tryd.ntmps4
        go_wp2
        go_ret
        exact ⟨ret_bool H'.out.symm, rfl⟩
    · have H' := Lib.hid (show vldK n k = false by unfold vldK vldN; rw [decide_eq_false (fun h => h2 h.2)]; rfl)
      go_enter Tryd.func4, Tryd.ntmps4
      go_wp2
      go_ret
      exact ⟨ret_bool H'.out.symm, rfl⟩
  · have H' := Lib.hid (show vldK n k = false by unfold vldK vldN; rw [decide_eq_false (fun h => h1 h.1)]; rfl)
    go_enter Tryd.func4, Tryd.ntmps4
    go_wp2
    go_ret
    exact ⟨ret_bool H'.out.symm, rfl⟩

end Go.Proofs.YtbdmljakdjdjkaaDoor.Ze
