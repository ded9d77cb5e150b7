/-
  Contracts of the small functions of package chords and of its reference that only reckon: modulo, commonDivisor, move, Valid, mod, Coprime.
-/
import Derived.Test.YtaldfaecpcnomaaDoorRows
import Derived.Test.YtaldfaecpcnomaaDoorBits
import Derived.WalkKit
import Derived.ProofKit
import Derived.OpenShut
import Derived.Deep.QuietTactic
import Derived.BigQuiet
import Derived.IntWalk
import Derived.Lib.Hide
namespace Go.Proofs.YtaldfaecpcnomaaDoor.Zc
open Go.ChangeShapes Go.WideShapes Go.ChangeAt Go.RowKit
set_option maxRecDepth 100000

theorem ret_int {k : IntKind} {a b : Int} (h : a = b) : Ending.returned (.int k a) = .returned (.int k b) := by rw [h]
theorem ret_bool {a b : Bool} (h : a = b) : Ending.returned (.bool a) = .returned (.bool b) := by rw [h]

theorem pow_bd (n : Int) (h1 : 0 ≤ n) (h : n ≤ 16) : (1 : Int) ≤ 2 ^ n.toNat ∧ (2 : Int) ^ n.toNat ≤ 65536 := by
  obtain ⟨k, rfl⟩ := Int.eq_ofNat_of_zero_le h1
  simp only [Int.toNat_natCast]
  have h2 : k ≤ 16 := by omega
  have h3 : 2 ^ k ≤ 2 ^ 16 := Nat.pow_le_pow_right (by omega) h2
  have h4 := Nat.two_pow_pos k
  have e : ((2 : Int) ^ k) = ((2 ^ k : Nat) : Int) := by simp
  rw [e]; omega

/-- Go's remainder, made not negative. -/
theorem mod_fix (x n : Int) : (x.tmod n + n) % n = x % n := by
  rw [Int.add_emod_right]
  have : x.tmod n = x - n * (x.tdiv n) := by have := Int.mul_tdiv_add_tmod x n; omega
  rw [this, Int.sub_mul_emod_self_left]

theorem modulo_any (x n : Int) (h0 : 1 ≤ n) (h1 : n ≤ 4294967296) (w : World) :
    Calls Tryd.prog 30 #[.int .i64 x, .int .i64 n] w fun e w' => e = .returned (.int .i64 (x % n)) ∧ w = w' := by
  have h2 : x.tmod n < n := Int.tmod_lt_of_pos x (by omega)
  have h3 : -n < x.tmod n := Int.lt_tmod_of_pos x (by omega)
  have H := Lib.hid (mod_fix x n)
  go_enter Tryd.func30, Tryd.ntmps30
  go_wp2
  go_ret
  exact ⟨ret_int H.out, rfl⟩

/-- What a valid circle and chord are. -/
def vldB (n c : Int) : Bool := decide (2 ≤ n ∧ n ≤ 16 ∧ 0 ≤ c ∧ c < 2 ^ n.toNat)

theorem gcd_step (a b : Nat) : Nat.gcd b (a % b) = Nat.gcd a b := by
  rw [Nat.gcd_comm a b, Nat.gcd_rec b a, Nat.gcd_comm]

/-- No common factor. -/
def copB (a b : Nat) : Bool := Nat.gcd a b == 1

def vldN (n : Int) : Bool := decide (2 ≤ n ∧ n ≤ 16)
def vldC (n c : Int) : Bool := decide (0 ≤ c ∧ c < 2 ^ n.toNat)

theorem vldB_eq (n c : Int) : vldB n c = (vldN n && vldC n c) := by
  unfold vldB vldN vldC
  rw [Bool.eq_iff_iff]; simp [and_assoc]

theorem valid_any (n : Int) (cs : List Int) (b cap : Nat) (w : World) (hl : cs.length < 2 ^ 40) (hc : ∀ i, i < cs.length → w.cell? ⟨b, i, none⟩ = some (.int .i64 (cs[i]?.getD 0))) :
    Calls Tryd.prog 19 #[.int .i64 n, .slice (some ⟨b, 0, none⟩) cs.length cap] w fun e w' => e = .returned (.bool (vldN n && cs.all (vldC n))) ∧ w = w' := by
  by_cases h1 : 2 ≤ n
  · by_cases h2 : n ≤ 16
    · have hp := pow_bd n (by omega) h2
      have H : vldN n = true := by unfold vldN; exact decide_eq_true ⟨h1, h2⟩
      have H' := Lib.hid H; clear H
      go_enter Tryd.func19, Tryd.ntmps19
      go_wp2
      go_loop [6, 15] (fun _ i => ∃ k : Nat, k ≤ cs.length ∧ i = .int .i64 k ∧ (cs.take k).all (vldC n) = true) (fun _ i => cs.length - (intOf i).toNat)
      case atStart => exact ⟨0, Nat.zero_le _, rfl, by simp⟩
      case round =>
        obtain ⟨k, hk, rfl, hall⟩ := hrel
        have HA := Lib.hid hall; clear hall
        by_cases hlt : k < cs.length
        · have hck := hc k hlt
          clear hc
          have HS : Hid (cs.take (k + 1) = cs.take k ++ [cs[k]?.getD 0]) := by
            rw [List.take_succ_eq_append_getElem hlt, List.getElem?_eq_getElem hlt]; rfl
          have HM : Hid (cs[k]?.getD 0 ∈ cs) := by
            rw [List.getElem?_eq_getElem hlt]; exact List.getElem_mem hlt
          generalize cs[k]?.getD 0 = c at hck HS HM
          by_cases h3 : 0 ≤ c
          · by_cases h4 : c < 2 ^ n.toNat
            · have HV := Lib.hid (show vldC n c = true by unfold vldC; exact decide_eq_true ⟨h3, h4⟩)
              go_wp2
              go_round
              case rel => exact ⟨k + 1, by omega, by go_num, by rw [HS.out, List.all_append, HA.out]; simp [HV.out]⟩
              case measure => simp [intOf]; omega
            · have HV := Lib.hid (show vldC n c = false by unfold vldC; exact decide_eq_false (fun h => h4 h.2))
              go_wp2
              go_ret
              refine ⟨ret_bool ?_, rfl⟩
              rw [H'.out, Bool.true_and, eq_comm, List.all_eq_false]
              exact ⟨c, HM.out, by rw [HV.out]; simp⟩
          · have HV := Lib.hid (show vldC n c = false by unfold vldC; exact decide_eq_false (fun h => h3 h.1))
            go_wp2
            go_ret
            refine ⟨ret_bool ?_, rfl⟩
            rw [H'.out, Bool.true_and, eq_comm, List.all_eq_false]
            exact ⟨c, HM.out, by rw [HV.out]; simp⟩
        · go_wp2
          go_ret
          refine ⟨ret_bool ?_, rfl⟩
          have := HA.out
          rw [List.take_of_length_le (by omega)] at this
          rw [H'.out, this]; rfl
    · have H : vldN n = false := by unfold vldN; exact decide_eq_false (fun h => h2 h.2)
      have H' := Lib.hid H; clear H
      go_enter Tryd.func19, Tryd.ntmps19
      go_wp2
      go_ret
      exact ⟨ret_bool (by rw [H'.out]; rfl), rfl⟩
  · have H : vldN n = false := by unfold vldN; exact decide_eq_false (fun h => h1 h.1)
    have H' := Lib.hid H; clear H
    go_enter Tryd.func19, Tryd.ntmps19
    go_wp2
    go_ret
    exact ⟨ret_bool (by rw [H'.out]; rfl), rfl⟩

/-! ### moving -/

theorem mv_int (n c u : Nat) (hn : n ≤ 16) (hu : u < n) (hc : c < 2 ^ n) :
    bits .and .i64 (bits .or .i64 ((c : Int) * 2 ^ u) ((c : Int) / 2 ^ (n - u))) ((2 : Int) ^ n - 1) = (mvN n c u : Nat) := by
  have hn2 : (2 : Nat) ^ n ≤ 2 ^ 16 := Nat.pow_le_pow_right (by omega) hn
  have hu2 : (2 : Nat) ^ u ≤ 2 ^ 16 := Nat.pow_le_pow_right (by omega) (by omega)
  have e1 : (c : Int) * 2 ^ u = ((c <<< u : Nat) : Int) := by rw [Nat.shiftLeft_eq]; simp
  have e2 : (c : Int) / 2 ^ (n - u) = ((c >>> (n - u) : Nat) : Int) := by rw [Nat.shiftRight_eq_div_pow]; simp
  have e3 : (2 : Int) ^ n - 1 = ((2 ^ n - 1 : Nat) : Int) := by have := Nat.two_pow_pos n; simp [Int.ofNat_sub this]
  have hm : c * 2 ^ u < 2 ^ 32 := by
    calc c * 2 ^ u < 2 ^ n * 2 ^ u := Nat.mul_lt_mul_of_pos_right hc (Nat.two_pow_pos u)
      _ ≤ 2 ^ 16 * 2 ^ 16 := Nat.mul_le_mul hn2 hu2
  have b1 : c <<< u < 2 ^ 63 := by rw [Nat.shiftLeft_eq]; omega
  have b2 : c >>> (n - u) < 2 ^ 63 := by rw [Nat.shiftRight_eq_div_pow]; exact Nat.lt_of_le_of_lt (Nat.div_le_self _ _) (by omega)
  rw [e1, e2, e3, or_nat _ _ b1 b2, and_nat _ _ (Nat.or_lt_two_pow b1 b2) (by omega)]
  rfl

theorem move_any (n c : Nat) (k : Int) (hn : 2 ≤ n) (hn2 : n ≤ 16) (hc : c < 2 ^ n) (w : World) :
    Calls Tryd.prog 21 #[.int .i64 n, .int .i64 c, .int .i64 k] w fun e w' => e = .returned (.int .i64 (mvN n c (k % n).toNat : Nat)) ∧ ∃ m, w' = w.drewN m := by
  have h0 : 0 ≤ k % n := Int.emod_nonneg _ (by omega)
  have h1 : k % n < n := Int.emod_lt_of_pos _ (by omega)
  have HC := Lib.hid hc
  obtain ⟨u, hu⟩ := Int.eq_ofNat_of_zero_le h0
  rw [hu] at h1
  have hb : (c : Int) * 2 ^ u ≤ 4294967296 ∧ 0 ≤ (c : Int) * 2 ^ u := by
    have a1 : (2 : Nat) ^ n ≤ 2 ^ 16 := Nat.pow_le_pow_right (by omega) hn2
    have a2 : (2 : Nat) ^ u ≤ 2 ^ 16 := Nat.pow_le_pow_right (by omega) (by omega)
    have a3 : c * 2 ^ u ≤ 2 ^ 16 * 2 ^ 16 := Nat.mul_le_mul (by omega) a2
    have e : (c : Int) * 2 ^ u = ((c * 2 ^ u : Nat) : Int) := by simp
    rw [e]; omega
  have hp := pow_bd (n : Int) (by omega) (by omega)
  simp only [Int.toNat_natCast] at hp
  have HM := Lib.hid (mv_int n c u hn2 (by omega) hc)
  have HU := Lib.hid hu; clear hu h0 hc
  go_enter Tryd.func21, Tryd.ntmps21
  go_wp2_with (go_at_call 30; refine (modulo_any _ _ (by omega) (by omega) _).mono ?_; rw [HU.out]; rintro e w' ⟨rfl, rfl⟩)
  go_quiet (fail)
  go_wp2
  go_ret
  refine ⟨ret_int ?_, nq, rfl⟩
  rw [HU.out]
  simp only [Int.toNat_natCast]
  exact HM.out

end Go.Proofs.YtaldfaecpcnomaaDoor.Zc
