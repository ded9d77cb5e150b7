/-
  Contracts of the small functions of package canon and of its reference that only reckon: modulo, has, valid, move, Rhythm, moved.
-/
import Derived.Test.YthnenhfdojpobaaDoorRows
import Derived.Test.YthnenhfdojpobaaDoorBits
import Derived.WalkKit
import Derived.ProofKit
import Derived.OpenShut
import Derived.Deep.QuietTactic
import Derived.BigQuiet
import Derived.IntWalk
import Derived.Lib.Hide
namespace Go.Proofs.YthnenhfdojpobaaDoor.Za
open Go.ChangeShapes Go.WideShapes Go.ChangeAt Go.RowKit
set_option maxRecDepth 100000

theorem ret_int {k : IntKind} {a b : Int} (h : a = b) : Ending.returned (.int k a) = .returned (.int k b) := by rw [h]
theorem ret_bool {a b : Bool} (h : a = b) : Ending.returned (.bool a) = .returned (.bool b) := by rw [h]

theorem pow_bd (n : Int) (h1 : 0 ≤ n) (h : n ≤ 24) : (1 : Int) ≤ 2 ^ n.toNat ∧ (2 : Int) ^ n.toNat ≤ 16777216 := by
  obtain ⟨k, rfl⟩ := Int.eq_ofNat_of_zero_le h1
  simp only [Int.toNat_natCast]
  have h2 : k ≤ 24 := by omega
  have h3 : 2 ^ k ≤ 2 ^ 24 := Nat.pow_le_pow_right (by omega) h2
  have h4 := Nat.two_pow_pos k
  have e : ((2 : Int) ^ k) = ((2 ^ k : Nat) : Int) := by simp
  rw [e]; omega

/-- Go's remainder, made not negative. -/
theorem mod_fix (x n : Int) : (x.tmod n + n) % n = x % n := by
  rw [Int.add_emod_right]
  have : x.tmod n = x - n * (x.tdiv n) := by have := Int.mul_tdiv_add_tmod x n; omega
  rw [this, Int.sub_mul_emod_self_left]

theorem bit_int (c x : Nat) (hc : c < 2 ^ 62) : bits .and .i64 ((c : Int) / 2 ^ x) 1 = if c.testBit x then 1 else 0 := by
  have e1 : (c : Int) / 2 ^ x = ((c / 2 ^ x : Nat) : Int) := by simp
  have e2 : (1 : Int) = ((1 : Nat) : Int) := rfl
  have hb : c / 2 ^ x < 2 ^ 63 := Nat.lt_of_le_of_lt (Nat.div_le_self _ _) (by omega)
  rw [e1, e2, and_nat _ _ hb (by omega), Nat.and_one_is_mod, Nat.testBit_eq_decide_div_mod_eq]
  have := Nat.mod_two_eq_zero_or_one (c / 2 ^ x)
  rcases this with h | h <;> simp [h]

theorem has_any (c x : Nat) (hc : c < 2 ^ 62) (hx : x < 62) (w : World) :
    Calls Tryd.prog 23 #[.int .i64 c, .int .i64 x] w fun e w' => e = .returned (.bool (c.testBit x)) ∧ w = w' := by
  have H := Lib.hid (bit_int c x hc)
  go_enter Tryd.func23, Tryd.ntmps23
  go_wp2
  go_ret
  refine ⟨ret_bool ?_, rfl⟩
  rw [H.out]
  cases c.testBit x <;> rfl

/-- What a valid circle and rhythm are. -/
def vldN (n : Int) : Bool := decide (2 ≤ n ∧ n ≤ 24)
def vldC (n c : Int) : Bool := decide (0 ≤ c ∧ c < 2 ^ n.toNat ∧ c % 2 = 1)
def vldB (n c : Int) : Bool := vldN n && vldC n c

theorem odd_bit {c : Int} (h0 : 0 ≤ c) : c % 2 = 1 ↔ c.toNat.testBit 0 = true := by
  obtain ⟨k, rfl⟩ := Int.eq_ofNat_of_zero_le h0
  rw [Int.toNat_natCast, Nat.testBit_zero, decide_eq_true_eq]
  omega

theorem valid_any (n : Int) (cs : List Int) (b cap : Nat) (w : World) (hl : cs.length < 2 ^ 40) (hc : ∀ i, i < cs.length → w.cell? ⟨b, i, none⟩ = some (.int .i64 (cs[i]?.getD 0))) :
    Calls Tryd.prog 12 #[.int .i64 n, .slice (some ⟨b, 0, none⟩) cs.length cap] w fun e w' => e = .returned (.bool (vldN n && cs.all (vldC n))) ∧ w = w' := by
  by_cases h1 : 2 ≤ n
  · by_cases h2 : n ≤ 24
    · have hp := pow_bd n (by omega) h2
      have H : vldN n = true := by unfold vldN; exact decide_eq_true ⟨h1, h2⟩
      have H' := Lib.hid H; clear H
      go_enter Tryd.func12, Tryd.ntmps12
      go_wp2
      go_loop [6, 15] (fun _ i => ∃ k : Nat, k ≤ cs.length ∧ i = .int .i64 k ∧ (cs.take k).all (vldC n) = true) (fun _ i => cs.length - (intOf i).toNat)
      case atStart => exact ⟨0, Nat.zero_le _, rfl, by simp⟩
      case round =>
        obtain ⟨k, hk, rfl, hall⟩ := hrel
        have HA := Lib.hid hall; clear hall
        by_cases hlt : k < cs.length
        · have hck := hc k hlt
          clear hc
          have HS : Hid (cs.take (k + 1) = cs.take k ++ [cs[k]?.getD 0]) := by
            rw [List.take_succ_eq_append_getElem hlt, List.getElem?_eq_getElem hlt]; rfl
          have HM : Hid (cs[k]?.getD 0 ∈ cs) := by
            rw [List.getElem?_eq_getElem hlt]; exact List.getElem_mem hlt
          generalize cs[k]?.getD 0 = c at hck HS HM
          by_cases h3 : 0 ≤ c
          · by_cases h4 : c < 2 ^ n.toNat
            · obtain ⟨q, rfl⟩ := Int.eq_ofNat_of_zero_le h3
              have HH := fun V => has_any q 0 (by omega) (by omega) V
              have HO := odd_bit (c := (q : Int)) (by omega)
              rw [Int.toNat_natCast] at HO
              cases hb : q.testBit 0
              · rw [hb] at HH HO
                have HH' := Lib.hid HH
                have HV := Lib.hid (show vldC n (q : Int) = false by unfold vldC; exact decide_eq_false (fun h => by have := HO.1 h.2.2; cases this))
                clear HH HO hb
                go_wp2_with (go_at_call 23; refine (HH'.out _).mono ?_; rintro e w' ⟨rfl, rfl⟩)
                go_ret
                refine ⟨ret_bool ?_, rfl⟩
                rw [H'.out, Bool.true_and, eq_comm, List.all_eq_false]
                exact ⟨_, HM.out, by rw [HV.out]; simp⟩
              · rw [hb] at HH HO
                have HH' := Lib.hid HH
                have HV := Lib.hid (show vldC n (q : Int) = true by unfold vldC; exact decide_eq_true ⟨h3, h4, HO.2 rfl⟩)
                clear HH HO hb
                go_wp2_with (go_at_call 23; refine (HH'.out _).mono ?_; rintro e w' ⟨rfl, rfl⟩)
                go_round
                case rel => exact ⟨k + 1, by omega, by go_num, by rw [HS.out, List.all_append, HA.out]; simp [HV.out]⟩
                case measure => simp [intOf]; omega
            · have HV := Lib.hid (show vldC n c = false by unfold vldC; exact decide_eq_false (fun h => h4 h.2.1))
              go_wp2
              go_ret
              refine ⟨ret_bool ?_, rfl⟩
              rw [H'.out, Bool.true_and, eq_comm, List.all_eq_false]
              exact ⟨c, HM.out, by rw [HV.out]; simp⟩
          · have HV := Lib.hid (show vldC n c = false by unfold vldC; exact decide_eq_false (fun h => h3 h.1))
            go_wp2
            go_ret
            refine ⟨ret_bool ?_, rfl⟩
            rw [H'.out, Bool.true_and, eq_comm, List.all_eq_false]
            exact ⟨c, HM.out, by rw [HV.out]; simp⟩
        · go_wp2
          go_ret
          refine ⟨ret_bool ?_, rfl⟩
          have := HA.out
          rw [List.take_of_length_le (by omega)] at this
          rw [H'.out, this]; rfl
    · have H : vldN n = false := by unfold vldN; exact decide_eq_false (fun h => h2 h.2)
      have H' := Lib.hid H; clear H
      go_enter Tryd.func12, Tryd.ntmps12
      go_wp2
      go_ret
      exact ⟨ret_bool (by rw [H'.out]; rfl), rfl⟩
  · have H : vldN n = false := by unfold vldN; exact decide_eq_false (fun h => h1 h.1)
    have H' := Lib.hid H; clear H
    go_enter Tryd.func12, Tryd.ntmps12
    go_wp2
    go_ret
    exact ⟨ret_bool (by rw [H'.out]; rfl), rfl⟩

theorem valid1 (n c : Int) (v : Bool) (h : vldB n c = v) (b cap : Nat) (w : World) (hc : w.cell? ⟨b, 0, none⟩ = some (.int .i64 c)) :
    Calls Tryd.prog 12 #[.int .i64 n, .slice (some ⟨b, 0, none⟩) 1 cap] w fun e w' => e = .returned (.bool v) ∧ w = w' := by
  refine (valid_any n [c] b cap w (by simp) (fun i hi => ?_)).mono ?_
  · obtain rfl : i = 0 := by simpa using hi
    exact hc
  · rintro e w' ⟨rfl, rfl⟩
    exact ⟨ret_bool (by rw [← h]; unfold vldB; simp), rfl⟩

theorem valid2 (n c d : Int) (v : Bool) (h : (vldB n c && vldB n d) = v) (b cap : Nat) (w : World) (hc : w.cell? ⟨b, 0, none⟩ = some (.int .i64 c)) (hd : w.cell? ⟨b, 1, none⟩ = some (.int .i64 d)) :
    Calls Tryd.prog 12 #[.int .i64 n, .slice (some ⟨b, 0, none⟩) 2 cap] w fun e w' => e = .returned (.bool v) ∧ w = w' := by
  refine (valid_any n [c, d] b cap w (by simp) (fun i hi => ?_)).mono ?_
  · obtain rfl | rfl : i = 0 ∨ i = 1 := by simp at hi; omega
    · exact hc
    · exact hd
  · rintro e w' ⟨rfl, rfl⟩
    refine ⟨ret_bool ?_, rfl⟩
    rw [← h]; unfold vldB
    simp only [List.all_cons, List.all_nil]
    cases vldN n <;> cases vldC n c <;> cases vldC n d <;> rfl

theorem valid0 (n : Int) (w : World) :
    Calls Tryd.prog 12 #[.int .i64 n, .slice none 0 0] w fun e w' => e = .returned (.bool (vldN n)) ∧ w = w' := by
  by_cases h1 : 2 ≤ n
  · by_cases h2 : n ≤ 24
    · have hp := pow_bd n (by omega) h2
      have H' := Lib.hid (show vldN n = true by unfold vldN; exact decide_eq_true ⟨h1, h2⟩)
      go_enter Tryd.func12, Tryd.ntmps12
      go_wp2
      go_loop [6, 15] (fun _ i => i = .int .i64 0) (fun _ _ => 0)
      case atStart => rfl
      case round =>
        obtain rfl := hrel
        go_wp2
        go_ret
        exact ⟨ret_bool (by rw [H'.out]), rfl⟩
    · have H' := Lib.hid (show vldN n = false by unfold vldN; exact decide_eq_false (fun h => h2 h.2))
      go_enter Tryd.func12, Tryd.ntmps12
      go_wp2
      go_ret
      exact ⟨ret_bool (by rw [H'.out]), rfl⟩
  · have H' := Lib.hid (show vldN n = false by unfold vldN; exact decide_eq_false (fun h => h1 h.1))
    go_enter Tryd.func12, Tryd.ntmps12
    go_wp2
    go_ret
    exact ⟨ret_bool (by rw [H'.out]), rfl⟩

/-- A valid circle and rhythm, as natural numbers. -/
theorem vldB_nat {n c : Int} (h : vldB n c = true) : ∃ n' c' : Nat, n = n' ∧ c = c' ∧ 2 ≤ n' ∧ n' ≤ 24 ∧ c' < 2 ^ n' ∧ c' % 2 = 1 := by
  unfold vldB at h
  rw [Bool.and_eq_true] at h
  obtain ⟨h1, h2⟩ := h
  unfold vldN at h1
  unfold vldC at h2
  obtain ⟨h1, h1'⟩ := of_decide_eq_true h1
  obtain ⟨h3, h4, h5⟩ := of_decide_eq_true h2
  obtain ⟨n', rfl⟩ := Int.eq_ofNat_of_zero_le (show 0 ≤ n by omega)
  obtain ⟨c', rfl⟩ := Int.eq_ofNat_of_zero_le h3
  refine ⟨n', c', rfl, rfl, by omega, by omega, ?_, by omega⟩
  rw [Int.toNat_natCast] at h4
  have e : (2 : Int) ^ n' = ((2 ^ n' : Nat) : Int) := by simp
  rw [e] at h4
  omega

theorem vldB_of_nat {n c : Nat} (h1 : 2 ≤ n) (h2 : n ≤ 24) (h3 : c < 2 ^ n) (h4 : c % 2 = 1) : vldB n c = true := by
  unfold vldB vldN vldC
  rw [Bool.and_eq_true]
  refine ⟨decide_eq_true ⟨by omega, by omega⟩, decide_eq_true ⟨by omega, ?_, by omega⟩⟩
  rw [Int.toNat_natCast]
  have e : (2 : Int) ^ n = ((2 ^ n : Nat) : Int) := by simp
  rw [e]; omega

theorem and_one {c : Int} (h0 : 0 ≤ c) (h1 : c < 4294967296) : (bits .and .i64 c 1 == 1) = decide (c % 2 = 1) := by
  obtain ⟨k, rfl⟩ := Int.eq_ofNat_of_zero_le h0
  have e := and_nat k 1 (by omega) (by omega)
  rw [show ((1 : Nat) : Int) = 1 from rfl] at e
  rw [e, Nat.and_one_is_mod, Bool.eq_iff_iff, beq_iff_eq, decide_eq_true_eq]
  omega

theorem Rhythm_any (n c : Int) (w : World) :
    Calls Tryd.prog 4 #[.int .i64 n, .int .i64 c] w fun e w' => e = .returned (.bool (vldB n c)) ∧ w = w' := by
  by_cases h1 : 2 ≤ n
  · by_cases h2 : n ≤ 24
    · have hp := pow_bd n (by omega) h2
      have HN : vldN n = true := by unfold vldN; exact decide_eq_true ⟨h1, h2⟩
      by_cases h3 : 0 ≤ c
      · by_cases h4 : c < 2 ^ n.toNat
        · have ha := and_one (c := c) h3 (by omega)
          by_cases h5 : c % 2 = 1
          · have H' := Lib.hid (show vldB n c = true by unfold vldB; rw [HN]; unfold vldC; exact decide_eq_true ⟨h3, h4, h5⟩)
            rw [decide_eq_true h5] at ha
            clear HN h5
            go_enter Tryd.func4, Tryd.ntmps4
            go_wp2
            go_ret
            exact ⟨ret_bool H'.out.symm, rfl⟩
          · have H' := Lib.hid (show vldB n c = false by unfold vldB; rw [HN]; unfold vldC; exact decide_eq_false (fun h => h5 h.2.2))
            rw [decide_eq_false h5] at ha
            clear HN h5
            go_enter Tryd.func4, Tryd.ntmps4
            go_wp2
            go_ret
            exact ⟨ret_bool H'.out.symm, rfl⟩
        · have H' := Lib.hid (show vldB n c = false by unfold vldB; rw [HN]; unfold vldC; exact decide_eq_false (fun h => h4 h.2.1))
          clear HN
          go_enter Tryd.func4, Tryd.ntmps4
          go_wp2
          go_ret
          exact ⟨ret_bool H'.out.symm, rfl⟩
      · have H' := Lib.hid (show vldB n c = false by unfold vldB; rw [HN]; unfold vldC; exact decide_eq_false (fun h => h3 h.1))
        clear HN
        go_enter Tryd.func4, Tryd.ntmps4
        go_wp2
        go_ret
        exact ⟨ret_bool H'.out.symm, rfl⟩
    · have H' := Lib.hid (show vldB n c = false by unfold vldB vldN; rw [decide_eq_false (fun h => h2 h.2)]; rfl)
      go_enter Tryd.func4, Tryd.ntmps4
      go_wp2
      go_ret
      exact ⟨ret_bool H'.out.symm, rfl⟩
  · have H' := Lib.hid (show vldB n c = false by unfold vldB vldN; rw [decide_eq_false (fun h => h1 h.1)]; rfl)
    go_enter Tryd.func4, Tryd.ntmps4
    go_wp2
    go_ret
    exact ⟨ret_bool H'.out.symm, rfl⟩

/-! ### moving -/

theorem mv_int (n c u : Nat) (hn : n ≤ 24) (hu : u ≤ n) (hc : c < 2 ^ n) :
    bits .and .i64 (bits .or .i64 ((c : Int) * 2 ^ u) ((c : Int) / 2 ^ (n - u))) ((2 : Int) ^ n - 1) = (mvN n c u : Nat) := by
  have hn2 : (2 : Nat) ^ n ≤ 2 ^ 24 := Nat.pow_le_pow_right (by omega) hn
  have hu2 : (2 : Nat) ^ u ≤ 2 ^ 24 := Nat.pow_le_pow_right (by omega) (by omega)
  have e1 : (c : Int) * 2 ^ u = ((c <<< u : Nat) : Int) := by rw [Nat.shiftLeft_eq]; simp
  have e2 : (c : Int) / 2 ^ (n - u) = ((c >>> (n - u) : Nat) : Int) := by rw [Nat.shiftRight_eq_div_pow]; simp
  have e3 : (2 : Int) ^ n - 1 = ((2 ^ n - 1 : Nat) : Int) := by have := Nat.two_pow_pos n; simp [Int.ofNat_sub this]
  have hm : c * 2 ^ u < 2 ^ 48 := by
    calc c * 2 ^ u < 2 ^ n * 2 ^ u := Nat.mul_lt_mul_of_pos_right hc (Nat.two_pow_pos u)
      _ ≤ 2 ^ 24 * 2 ^ 24 := Nat.mul_le_mul hn2 hu2
  have b1 : c <<< u < 2 ^ 63 := by rw [Nat.shiftLeft_eq]; omega
  have b2 : c >>> (n - u) < 2 ^ 63 := by rw [Nat.shiftRight_eq_div_pow]; exact Nat.lt_of_le_of_lt (Nat.div_le_self _ _) (by omega)
  rw [e1, e2, e3, or_nat _ _ b1 b2, and_nat _ _ (Nat.or_lt_two_pow b1 b2) (by omega)]
  rfl

theorem mv_bd (n c u : Nat) (hn : n ≤ 24) (hu : u ≤ n) (hc : c < 2 ^ n) : (c : Int) * 2 ^ u ≤ 281474976710656 ∧ 0 ≤ (c : Int) * 2 ^ u := by
  have a1 : (2 : Nat) ^ n ≤ 2 ^ 24 := Nat.pow_le_pow_right (by omega) hn
  have a2 : (2 : Nat) ^ u ≤ 2 ^ 24 := Nat.pow_le_pow_right (by omega) (by omega)
  have a3 : c * 2 ^ u ≤ 2 ^ 24 * 2 ^ 24 := Nat.mul_le_mul (by omega) a2
  have e : (c : Int) * 2 ^ u = ((c * 2 ^ u : Nat) : Int) := by simp
  rw [e]; omega

theorem move_any (n c u : Nat) (hn : 2 ≤ n) (hn2 : n ≤ 24) (hc : c < 2 ^ n) (hu : u ≤ n) (w : World) :
    Calls Tryd.prog 32 #[.int .i64 n, .int .i64 c, .int .i64 u] w fun e w' => e = .returned (.int .i64 (mvN n c u : Nat)) ∧ ∃ m, w' = w.drewN m := by
  have hb := mv_bd n c u hn2 hu hc
  have hp := pow_bd (n : Int) (by omega) (by omega)
  simp only [Int.toNat_natCast] at hp
  have hs : ((n : Int) - (u : Int)).toNat = n - u := by omega
  have HM := Lib.hid (mv_int n c u hn2 hu hc)
  clear hc
  go_enter Tryd.func32, Tryd.ntmps32
  go_wp2
  go_quiet (fail)
  go_wp2
  go_ret
  refine ⟨ret_int ?_, nq, rfl⟩
  exact HM.out

end Go.Proofs.YthnenhfdojpobaaDoor.Za
