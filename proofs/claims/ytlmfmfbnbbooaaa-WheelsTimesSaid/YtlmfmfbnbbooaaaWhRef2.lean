/-
  Whether the reference takes a list for a wheel, a number for a chord; the statement on primes and roots.
-/
import Derived.Test.YtlmfmfbnbbooaaaWhRef
namespace Go.Proofs.Ytlmfmfbnbbooaaa
open Go.ChangeShapes Go.WideShapes Go.ChangeAt Go.RowKit
set_option maxRecDepth 100000

set_option maxHeartbeats 1000000 in
theorem RWheel_any (n : Int) (xs : List Int) (v : Value) (w : World) (hl : xs.length ≤ maxLen) (hv : IntsV w v xs) :
    Calls Try.prog 19 #[.int .i64 n, v] w fun e w' => e = .returned (.bool (circB n && wheelB n.toNat xs)) ∧ w = w' := by
  have HC := Lib.hid (fun W => RCircle_any n W)
  unfold maxLen at hl
  obtain ⟨ao, cap, rfl, hcap, hc⟩ := hv
  cases hcb : circB n
  · rw [hcb] at HC
    clear hc
    go_enter Try.func19, Try.ntmps19
    go_wp2_with fail
    refine (HC.out _).mono ?_
    rintro e w1 ⟨rfl, rfl⟩
    go_wp2
    go_ret
    exact ⟨rfl, rfl⟩
  · rw [hcb] at HC
    obtain ⟨m, rfl, hm⟩ := circB_true hcb
    rw [Bool.true_and, Int.toNat_natCast]
    have HP := Lib.hid (fun W => RPrime_any m hm W)
    have hq := hm.q_le
    have hm0 := hm.pos
    have hm17 := hm.2
    obtain ⟨q, hqq⟩ : ∃ q, qN m = q := ⟨_, rfl⟩
    have HQ := Lib.hid (show wheelB m xs = (decide (xs.length = m) && xs.all fun x => decide (0 ≤ x ∧ x < (q : Int))) by rw [← hqq]; rfl)
    rw [hqq] at HP hq
    clear hqq hm
    by_cases hln : xs.length = m
    · obtain ⟨b, off, rfl, hd⟩ := hc (by omega)
      have HD := Lib.hid hd
      have HL := Lib.hid hln
      have hne : ((xs.length : Int) == (m : Int)) = true := by rw [beq_iff_eq]; omega
      clear hc hd
      go_enter Try.func19, Try.ntmps19
      go_wp2_with fail
      refine (HC.out _).mono ?_
      rintro e w1 ⟨rfl, rfl⟩
      go_wp2_with fail
      go_loopw [18] (fun i wr => ∃ k : Nat, k ≤ xs.length ∧ i = .int .i64 (k : Int) ∧ (∀ x ∈ xs.take k, 0 ≤ x ∧ x < (q : Int)) ∧ w = wr) (fun i _ => xs.length - (intOf i).toNat)
      case atStart => exact ⟨0, Nat.zero_le _, rfl, by simp, rfl⟩
      case round =>
        obtain ⟨k, hk, rfl, ha, rfl⟩ := hrel
        have HA := Lib.hid ha
        clear ha
        by_cases hlt : k < xs.length
        · have e1 := HD.out k hlt
          have hge : xs[k]?.getD 0 = xs[k] := by rw [List.getElem?_eq_getElem hlt]; rfl
          have HM := Lib.hid (show xs[k] ∈ xs from List.getElem_mem hlt)
          have HTk := Lib.hid (show xs.take (k + 1) = xs.take k ++ [xs[k]] from List.take_succ_eq_append_getElem hlt)
          rw [hge] at e1
          clear hge
          generalize xs[k] = x at e1 HM HTk
          by_cases h0 : x < 0
          · have HV := Lib.hid (show wheelB m xs = false by
              rw [HQ.out, Bool.and_eq_false_iff]; right
              rw [List.all_eq_false]; exact ⟨x, HM.out, by simp; omega⟩)
            go_wp2
            go_ret
            exact ⟨ret_bool HV.out.symm, by trivial⟩
          · by_cases h1 : (q : Int) ≤ x
            · have HV := Lib.hid (show wheelB m xs = false by
                rw [HQ.out, Bool.and_eq_false_iff]; right
                rw [List.all_eq_false]; exact ⟨x, HM.out, by simp; omega⟩)
              go_wp2_with fail
              refine (HP.out _).mono ?_
              rintro e w2 ⟨rfl, rfl⟩
              go_wp2
              go_ret
              exact ⟨ret_bool HV.out.symm, by trivial⟩
            · have HA2 := Lib.hid (show ∀ y ∈ xs.take (k + 1), 0 ≤ y ∧ y < (q : Int) by
                rw [HTk.out]; intro y hy
                rcases List.mem_append.1 hy with hy | hy
                · exact HA.out y hy
                · rw [List.mem_singleton] at hy; subst hy; omega)
              go_wp2_with fail
              refine (HP.out _).mono ?_
              rintro e w2 ⟨rfl, rfl⟩
              go_wp2
              go_roundw
              case rel => exact ⟨k + 1, by omega, by go_num, HA2.out, by trivial⟩
              case measure => simp only [intOf]; omega
        · obtain rfl : k = xs.length := by omega
          have HV := Lib.hid (show wheelB m xs = true by
            rw [HQ.out, Bool.and_eq_true]
            refine ⟨decide_eq_true HL.out, List.all_eq_true.2 (fun x hx => decide_eq_true (HA.out x (by rw [List.take_of_length_le (Nat.le_refl _)]; exact hx)))⟩)
          go_wp2
          go_ret
          exact ⟨ret_bool HV.out.symm, by trivial⟩
    · have HV := Lib.hid (show wheelB m xs = false by rw [HQ.out, decide_eq_false hln]; rfl)
      have hne : ((xs.length : Int) == (m : Int)) = false := by rw [beq_eq_false_iff_ne]; omega
      clear hc
      go_enter Try.func19, Try.ntmps19
      go_wp2_with fail
      refine (HC.out _).mono ?_
      rintro e w1 ⟨rfl, rfl⟩
      go_wp2
      go_ret
      exact ⟨ret_bool HV.out.symm, rfl⟩

theorem RValid_any (n c : Int) (w : World) :
    Calls Try.prog 25 #[.int .i64 n, .int .i64 c] w fun e w' => e = .returned (.bool (circB n && chordsB n.toNat [c])) ∧ w = w' := by
  have HC := Lib.hid (fun W => RCircle_any n W)
  cases hcb : circB n
  · rw [hcb] at HC
    go_enter Try.func25, Try.ntmps25
    go_wp2_with fail
    refine (HC.out _).mono ?_
    rintro e w1 ⟨rfl, rfl⟩
    go_wp2
    go_ret
    exact ⟨rfl, rfl⟩
  · rw [hcb] at HC
    obtain ⟨m, rfl, hm⟩ := circB_true hcb
    rw [Bool.true_and, Int.toNat_natCast]
    have HQ := Lib.hid (show chordsB m [c] = decide (0 ≤ c ∧ c < ((2 ^ m : Nat) : Int)) by unfold chordsB; simp)
    have hpw := w64_pow17 hm.2
    have hp2 : 2 ^ m ≤ 2 ^ 16 := Nat.pow_le_pow_right (by omega) (by have := hm.2; omega)
    have hm17 := hm.2
    obtain ⟨N, hN⟩ : ∃ N, 2 ^ m = N := ⟨_, rfl⟩
    rw [hN] at hpw hp2 HQ
    clear hN hm
    by_cases h0 : 0 ≤ c
    · by_cases h1 : c < (N : Int)
      · have HV := Lib.hid (show chordsB m [c] = true by rw [HQ.out]; exact decide_eq_true ⟨h0, h1⟩)
        go_enter Try.func25, Try.ntmps25
        go_wp2_with fail
        refine (HC.out _).mono ?_
        rintro e w1 ⟨rfl, rfl⟩
        go_wp2
        go_ret
        exact ⟨ret_bool HV.out.symm, rfl⟩
      · have HV := Lib.hid (show chordsB m [c] = false by rw [HQ.out]; exact decide_eq_false (fun h => h1 h.2))
        go_enter Try.func25, Try.ntmps25
        go_wp2_with fail
        refine (HC.out _).mono ?_
        rintro e w1 ⟨rfl, rfl⟩
        go_wp2
        go_ret
        exact ⟨ret_bool (by rw [HV.out]; first | done | rfl | (simp; omega) | simp), rfl⟩
    · have HV := Lib.hid (show chordsB m [c] = false by rw [HQ.out]; exact decide_eq_false (fun h => h0 h.1))
      go_enter Try.func25, Try.ntmps25
      go_wp2_with fail
      refine (HC.out _).mono ?_
      rintro e w1 ⟨rfl, rfl⟩
      go_wp2
      go_ret
      exact ⟨ret_bool (by rw [HV.out]; first | done | rfl | (simp; omega) | simp), rfl⟩

end Go.Proofs.Ytlmfmfbnbbooaaa
