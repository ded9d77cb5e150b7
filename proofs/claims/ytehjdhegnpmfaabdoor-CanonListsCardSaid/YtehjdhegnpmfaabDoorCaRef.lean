/-
  The reference's search for partners: how many, the least.
-/
import Derived.Test.YtehjdhegnpmfaabDoorCaSorted
import Derived.Test.YtehjdhegnpmfaabDoorCaRefMath
namespace Go.Proofs.YtehjdhegnpmfaabDoor
open Go.RowKit Go.Shelf
attribute [local go_sem] Oper.semAt_some
set_option maxRecDepth 100000

set_option maxHeartbeats 2000000 in
theorem refParts_any (n a : Nat) (hn : 2 ≤ n) (hn2 : n ≤ 24) (ha : a < 2 ^ n) (f : Nat) : ∀ (b filled : Nat), Inv n a b filled → n ≤ f + cardN n filled → ∀ w : World,
    Calls Tryd.prog 55 #[.int .i64 n, .int .i64 a, .int .i64 filled] w fun e w' => e = .returned (.int .i64 ((partL n a f b filled).length : Nat)) ∧ ∃ m, w' = w.drewN m := by
  have hp := pow_bd (n : Int) (by omega) (by omega)
  simp only [Int.toNat_natCast] at hp
  have full : ∀ (f b filled : Nat), filled = 2 ^ n - 1 → ∀ w : World,
      Calls Tryd.prog 55 #[.int .i64 n, .int .i64 a, .int .i64 filled] w fun e w' => e = .returned (.int .i64 ((partL n a f b filled).length : Nat)) ∧ ∃ m, w' = w.drewN m := fun f b filled hf w => by
    have hr := Lib.hid (show (partL n a f b filled).length = 1 by rw [hf, partL_full]; rfl)
    have q1 : ((filled : Int) == (2 : Int) ^ n - 1) = true := by rw [beq_iff_eq, two_pow_sub n, hf]
    clear hf ha
    go_enter Tryd.func55, Tryd.ntmps55
    go_wp2
    go_ret
    exact ⟨by rw [hr.out]; rfl, 0, rfl⟩
  induction f with
  | zero => exact fun b filled hi hfu w => full 0 b filled (fuel_zero hi.2.1 hfu) w
  | succ f ih =>
    intro b filled hi hfu w
    by_cases hf : filled = 2 ^ n - 1
    · exact full (f + 1) b filled hf w
    have q1 : ((filled : Int) == (2 : Int) ^ n - 1) = false := by rw [beq_eq_false_iff_ne, two_pow_sub n]; omega
    have hfl := hi.2.1
    have hp24 : 2 ^ n ≤ 2 ^ 24 := Nat.pow_le_pow_right (by omega) hn2
    obtain ⟨e1, e2⟩ := empty_spec (by omega) hfl hf
    have HLow := Lib.hid (fun i h => empty_low (n := n) (i := i) (by omega) hfl hf h)
    have HBf := Lib.hid (fun x => bit_int filled x (by omega))
    have HM := Lib.hid (fun k hk V => moved_any n a k hn hn2 ha hk V)
    have HBm := Lib.hid (fun k x => bit_int (mvN n a k) x (by have : mvN n a k < 2 ^ n := mv_lt; omega))
    have HA := Lib.hid (fun k => and_nat (mvN n a k) filled (by have : mvN n a k < 2 ^ n := mv_lt; omega) (by omega))
    have HO := Lib.hid (fun k => or_nat filled (mvN n a k) (by omega) (by have : mvN n a k < 2 ^ n := mv_lt; omega))
    have HLen := Lib.hid (fun k hk => steps_length (f := f) ha hn2 hi hf (k := k) hk)
    have HS := Lib.hid (fun k => stepsL_succ n a f b filled k)
    have HT := Lib.hid (step_perm_len (b := b) f ha (by omega) hfl hf)
    have HR : Hid (∀ k, k < n → (mvN n a k).testBit (emptyN filled) = true → mvN n a k &&& filled = 0 → ∀ w : World,
        Calls Tryd.prog 55 #[.int .i64 n, .int .i64 a, .int .i64 ((filled ||| mvN n a k : Nat) : Int)] w fun e w' => e = .returned (.int .i64 ((stepL n a f b filled k).length : Nat)) ∧ ∃ m, w' = w.drewN m) := Lib.hid (fun k hk hb hv w => by
      have hs : stepL n a f b filled k = partL n a f (b ||| 2 ^ k) (filled ||| mvN n a k) := if_pos ⟨hb, hv⟩
      rw [hs]
      exact ih (b ||| 2 ^ k) (filled ||| mvN n a k) (inv_step ha hk e1 hb hv hi) (fuel_entry ha hfl (by omega) hf hb hv hfu) w)
    have HZ : Hid (∀ k, ¬ ((mvN n a k).testBit (emptyN filled) = true ∧ mvN n a k &&& filled = 0) → stepL n a f b filled k = []) := Lib.hid (fun k h => if_neg h)
    have HML : Hid (∀ k, mvN n a k < 2 ^ n) := Lib.hid (fun k => mv_lt)
    generalize emptyN filled = E at e1 e2 HLow HR HZ
    have HE2 := Lib.hid e2
    clear ih hi hfu e2 hf full ha
    go_enter Tryd.func55, Tryd.ntmps55
    go_wp2
    go_loop [7] (fun i => ∃ k : Nat, k ≤ E ∧ i = .int .i64 k) (fun i => n - (intOf i).toNat)
    case atStart => exact ⟨0, Nat.zero_le _, rfl⟩
    case round =>
      obtain ⟨k, hk, rfl⟩ := hrel
      by_cases hlt : k < E
      · have hb1 : (bits .and .i64 ((filled : Int) / 2 ^ k) 1 == 1) = true := by rw [HBf.out k, HLow.out k hlt]; rfl
        go_wp2
        go_round
        case rel => exact ⟨k + 1, by omega, by go_num⟩
        case measure => simp only [intOf]; omega
      · obtain rfl : k = E := by omega
        have hb1 : (bits .and .i64 ((filled : Int) / 2 ^ k) 1 == 1) = false := by rw [HBf.out k, HE2.out]; rfl
        go_wp2
        go_loopw [8, 9, 10, 24] (fun c _ _ i wr => ∃ k m : Nat, k ≤ n ∧ i = .int .i64 k ∧ c = .int .i64 ((stepsL n a f b filled k).length : Nat) ∧ wr = w.drewN m) (fun _ _ _ i _ => n - (intOf i).toNat)
        case atStart => exact ⟨0, 0, Nat.zero_le _, rfl, rfl, rfl⟩
        case round =>
          obtain ⟨y, m, hy, rfl, rfl, rfl⟩ := hrel
          have hl1 := HLen.out y hy
          by_cases hlt : y < n
          · have hl2 := HLen.out (y + 1) hlt
            have hss := HS.out y
            have hse := Lib.hid (congrArg List.length hss)
            rw [hss, List.length_append] at hl2
            have hm := Lib.hid (HM.out y (by omega))
            have hml := HML.out y
            have hbm := HBm.out y k
            have hand := HA.out y
            have hor := Lib.hid (HO.out y)
            have hr := Lib.hid (HR.out y hlt)
            have hz := Lib.hid (HZ.out y)
            clear hss
            generalize stepsL n a f b filled y = L at hl1 hl2 hse
            generalize stepL n a f b filled y = S at hl2 hse hr hz
            generalize mvN n a y = mk at hm hml hbm hand hor hr hz
            cases hbt : mk.testBit k
            · rw [hbt] at hbm
              have q2 : (bits .and .i64 ((mk : Int) / 2 ^ k) 1 == 1) = false := by rw [hbm]; rfl
              have hs0 := Lib.hid (hz.out (fun h => by rw [hbt] at h; exact absurd h.1 (by decide)))
              clear hbm hand hbt
              go_wp2_with fail
              refine (hm.out _).mono ?_
              rintro e w' ⟨rfl, m1, rfl⟩
              go_wp2_with fail
              go_roundw
              case rel => exact ⟨y + 1, m + m1, by omega, by go_num, by rw [hse.out, List.length_append, hs0.out]; rfl, rfl⟩
              case measure => simp only [intOf]; omega
            · rw [hbt] at hbm
              have q2 : (bits .and .i64 ((mk : Int) / 2 ^ k) 1 == 1) = true := by rw [hbm]; rfl
              by_cases hv : mk &&& filled = 0
              · have q3 : (bits .and .i64 (mk : Int) (filled : Int) == 0) = true := by rw [hand, hv]; rfl
                have hr2 := Lib.hid (hr.out hbt hv)
                clear hbm hand hbt hv
                go_wp2_with fail
                refine (hm.out _).mono ?_
                rintro e w' ⟨rfl, m1, rfl⟩
                go_wp2_with fail
                rw [hor.out]
                refine (hr2.out _).mono ?_
                rintro e w' ⟨rfl, m2, rfl⟩
                go_wp2_with fail
                go_roundw
                case rel => exact ⟨y + 1, m + m1 + m2, by omega, by go_num, by rw [hse.out, List.length_append]; simp, rfl⟩
                case measure => simp only [intOf]; omega
              · have q3 : (bits .and .i64 (mk : Int) (filled : Int) == 0) = false := by rw [hand, beq_eq_false_iff_ne]; omega
                have hs0 := Lib.hid (hz.out (fun h => hv h.2))
                clear hbm hand hbt hv
                go_wp2_with fail
                refine (hm.out _).mono ?_
                rintro e w' ⟨rfl, m1, rfl⟩
                go_wp2_with fail
                go_roundw
                case rel => exact ⟨y + 1, m + m1, by omega, by go_num, by rw [hse.out, List.length_append, hs0.out]; rfl, rfl⟩
                case measure => simp only [intOf]; omega
          · obtain rfl : y = n := by omega
            have ht := HT
            generalize (stepsL y a f b filled y).length = L at hl1 ht
            go_wp2_with fail
            go_ret
            exact ⟨ret_int (by rw [ht.out]), m, rfl⟩

end Go.Proofs.YtehjdhegnpmfaabDoor
