/-
  The closure that multiplies a rhythm: its contract.
-/
import Derived.Test.YtehjdhegnpmfaabDoorCaCount
import Derived.Test.YtehjdhegnpmfaabDoorCaTurnMath
namespace Go.Proofs.YtehjdhegnpmfaabDoor
open Go.RowKit Go.Shelf
attribute [local go_sem] Oper.semAt_some
set_option maxRecDepth 100000

set_option maxHeartbeats 1000000 in
theorem turned_any (n a m nB aB : Nat) (hn : 2 ≤ n) (hn2 : n ≤ 24) (ha : a < 2 ^ n) (hm : m ≤ 24) (W : World) (hcn : W.cell? ⟨nB, 0, none⟩ = some (.int .i64 n)) (hca : W.cell? ⟨aB, 0, none⟩ = some (.int .i64 a)) :
    Calls Tryd.prog 45 #[.int .i64 m, .pointer (some ⟨nB, 0, none⟩), .pointer (some ⟨aB, 0, none⟩)] W fun e w' => e = .returned (.int .i64 (turnN n m a : Nat)) ∧ W = w' := by
  have hp24 : 2 ^ n ≤ 2 ^ 24 := Nat.pow_le_pow_right (by omega) hn2
  have HA := Lib.hid (fun x => bit_int a x (by omega))
  have HS := Lib.hid (turn_step n m a)
  have HL : Hid (∀ k, orL (fun x => m * x % n) (tonesB k a) < 2 ^ n) := Lib.hid (fun k => orL_lt _ _ _ (fun t _ => Nat.mod_lt _ (by omega)))
  have HE := Lib.hid (show turnN n m a = orL (fun x => m * x % n) (tonesB n a) from rfl)
  have HPW : Hid (∀ k, k < n → (2 : Int) ^ k ≤ 16777216 ∧ (1 : Int) ≤ 2 ^ k) := Lib.hid (fun k hk => by
    have := pow_bd (k : Int) (by omega) (by omega)
    simp only [Int.toNat_natCast] at this
    omega)
  have HO : Hid (∀ o k : Nat, o < 2 ^ n → k < n → bits .or .i64 (o : Int) (2 ^ k : Int) = ((o ||| 2 ^ k : Nat) : Int)) := Lib.hid (fun o k ho hk => by
    have h1 : 2 ^ k < 2 ^ n := Nat.pow_lt_pow_right (by omega) hk
    have := or_nat o (2 ^ k) (by omega) (by omega)
    rw [← this]; simp)
  have hnz : ((n : Int) == 0) = false := by rw [beq_eq_false_iff_ne]; omega
  clear ha
  go_enter Tryd.func45, Tryd.ntmps45
  go_wp2
  go_loop [5, 6, 8] (fun o _ i => ∃ k : Nat, k ≤ n ∧ i = .int .i64 k ∧ o = .int .i64 ((orL (fun x => m * x % n) (tonesB k a) : Nat) : Int)) (fun _ _ i => n - (intOf i).toNat)
  case atStart => exact ⟨0, Nat.zero_le _, rfl, rfl⟩
  case round =>
    obtain ⟨k, hk, rfl, rfl⟩ := hrel
    have hl := HL.out k
    by_cases hlt : k < n
    · have hs := HS.out k
      have hm1 : m * k % n < n := Nat.mod_lt _ (by omega)
      have hmk : m * k ≤ 24 * 24 := Nat.mul_le_mul hm (by omega)
      have hpw := HPW.out (m * k % n) hm1
      have hor := Lib.hid (HO.out _ _ hl hm1)
      have hmul : IntKind.i64.wrap ((m : Int) * (k : Int)) = ((m * k : Nat) : Int) := by rw [Int.natCast_mul]; exact IntWalk.i64_in _ (by rw [← Int.natCast_mul]; omega)
      have hmod : ((m * k : Nat) : Int).tmod (n : Int) = ((m * k % n : Nat) : Int) := by rw [Int.tmod_eq_emod_of_nonneg (by omega)]; simp
      generalize hu : m * k % n = u at hs hm1 hpw hor hmod
      generalize m * k = mk at hmul hmk hmod
      cases hbk : a.testBit k
      · have hb1 : (bits .and .i64 ((a : Int) / 2 ^ k) 1 == 1) = false := by rw [HA.out k, hbk]; rfl
        rw [hbk] at hs
        have hs' := Lib.hid hs
        clear hs hbk hmul hmod hu hpw
        generalize orL (fun x => m * x % n) (tonesB k a) = o at hl hs' hor
        go_wp2
        go_round
        case rel => exact ⟨k + 1, by omega, by go_num, by rw [hs'.out]; rfl⟩
        case measure => simp only [intOf]; omega
      · have hb1 : (bits .and .i64 ((a : Int) / 2 ^ k) 1 == 1) = true := by rw [HA.out k, hbk]; rfl
        rw [hbk, if_pos rfl] at hs
        have hs' := Lib.hid hs
        clear hs hbk hu
        generalize orL (fun x => m * x % n) (tonesB k a) = o at hl hs' hor
        go_wp2
        go_round
        case rel => exact ⟨k + 1, by omega, by go_num, by rw [hs'.out, hor.out]⟩
        case measure => simp only [intOf]; omega
    · obtain rfl : k = n := by omega
      have he := HE
      generalize orL (fun x => m * x % k) (tonesB k a) = o at hl he
      go_wp2
      go_ret
      exact ⟨ret_int (by rw [he.out]), rfl⟩

end Go.Proofs.YtehjdhegnpmfaabDoor
