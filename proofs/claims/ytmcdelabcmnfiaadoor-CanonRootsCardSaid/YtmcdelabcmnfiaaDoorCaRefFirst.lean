/-
  The reference's base and First.
-/
import Derived.Test.YtmcdelabcmnfiaaDoorCaRefRoot
import Derived.Test.YtmcdelabcmnfiaaDoorCaRefMath2
namespace Go.Proofs.YtmcdelabcmnfiaaDoor
open Go.RowKit Go.Shelf
attribute [local go_sem] Oper.semAt_some
set_option maxRecDepth 100000

theorem base_any (s : Nat) (h1 : 2 ≤ s) (h2 : s ≤ 24) (w : World) :
    Calls Tryd.prog 53 #[.int .i64 s] w fun e w' => e = .returned (.int .i64 (baseN s : Nat)) ∧ w = w' := by
  obtain ⟨q1, q2, q3, q4⟩ := base_all h1 h2
  have HB : Hid (baseN s = if strip s (lfN s) == 1 then lfN s else 0) := Lib.hid rfl
  generalize lfN s = q at *
  have HQ3 := Lib.hid q3
  have HQ4 := Lib.hid q4
  have HG := Lib.hid (fun m (a : 1 ≤ m) (b : m ≤ 24) => strip_go (p := q) a b q1 (by omega))
  have HS := Lib.hid (fun m (a : 1 ≤ m) (b : m ≤ 24) => strip_stop (p := q) a b q1 (by omega))
  clear q3 q4
  go_enter Tryd.func53, Tryd.ntmps53
  go_wp2
  go_loopw [3] (fun i wr => ∃ p : Nat, 2 ≤ p ∧ p ≤ q ∧ i = .int .i64 p ∧ w = wr) (fun i _ => q - (intOf i).toNat)
  case atStart => exact ⟨2, Nat.le_refl _, q1, rfl, rfl⟩
  case round =>
    obtain ⟨p, hp1, hp2, rfl, rfl⟩ := hrel
    have hpz : ((p : Int) == 0) = false := by rw [beq_eq_false_iff_ne]; omega
    by_cases hpq : p < q
    · have h0 := HQ4.out p hp1 hpq
      have t0 : ((s : Int) % (p : Int) != 0) = true := by rw [bne_iff_ne]; omega
      clear h0
      go_wp2
      go_roundw
      case rel => exact ⟨p + 1, by omega, by omega, by go_num, trivial⟩
      case measure => simp only [intOf]; omega
    · obtain rfl : p = q := by omega
      have h0 := HQ3.out
      have t0 : ((s : Int) % (p : Int) != 0) = false := by rw [bne_eq_false_iff_eq]; omega
      clear h0
      go_wp2
      clear t0
      go_loopw [0] (fun i wv => ∃ m : Nat, 1 ≤ m ∧ m ≤ 24 ∧ i = .int .i64 m ∧ strip m p = strip s p ∧ w = wv) (fun i _ => (intOf i).toNat)
      case atStart => exact ⟨s, by omega, h2, rfl, rfl, rfl⟩
      case round =>
        obtain ⟨m, hm1, hm2, rfl, hs, rfl⟩ := hrel
        have Hs := Lib.hid hs
        clear hs
        by_cases h0 : m % p = 0
        · obtain ⟨e1, e2, e3⟩ := HG.out m hm1 hm2 h0
          have t0 : ((m : Int) % (p : Int) == 0) = true := by rw [beq_iff_eq]; omega
          have E := Lib.hid (e1.symm.trans Hs.out)
          obtain ⟨x, hx⟩ : ∃ x, m / p = x := ⟨_, rfl⟩
          rw [hx] at e2 e3 E
          have hx2 : (m : Int) / (p : Int) = (x : Int) := by rw [← hx]; simp
          clear e1 h0 hx
          go_wp2
          go_roundw
          case rel => exact ⟨x, e2, by omega, by go_num, E.out, trivial⟩
          case measure => simp only [intOf]; omega
        · have e1 := HS.out m hm1 hm2 h0
          have t0 : ((m : Int) % (p : Int) == 0) = false := by rw [beq_eq_false_iff_ne]; omega
          have E := Lib.hid (e1.symm.trans Hs.out)
          clear e1 h0
          by_cases hm : m = 1
          · have t1 : ((m : Int) != 1) = false := by rw [bne_eq_false_iff_eq]; omega
            have HN := Lib.hid (show baseN s = p by rw [HB.out, ← E.out, hm]; rfl)
            clear hm
            go_wp2
            go_ret
            exact ⟨ret_int (by rw [HN.out]), rfl⟩
          · have t1 : ((m : Int) != 1) = true := by rw [bne_iff_ne]; omega
            have HN := Lib.hid (show baseN s = 0 by rw [HB.out, ← E.out, if_neg (by simpa using hm)])
            clear hm
            go_wp2
            go_ret
            exact ⟨ret_int (by rw [HN.out]; rfl), rfl⟩
end Go.Proofs.YtmcdelabcmnfiaaDoor
