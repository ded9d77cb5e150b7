/-
  The iterator over all rhythms of a circle: its contract; plain.
-/
import Derived.Test.YtehjdhegnpmfaabDoorCaSorted
import Derived.Test.YtehjdhegnpmfaabDoorCaPeriodsLaw
import Derived.Test.YtehjdhegnpmfaabDoorHajosAll
namespace Go.Proofs.YtehjdhegnpmfaabDoor
open Go.RowKit Go.Shelf
attribute [local go_sem] Oper.semAt_some
set_option maxRecDepth 100000

theorem plain_any (n a : Nat) (hn : 2 ≤ n) (hn2 : n ≤ 24) (ha : a < 2 ^ n) (q : Bool) (hq : decide (perN n a = n) = q) (w : World) :
    Calls Tryd.prog 67 #[.int .i64 n, .int .i64 a] w fun e w' => e = .returned (.bool q) ∧ ∃ m, w' = w.drewN m := by
  have H := Lib.hid (period_any n a hn hn2 ha)
  have hb : (((perN n a : Nat) : Int) == (n : Int)) = q := by
    rw [← hq, Bool.eq_iff_iff, beq_iff_eq, decide_eq_true_eq]; omega
  generalize perN n a = p at H hb
  clear hq
  go_enter Tryd.func67, Tryd.ntmps67
  go_wp2_with fail
  refine (H.out _).mono ?_
  rintro e w' ⟨rfl, m, rfl⟩
  go_wp2
  go_ret
  exact ⟨rfl, m, rfl⟩

theorem rhythms_any (n : Int) (w : World) :
    Calls Tryd.prog 64 #[.int .i64 n] w fun e w' => e = .returned (.func (.func 82) #[] #[.pointer (some ⟨w.heap.size, 0, none⟩)]) ∧ w.alloc (.cells #[.int .i64 n] 3) = w' := by
  go_enter Tryd.func64, Tryd.ntmps64
  go_wp2
  go_ret
  exact ⟨rfl, rfl⟩

/-- A rhythm of the circle. -/
abbrev RhyOf (n : Nat) := {x : Nat // x < 2 ^ n ∧ x % 2 = 1}

theorem rhy_next {n c : Nat} (hn : 1 ≤ n) (hc : c < 2 ^ (n - 1)) : 2 * c + 1 < 2 ^ n ∧ (2 * c + 1) % 2 = 1 := by
  have : 2 ^ n = 2 * 2 ^ (n - 1) := by rw [← Nat.pow_succ']; congr 1; omega
  omega

set_option maxHeartbeats 1000000 in
theorem rhythms1_stops (S : Nat → Prop) (k n Bn : Nat) (hk : 1 ≤ k) (hn1 : 2 ≤ n) (hn : n ≤ 16) (w : World)
    (hSw : ∀ i, S i → i < w.heap.size) (hSn : S Bn) (hBn : w.cell? ⟨Bn, 0, none⟩ = some (.int .i64 n)) :
    SeqStopsK Fence.wide k Tryd.prog 82 #[.pointer (some ⟨Bn, 0, none⟩)] (fun t : RhyOf n => #[.int .i64 (t.val : Int)]) (KeptOn S) (fun ys => ys.map Subtype.val = (List.range (2 ^ (n - 1))).map (fun c => 2 * c + 1)) (fun _ => True) 65536 w :=
  fun l J Jx W hW hJ hJx hY h0 => by
  have hNW : W.cell? ⟨Bn, 0, none⟩ = some (.int .i64 n) := cell_later hW hBn
  have hsz := hW.size
  have hp := pow_bd ((n : Int) - 1) (by omega) (by omega)
  have ht : ((n : Int) - 1).toNat = n - 1 := by omega
  rw [ht] at hp
  have hn2 : 2 ^ (n - 1) ≤ 2 ^ 15 := Nat.pow_le_pow_right (by omega) (by omega)
  have hpow : (2 : Int) ^ (n - 1) = ((2 ^ (n - 1) : Nat) : Int) := by simp
  have Hpow := Lib.hid hpow
  have HY := Lib.hid hY
  clear hBn hJ hY
  refine callsIn_of_wp Tryd.func82 rfl trivial ?_ rfl
  simp only [Tryd.ntmps82, List.size_toArray, List.length_cons, List.length_nil, Nat.reduceAdd, Nat.reduceSub, Array.replicate_succ, Array.replicate_zero, List.push_toArray, List.append_toArray, List.nil_append, List.cons_append]
  clear hpow
  gi_wp2
  gi_loopw [3, 7] (fun _ i wr => ∃ (c : Nat) (pre : List (RhyOf n)), c ≤ 2 ^ (n - 1) ∧ i = .int .i64 c ∧ J pre wr ∧ KeptOn S W wr ∧ pre.map Subtype.val = (List.range c).map (fun c => 2 * c + 1)) (fun _ i _ => 2 ^ (n - 1) - (intOf i).toNat)
  case atStart => exact ⟨0, [], Nat.zero_le _, rfl, h0, KeptOn.refl _ _, rfl⟩
  case round =>
    obtain ⟨c, pre, hc, rfl, hJs, hb, hx⟩ := hrel
    have hJs' := Lib.hid hJs
    have hb' := Lib.hid hb
    have hx' := Lib.hid hx
    clear hJs hb hx
    by_cases hlt : c < 2 ^ (n - 1)
    · have hlen : pre.length < 65536 := by
        have e := congrArg List.length hx'.out
        simp at e
        omega
      have hlti : (c : Int) < (2 : Int) ^ (n - 1) := by rw [Hpow.out]; omega
      have hnext := Lib.hid (show (pre ++ [(⟨2 * c + 1, rhy_next (by omega) hlt⟩ : RhyOf n)]).map Subtype.val = (List.range (c + 1)).map (fun c => 2 * c + 1) by rw [List.map_append, hx'.out, List.range_succ, List.map_append]; rfl)
      obtain ⟨fn, tmps, assign, body, hy, hR⟩ := HY.out pre ⟨2 * c + 1, rhy_next (by omega) hlt⟩ wr hJs'.out hlen
      dsimp only at hy
      rw [show ((2 * c + 1 : Nat) : Int) = 2 * (c : Int) + 1 from by omega] at hy
      have hR' := Lib.hid hR
      have hor : bits .or .i64 ((c : Int) * 2) 1 = ((2 * c + 1 : Nat) : Int) := by
        have h1 := or_nat (2 * c) 1 (by omega) (by decide)
        have h2 : 2 * c ||| 1 = 2 * c + 1 := by
          apply Nat.eq_of_testBit_eq
          intro i
          rw [Nat.testBit_or]
          cases i with
          | zero => simp [Nat.testBit_zero]
          | succ i => simp [Nat.testBit_succ, show (2 * c + 1) / 2 = c from by omega]
        rw [h2] at h1
        rw [← h1]
        congr 1
        omega
      clear hR
      gi_wp2_with fail
      refine hR'.out.mono ?_
      rintro e W3 (⟨rfl, hJ3, hk3⟩ | ⟨rfl, hJx3⟩)
      · gi_wp2
        go_roundw
        case rel => exact ⟨c + 1, _, by omega, by go_num, hJ3, hb'.out.trans hk3, hnext.out⟩
        case measure => simp only [intOf]; omega
      · gi_wp2
        refine bodyPost_ret (results_none rfl _ _ _) rfl ?_
        exact ⟨⟨_, rfl⟩, .inr ⟨_, trivial, hJx3⟩⟩
    · have hcc := Lib.hid (show c = 2 ^ (n - 1) by omega)
      have hlti : ¬ (c : Int) < (2 : Int) ^ (n - 1) := by rw [Hpow.out]; omega
      have hfin := Lib.hid (show pre.map Subtype.val = (List.range (2 ^ (n - 1))).map (fun c => 2 * c + 1) by have := hx'.out; rw [hcc.out] at this; exact this)
      clear hlt
      gi_wp2
      go_end0
      exact ⟨⟨_, rfl⟩, .inl ⟨pre, hfin.out, hJs'.out⟩⟩

end Go.Proofs.YtehjdhegnpmfaabDoor
