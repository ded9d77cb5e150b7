/-
  The iterator over all scales with so many tones: its contract.
-/
import Derived.Test.YtmemnkmmjejlgaaDoorEvEven
import Derived.Test.YtmemnkmmjejlgaaDoorRoundQ
import Derived.Test.YtmemnkmmjejlgaaDoorRoundT
import Derived.Deep.QuietTactic
import Derived.BigQuiet
namespace Go.Proofs.YtmemnkmmjejlgaaDoor
open Go.RowKit Go.Shelf
attribute [local go_sem] Oper.semAt_some
set_option maxRecDepth 100000

theorem scales_any (n k : Int) (w : World) :
    Calls Tryd.prog 60 #[.int .i64 n, .int .i64 k] w fun e w' => e = .returned (.func (.func 76) #[] #[.pointer (some ⟨w.heap.size, 0, none⟩), .pointer (some ⟨w.heap.size + 1, 0, none⟩)]) ∧ (w.alloc (.cells #[.int .i64 n] 3)).alloc (.cells #[.int .i64 k] 3) = w' := by
  go_enter Tryd.func60, Tryd.ntmps60
  go_wp2
  go_ret
  exact ⟨rfl, rfl⟩

/-- A scale with k tones. -/
abbrev ScOf (n k : Nat) := {x : Nat // x < 2 ^ n ∧ (tonesL x).length = k}
/-- All of them below c. -/
def scTo (k c : Nat) : List Nat := (List.range c).filter fun x => (tonesL x).length == k
theorem scTo_succ (k c : Nat) : scTo k (c + 1) = scTo k c ++ if (tonesL c).length = k then [c] else [] := by
  unfold scTo
  rw [List.range_succ, List.filter_append]
  congr 1
  by_cases h : (tonesL c).length = k <;> simp [h]
theorem scTo_length (k c : Nat) : (scTo k c).length ≤ c := by
  unfold scTo; exact Nat.le_trans (List.length_filter_le _ _) (by simp)

theorem drewN_grown (W : World) (q : Nat) : W.grownBy (W.drewN q) none := ⟨rfl, rfl, rfl, Nat.le_refl _, fun _ _ _ => rfl⟩

set_option maxHeartbeats 2000000 in
theorem scales1_stops (S : Nat → Prop) (kk n k Bn Bk : Nat) (hk : 1 ≤ kk) (hn1 : 2 ≤ n) (hn : n ≤ 16) (w : World)
    (hSw : ∀ i, S i → i < w.heap.size) (hSn : S Bn) (hSk : S Bk) (hBn : w.cell? ⟨Bn, 0, none⟩ = some (.int .i64 n)) (hBk : w.cell? ⟨Bk, 0, none⟩ = some (.int .i64 k)) :
    SeqStopsK Fence.wide kk Tryd.prog 76 #[.pointer (some ⟨Bn, 0, none⟩), .pointer (some ⟨Bk, 0, none⟩)] (fun t : ScOf n k => #[.int .i64 (t.val : Int)]) (KeptOn S) (fun ys => ys.map Subtype.val = scTo k (2 ^ n)) (fun _ => True) 65536 w :=
  fun l J Jx W hW hJ hJx hY h0 => by
  have hNW : W.cell? ⟨Bn, 0, none⟩ = some (.int .i64 n) := cell_later hW hBn
  have hKW : W.cell? ⟨Bk, 0, none⟩ = some (.int .i64 k) := cell_later hW hBk
  have hsz := hW.size
  have hp := pow_bd (n : Int) (by omega) (by omega)
  simp only [Int.toNat_natCast] at hp
  have hn2 : 2 ^ n ≤ 2 ^ 16 := Nat.pow_le_pow_right (by omega) (by omega)
  have hpow : (2 : Int) ^ n = ((2 ^ n : Nat) : Int) := by simp
  have Hpow := Lib.hid hpow
  have HY := Lib.hid hY
  have HJ := Lib.hid hJ
  have hmx : Tryd.prog.follows .mixedOrders = true := by kernel_rfl
  clear hBn hBk hJ hY
  refine callsIn_of_wp Tryd.func76 rfl trivial ?_ rfl
  simp only [Tryd.ntmps76, List.size_toArray, List.length_cons, List.length_nil, Nat.reduceAdd, Nat.reduceSub, Array.replicate_succ, Array.replicate_zero, List.push_toArray, List.append_toArray, List.nil_append, List.cons_append]
  clear hpow
  gi_wp2
  gi_loopw [7] (fun i wr => ∃ (c : Nat) (pre : List (ScOf n k)), c ≤ 2 ^ n ∧ i = .int .i64 c ∧ J pre wr ∧ KeptOn S W wr ∧ pre.map Subtype.val = scTo k c) (fun i _ => 2 ^ n - (intOf i).toNat)
  case atStart => exact ⟨0, [], Nat.zero_le _, rfl, h0, KeptOn.refl _ _, rfl⟩
  case round =>
    obtain ⟨c, pre, hc, rfl, hJs, hb, hx⟩ := hrel
    have HJs := Lib.hid hJs
    have Hb := Lib.hid hb
    have Hx := Lib.hid hx
    have hkc : wr.cell? ⟨Bk, 0, none⟩ = some (.int .i64 k) := (hb.cell (p := ⟨Bk, 0, none⟩) hSk).trans hKW
    clear hJs hb hx
    by_cases hlt : c < 2 ^ n
    · have hlen : pre.length < 65536 := by
        have e := congrArg List.length Hx.out
        have := scTo_length k c
        rw [List.length_map] at e
        omega
      have hlti : (c : Int) < (2 : Int) ^ n := by rw [Hpow.out]; omega
      have HT := Lib.hid (fun V => tonesIn_any c (by omega) V)
      have hsc := scTo_succ k c
      by_cases hcnt : (tonesL c).length = k
      · rw [if_pos hcnt] at hsc
        have Hnext := Lib.hid (show (pre ++ [(⟨c, hlt, hcnt⟩ : ScOf n k)]).map Subtype.val = scTo k (c + 1) by rw [List.map_append, Hx.out, hsc]; rfl)
        have HYx := Lib.hid (fun V hj => HY.out pre ⟨c, hlt, hcnt⟩ V hj hlen)
        have hq : ((((tonesL c).length : Nat) : Int) == (k : Int)) = true := by rw [beq_iff_eq]; omega
        generalize (tonesL c).length = tt at HT hq
        clear hsc
        gi_wp2
        refine wpIn_region_quiet_tail (ro := none) (C := fun w' => ∃ q, w' = wr.drewN q) 7 hmx (by kernel_rfl) (by kernel_rfl) ⟨1, rfl⟩ ?_
        simp only [List.take_succ_cons, List.take_zero, List.drop_succ_cons, List.drop_zero]
        repeat (go_big_quiet_step ((go_at_call 53; exact Calls.quiet_of_same ((HT.out _).mono fun e w' h => ⟨h.1, h.2.symm⟩))))
        refine wpQuiet_nil ?_
        rintro _ ⟨q, rfl⟩
        have HJq := Lib.hid (HJ.out _ _ _ none HJs.out (drewN_grown wr q) (fun r e => by cases e))
        obtain ⟨fn, tmps, assign, body, hy, hR⟩ := HYx.out (wr.drewN q) HJq.out
        have hR' := Lib.hid hR
        have Hb2 := Lib.hid (Hb.out.drewN q)
        clear hR
        show wpListIn Fence.wide _ _ _ _ _ _ _
        gi_wp2_with fail
        refine hR'.out.mono ?_
        rintro e W3 (⟨rfl, hJ3, hk3⟩ | ⟨rfl, hJx3⟩)
        · have HJ3 := Lib.hid hJ3
          have HK3 := Lib.hid hk3
          clear hJ3 hk3 hy
          gi_wp2
          go_roundw
          case rel => exact ⟨c + 1, _, by omega, by go_num, HJ3.out, Hb2.out.trans HK3.out, Hnext.out⟩
          case measure => simp only [intOf]; omega
        · have HJx3 := Lib.hid hJx3
          clear hJx3 hy
          gi_wp2
          refine bodyPost_ret (results_none rfl _ _ _) rfl ?_
          exact ⟨⟨_, rfl⟩, .inr ⟨_, trivial, HJx3.out⟩⟩
      · rw [if_neg hcnt, List.append_nil] at hsc
        have Hsc := Lib.hid hsc
        have hq : ((((tonesL c).length : Nat) : Int) == (k : Int)) = false := by rw [beq_eq_false_iff_ne]; omega
        generalize (tonesL c).length = tt at HT hq
        clear hsc hcnt
        gi_wp2
        refine wpIn_wide.2 ?_
        go_quiet ((go_at_call 53; exact Calls.quiet_of_same ((HT.out _).mono fun e w' h => ⟨h.1, h.2.symm⟩)))
        have HJq := Lib.hid (HJ.out _ _ _ none HJs.out (drewN_grown wr nq) (fun r e => by cases e))
        have Hb2 := Lib.hid (Hb.out.drewN nq)
        gi_wp2
        go_roundw
        case rel => exact ⟨c + 1, pre, by omega, by go_num, HJq.out, Hb2.out, by rw [Hx.out, Hsc.out]⟩
        case measure => simp only [intOf]; omega
    · have hcc := Lib.hid (show c = 2 ^ n by omega)
      have hlti : ¬ (c : Int) < (2 : Int) ^ n := by rw [Hpow.out]; omega
      have hfin := Lib.hid (show pre.map Subtype.val = scTo k (2 ^ n) by rw [Hx.out, hcc.out])
      clear hlt
      gi_wp2
      go_end0
      exact ⟨⟨_, rfl⟩, .inl ⟨pre, hfin.out, HJs.out⟩⟩

end Go.Proofs.YtmemnkmmjejlgaaDoor
