/-
  The iterator over the beats of a rhythm: its contract, told that each is a beat of it.
-/
import Derived.Test.YtbdmljakdjdjkaaDoorZaLeafA
import Derived.Test.YtbdmljakdjdjkaaDoorZaTones
namespace Go.Proofs.YtbdmljakdjdjkaaDoor.Za
open Go.RowKit Go.Shelf
attribute [local go_sem] Oper.semAt_some
set_option maxRecDepth 100000

/-- A tone of a chord, a beat of a rhythm. -/
abbrev ToneOf (n c : Nat) : Type := { t : Nat // t < n ∧ c.testBit t = true }

set_option maxHeartbeats 1000000 in
theorem tones1_stopsT (S : Nat → Prop) (k n c Bn : Nat) (hk : 1 ≤ k) (hn : n ≤ 62) (hc : c < 2 ^ n) (w : World) (hT : Tab w) (hg : S 1)
    (hBn : w.cell? ⟨Bn, 0, none⟩ = some (.int .i64 c)) :
    SeqStopsK Fence.wide k Tryd.prog 47 #[.pointer (some ⟨Bn, 0, none⟩)] (fun t : ToneOf n c => #[.int .i64 (t.val : Int)]) (KeptOn S) (fun ys => ys.map Subtype.val = tonesL c) (fun ys => ∃ r, tonesL c = ys.map Subtype.val ++ r) 64 w :=
  fun l J Jx W hW hJ hJx hY h0 => by
  have hTW : Tab W := hT.same hW
  have hBW : W.cell? ⟨Bn, 0, none⟩ = some (.int .i64 c) := cell_later hW hBn
  have hc64 : c < 2 ^ 62 := Nat.lt_of_lt_of_le hc (Nat.pow_le_pow_right (by omega) hn)
  have hcw : IntKind.u64.wrap (c : Int) = c := wrap_natu c (by omega)
  clear hBn hT
  refine callsIn_of_wp Tryd.func47 rfl trivial ?_ rfl
  simp only [Tryd.ntmps47, List.size_toArray, List.length_cons, List.length_nil, Nat.reduceAdd, Nat.reduceSub, Array.replicate_succ, Array.replicate_zero, List.push_toArray, List.append_toArray, List.nil_append, List.cons_append]
  gi_wp2
  gi_loopw [3] (fun p wr => ∃ (pre : List (ToneOf n c)) (r : Nat), p = .int .u64 r ∧ r < 2 ^ 62 ∧ tonesL c = pre.map Subtype.val ++ tonesL r ∧ J pre wr ∧ KeptOn S W wr) (fun p _ => (intOf p).toNat)
  case atStart => exact ⟨[], c, rfl, hc64, by simp, h0, KeptOn.refl _ _⟩
  case round =>
    obtain ⟨pre, r, rfl, hr, hx, hJs, hb⟩ := hrel
    have hTr : Tab wr := hTW.kept hb hg
    by_cases hr0 : r = 0
    · subst hr0
      have h' : ((0 : Nat) : Int) = 0 := rfl
      rw [h']
      have hfin := Lib.hid (show pre.map Subtype.val = tonesL c by rw [hx, tonesL_zero, List.append_nil])
      clear hx hcw hc64
      gi_wp2
      go_end0
      exact ⟨⟨_, rfl⟩, .inl ⟨pre, hfin.out, hJs⟩⟩
    · have h1 : ((r : Int) != 0) = true := by rw [bne_iff_ne]; omega
      have h2 : ((r : Int) == 0) = false := by rw [beq_eq_false_iff_ne]; omega
      have htz := Lib.hid (tz_any r (by omega) hr0 wr hTr)
      have hst := tonesL_step r hr0 (by omega)
      have htm : c.testBit (Lib.ctz 64 r) = true := tones_mem hx hr0 (by omega)
      have hlt : Lib.ctz 64 r < n := bit_lt hc htm
      have hlen : pre.length < 64 := by
        have e := congrArg List.length hx
        have := tonesL_length c
        rw [hst] at e
        simp at e
        omega
      have hnext := Lib.hid (show tonesL c = (pre ++ [(⟨Lib.ctz 64 r, hlt, htm⟩ : ToneOf n c)]).map Subtype.val ++ tonesL (r &&& (r - 1)) by
        rw [hx, hst]; simp)
      have hand : Hid (bits .and .u64 (r : Int) ((r : Int) - 1) = ((r &&& (r - 1) : Nat) : Int)) := by
        have e : (r : Int) - 1 = ((r - 1 : Nat) : Int) := by omega
        rw [e]; exact andu_nat r (r - 1) (by omega) (by omega)
      have hdec : r &&& (r - 1) < r := Nat.lt_of_le_of_lt Nat.and_le_right (by omega)
      have h2' := Lib.hid h2
      clear hst hcw hx h2
      obtain ⟨fn, tmps, assign, body, hy, hR⟩ := hY pre ⟨Lib.ctz 64 r, hlt, htm⟩ wr hJs hlen
      dsimp only at hy
      have hR' := Lib.hid hR
      clear hR
      gi_wp2_with (refine ⟨trivial, ?_⟩; gi_at_call 38; refine (callsIn_wide.2 htz.out).mono ?_; rintro e w' ⟨rfl, rfl⟩)
      refine hR'.out.mono ?_
      rintro e W3 (⟨rfl, hJ3, hk3⟩ | ⟨rfl, hJx3⟩)
      · gi_wp2
        go_roundw
        case rel => exact ⟨_, r &&& (r - 1), by rw [hand.out], by omega, hnext.out, hJ3, hb.trans hk3⟩
        case measure => simp only [intOf]; rw [hand.out]; omega
      · gi_wp2
        refine bodyPost_ret (results_none rfl _ _ _) rfl ?_
        exact ⟨⟨_, rfl⟩, .inr ⟨_, ⟨_, hnext.out⟩, hJx3⟩⟩

end Go.Proofs.YtbdmljakdjdjkaaDoor.Za
