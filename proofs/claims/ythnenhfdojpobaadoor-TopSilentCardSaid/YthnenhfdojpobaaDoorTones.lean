/-
  The iterator over the tones of a chord: its contract, for every loop body; and TrailingZeros, which it calls.
-/
import Derived.Test.YthnenhfdojpobaaDoorKeep
import Derived.RangeFuncNested
import Derived.RangeFuncBound
import Derived.RangeFuncCalls
import Derived.RangeFuncLeaves
import Derived.Shelf.Abstract
import Derived.Shelf.RegionOpen
import Derived.Shelf.Spec.TrailingZeros
import Derived.OwnWalkIn
import Derived.TacticsInMore
import Derived.LoopNIn
import Derived.LoopIn
import Derived.WalkSpells
namespace Go.Proofs.YthnenhfdojpobaaDoor
open Go.RowKit Go.Shelf
attribute [local go_sem] Oper.semAt_some
set_option maxRecDepth 100000

/-- The library's table lies in its variable. -/
def Tab (w : World) : Prop := TabAt 1 Lib.deBruijn64tab w

theorem Tab.size {w : World} (h : Tab w) : 1 < w.heap.size := by
  have h0 := h 0 (by decide)
  unfold World.cell? at h0
  apply Nat.lt_of_not_le
  intro hle
  rw [Array.getElem?_eq_none (show w.heap.size ≤ (⟨1, 0, none⟩ : Addr).block from hle)] at h0
  cases h0

theorem Tab.below {B : Nat} {w w' : World} (h : Tab w) (hb : Below B w w') (hB : 1 < B) : Tab w' :=
  fun j hj => (hb.cell (p := ⟨1, j, none⟩) hB).trans (h j hj)

theorem Tab.kept {S : Nat → Prop} {w w' : World} (h : Tab w) (hb : KeptOn S w w') (hB : S 1) : Tab w' :=
  fun j hj => (hb.cell (p := ⟨1, j, none⟩) hB).trans (h j hj)

theorem Tab.same {w w' : World} (h : Tab w) (hb : Below w.heap.size w w') : Tab w' := h.below hb h.size

theorem tz64_core (x k idx : Nat) (w : World) (hx0 : ((x : Int) == 0) = false)
    (key : IntKind.u64.wrap (bits BinOp.and IntKind.u64 (x : Int) (IntKind.u64.wrap (-(x : Int))) * 285870213051353865) / 288230376151711744 = (idx : Int))
    (hi : idx < 64) (hk : k < 64) (hcell : w.cell? ⟨1, idx, none⟩ = some (.int .u8 k)) :
    Calls Tryd.prog 42 #[.int .u64 x] w fun e w' => e = .returned (.int .i64 k) ∧ w = w' := by
  go_enter Tryd.func42, Tryd.ntmps42
  go_wp2_with (simp only [key])
  go_ret
  exact ⟨rfl, rfl⟩

theorem tz_any (x : Nat) (hx : x < 18446744073709551616) (hx0 : x ≠ 0) (w : World) (hT : Tab w) :
    Calls Tryd.prog 36 #[.int .u64 x] w fun e w' => e = .returned (.int .i64 (Lib.ctz 64 x : Nat)) ∧ w = w' := by
  obtain ⟨hlow, hk⟩ := Lib.lowest_bit 64 x hx0 hx
  obtain ⟨hi, htab⟩ := Lib.deBruijn64_at _ hk
  have hcell := hT _ hi
  rw [htab] at hcell
  have h64 := tz64_core x _ _ w (by simp; omega) (tz64_key x _ hx hx0 hlow) hi hk hcell
  have H64 := Lib.hid h64
  clear h64 hcell htab hi hlow hT
  go_enter Tryd.func36, Tryd.ntmps36
  go_wp2_with (go_at_call 42; refine H64.out.mono ?_; rintro e w' ⟨rfl, rfl⟩)
  go_ret
  exact ⟨rfl, rfl⟩

theorem tones_mem {r c : Nat} {pre : List Nat} (h : tonesL c = pre ++ tonesL r) (h0 : r ≠ 0) (hr : r < 2 ^ 64) : c.testBit (Lib.ctz 64 r) = true := by
  rw [tonesL_step r h0 hr] at h
  have : Lib.ctz 64 r ∈ tonesL c := by rw [h]; simp
  exact (mem_tonesL.1 this).2

theorem bit_lt {n c t : Nat} (hc : c < 2 ^ n) (h : c.testBit t = true) : t < n := by
  apply Nat.lt_of_not_le
  intro hle
  rw [Nat.testBit_lt_two_pow (Nat.lt_of_lt_of_le hc (Nat.pow_le_pow_right (by omega) hle))] at h
  cases h

set_option maxHeartbeats 1000000 in
theorem tones1_stops (S : Nat → Prop) (k n c Bn : Nat) (hk : 1 ≤ k) (hn : n ≤ 62) (hc : c < 2 ^ n) (w : World) (hT : Tab w) (hg : S 1)
    (hBn : w.cell? ⟨Bn, 0, none⟩ = some (.int .i64 c)) :
    SeqStopsK Fence.wide k Tryd.prog 35 #[.pointer (some ⟨Bn, 0, none⟩)] (fun t : Fin n => #[.int .i64 (t.val : Int)]) (KeptOn S) (fun ys => ys.map Fin.val = tonesL c) (fun ys => ∃ r, tonesL c = ys.map Fin.val ++ r) 64 w :=
  fun l J Jx W hW hJ hJx hY h0 => by
  have hTW : Tab W := hT.same hW
  have hBW : W.cell? ⟨Bn, 0, none⟩ = some (.int .i64 c) := cell_later hW hBn
  have hc64 : c < 2 ^ 62 := Nat.lt_of_lt_of_le hc (Nat.pow_le_pow_right (by omega) hn)
  have hcw : IntKind.u64.wrap (c : Int) = c := wrap_natu c (by omega)
  clear hBn hT
  refine callsIn_of_wp Tryd.func35 rfl trivial ?_ rfl
  simp only [Tryd.ntmps35, List.size_toArray, List.length_cons, List.length_nil, Nat.reduceAdd, Nat.reduceSub, Array.replicate_succ, Array.replicate_zero, List.push_toArray, List.append_toArray, List.nil_append, List.cons_append]
  gi_wp2
  gi_loopw [3] (fun p wr => ∃ (pre : List (Fin n)) (r : Nat), p = .int .u64 r ∧ r < 2 ^ 62 ∧ tonesL c = pre.map Fin.val ++ tonesL r ∧ J pre wr ∧ KeptOn S W wr) (fun p _ => (intOf p).toNat)
  case atStart => exact ⟨[], c, rfl, hc64, by simp, h0, KeptOn.refl _ _⟩
  case round =>
    obtain ⟨pre, r, rfl, hr, hx, hJs, hb⟩ := hrel
    have hTr : Tab wr := hTW.kept hb hg
    by_cases hr0 : r = 0
    · subst hr0
      have h' : ((0 : Nat) : Int) = 0 := rfl
      rw [h']
      have hfin := Lib.hid (show pre.map Fin.val = tonesL c by rw [hx, tonesL_zero, List.append_nil])
      clear hx hcw hc64
      gi_wp2
      go_end0
      exact ⟨⟨_, rfl⟩, .inl ⟨pre, hfin.out, hJs⟩⟩
    · have h1 : ((r : Int) != 0) = true := by rw [bne_iff_ne]; omega
      have h2 : ((r : Int) == 0) = false := by rw [beq_eq_false_iff_ne]; omega
      have htz := Lib.hid (tz_any r (by omega) hr0 wr hTr)
      have hst := tonesL_step r hr0 (by omega)
      have hlt : Lib.ctz 64 r < n := bit_lt hc (tones_mem hx hr0 (by omega))
      have hlen : pre.length < 64 := by
        have e := congrArg List.length hx
        have := tonesL_length c
        rw [hst] at e
        simp at e
        omega
      have hnext := Lib.hid (show tonesL c = (pre ++ [(⟨Lib.ctz 64 r, hlt⟩ : Fin n)]).map Fin.val ++ tonesL (r &&& (r - 1)) by
        rw [hx, hst]; simp)
      have hand : Hid (bits .and .u64 (r : Int) ((r : Int) - 1) = ((r &&& (r - 1) : Nat) : Int)) := by
        have e : (r : Int) - 1 = ((r - 1 : Nat) : Int) := by omega
        rw [e]; exact andu_nat r (r - 1) (by omega) (by omega)
      have hdec : r &&& (r - 1) < r := Nat.lt_of_le_of_lt Nat.and_le_right (by omega)
      have h2' := Lib.hid h2
      clear hst hcw hx h2
      obtain ⟨fn, tmps, assign, body, hy, hR⟩ := hY pre ⟨Lib.ctz 64 r, hlt⟩ wr hJs hlen
      dsimp only at hy
      have hR' := Lib.hid hR
      clear hR
      gi_wp2_with (refine ⟨trivial, ?_⟩; gi_at_call 36; refine (callsIn_wide.2 htz.out).mono ?_; rintro e w' ⟨rfl, rfl⟩)
      refine hR'.out.mono ?_
      rintro e W3 (⟨rfl, hJ3, hk3⟩ | ⟨rfl, hJx3⟩)
      · gi_wp2
        go_roundw
        case rel => exact ⟨_, r &&& (r - 1), by rw [hand.out], by omega, hnext.out, hJ3, hb.trans hk3⟩
        case measure => simp only [intOf]; rw [hand.out]; omega
      · gi_wp2
        refine bodyPost_ret (results_none rfl _ _ _) rfl ?_
        exact ⟨⟨_, rfl⟩, .inr ⟨_, ⟨_, hnext.out⟩, hJx3⟩⟩

end Go.Proofs.YthnenhfdojpobaaDoor
