/-
  The sizes of the spans of a scale: the method that is ranged over.
-/
import Derived.Test.YtmemnkmmjejlgaaDoorSep1
import Derived.Test.YtmemnkmmjejlgaaDoorEvSum
import Derived.Test.YtmemnkmmjejlgaaDoorEvMath2
import Derived.LoopIn
import Derived.LoopNIn
import Derived.TacticsInMore
namespace Go.Proofs.YtmemnkmmjejlgaaDoor
open Go.RowKit Go.Shelf
attribute [local go_sem] Oper.semAt_some
set_option maxRecDepth 100000

/-- What is known of the tones that sizes goes over. -/
structure Spn (n K j : Nat) (ts : List Nat) : Prop where
  len : ts.length = K
  pos : 1 ≤ K
  top : K ≤ 16
  n16 : n ≤ 16
  j16 : j ≤ 16
  small : ∀ i : Nat, ts[i]?.getD 0 ≤ 16
  le : ∀ i, tN n ts i ≤ tN n ts (i + j)

theorem Spn.of {n s j : Nat} (hn : n ≤ 16) (h0 : 1 ≤ s) (hs : s < 2 ^ n) (hj : j ≤ 16) : Spn n (tonesB n s).length j (tonesB n s) where
  len := rfl
  pos := tonesB_pos hn h0 hs
  top := Nat.le_trans (tonesB_le n s) hn
  n16 := hn
  j16 := hj
  small := tones_small hn
  le i := (tN_enum (tonesB_pos hn h0 hs)).le (by omega)

set_option maxHeartbeats 2000000 in
theorem sizes_seq (n K j g cap : Nat) (ts : List Nat) (S : Nat → Prop) (hp : Spn n K j ts) (w : World) (hSg : S g) (hS : ∀ k, S k → k < w.heap.size)
    (hc : ∀ i, i < K → w.cell? ⟨g, i, none⟩ = some (.int .i64 ((ts[i]?.getD 0 : Nat) : Int))) :
    SeqSep1 Tryd.prog 52 #[.agg #[.int .i64 n, .slice (some ⟨g, 0, none⟩) K cap, .int .i64 j]] #[] (fun x : Nat => #[.int .i64 (x : Int)]) (KeptOn S) (fun xs => xs = spansL n ts j) (fun p => ∃ q, spansL n ts j = p ++ q) 64 w :=
  fun l J Jx W hb hl hJ hJx hY hj => by
  obtain ⟨hlen, hpos, htop, hn16, hj16, hsm, hle⟩ := hp
  have hcW : ∀ i, i < K → W.cell? ⟨g, i, none⟩ = some (.int .i64 ((ts[i]?.getD 0 : Nat) : Int)) := fun i hi => cell_later hb (hc i hi)
  obtain ⟨H, hH⟩ : ∃ H, W.heap.size = H := ⟨_, rfl⟩
  have hgH : g < H := by have := hS g hSg; have := hb.size; omega
  show Calls Tryd.prog 52 #[.agg #[.int .i64 n, .slice (some ⟨g, 0, none⟩) K cap, .int .i64 j], .func (.yield l) #[] #[]] W _
  refine (callsIn_wide (n := 9)).1 ?_
  refine callsIn_of_wp Tryd.func52 rfl trivial ?_ rfl
  simp only [Tryd.ntmps52, List.size_toArray, List.length_cons, List.length_nil, Nat.reduceAdd, Nat.reduceSub, Array.replicate_succ, Array.replicate_zero, List.push_toArray, List.append_toArray, List.nil_append, List.cons_append]
  gi_wp2
  obtain ⟨vs, hvs⟩ : ∃ vs : List Value, vs = [.int .i64 n, .slice (some ⟨g, 0, none⟩) K cap, .int .i64 j] := ⟨_, rfl⟩
  obtain ⟨W1, hW1⟩ : ∃ W1, W.alloc (Obj.cells #[Value.int IntKind.i64 ↑n, Value.slice (some { block := g, off := 0 }) K cap, Value.int IntKind.i64 ↑j] 50) = W1 := ⟨_, rfl⟩
  have hrow1 : Row W1 H 50 vs := by rw [← hW1, ← hH, hvs]; exact Row.new W _ _
  have hj1 : J [] (fun k => (fun _ => False) k ∨ k = H) W1 := by
    rw [← hW1]
    have j1 := hJ.take _ _ _ (.cells #[Value.int IntKind.i64 ↑n, Value.slice (some { block := g, off := 0 }) K cap, Value.int IntKind.i64 ↑j] 50) hj
    rw [hH] at j1
    exact j1
  have hb1 : Below W.heap.size W W1 := by rw [← hW1]; exact (Below.refl _ W).alloc (Nat.le_refl _) _
  have hc1 : ∀ i, i < K → W1.cell? ⟨g, i, none⟩ = some (.int .i64 ((ts[i]?.getD 0 : Nat) : Int)) := fun i hi => cell_later hb1 (hcW i hi)
  have HTake := Lib.hid (fun i h => spansL_take n ts j i h)
  have HAll : Hid (spansL n ts j = (List.range K).map (spanN n ts j)) := Lib.hid (by unfold spansL; rw [hlen])
  have HSn : Hid (∀ a, (List.range (a + 1)).map (spanN n ts j) = (List.range a).map (spanN n ts j) ++ [spanN n ts j a]) := Lib.hid (fun a => by rw [List.range_succ, List.map_append]; rfl)
  have HSp : Hid (∀ a, a < K → ((ts[(a + j) % K]?.getD 0 : Nat) : Int) + (((a + j) / K : Nat) : Int) * n - ((ts[a]?.getD 0 : Nat) : Int) = ((spanN n ts j a : Nat) : Int)) := Lib.hid (fun a ha => by
    have h1 := hle a
    unfold spanN
    rw [tN_low (show a < ts.length by omega)] at h1 ⊢
    rw [Int.ofNat_sub h1]
    unfold tN
    rw [hlen]
    simp)
  have HSm := Lib.hid hsm
  have HHH := Lib.hid hH
  have HJ := Lib.hid hJ
  have HJx := Lib.hid hJx
  have HY := Lib.hid hY
  have HVS := Lib.hid hvs
  have HLen := Lib.hid hlen
  have hle2 := hb1.size
  rw [hW1]
  clear hW1 hj hcW hc hle hsm hJ hJx hY hvs hlen hH
  gi_loopw [15] (fun i wr => ∃ a : Nat, a ≤ K ∧ i = .int .i64 a ∧ Row wr H 50 vs ∧ (∀ i, i < K → wr.cell? ⟨g, i, none⟩ = some (.int .i64 ((ts[i]?.getD 0 : Nat) : Int))) ∧ J ((List.range a).map (spanN n ts j)) (fun k => (fun _ => False) k ∨ k = H) wr) (fun i _ => K - (intOf i).toNat)
  case atStart => exact ⟨0, Nat.zero_le _, rfl, hrow1, hc1, hj1⟩
  case round =>
    obtain ⟨a, ha, rfl, hrow, hcs, hjj⟩ := hrel
    have HJJ := Lib.hid hjj
    have HCS := Lib.hid hcs
    have HROW := Lib.hid hrow
    by_cases hlt : a < K
    · have hmod : (a + j) % K < K := Nat.mod_lt _ hpos
      have ca := hcs a hlt
      have cb := hcs ((a + j) % K) hmod
      have r0 := hrow.cell 0
      have r1 := hrow.cell 1
      have r2 := hrow.cell 2
      rw [HVS.out] at r0 r1 r2
      simp only [List.getElem?_cons_zero, List.getElem?_cons_succ] at r0 r1 r2
      have hsp := HSp.out a hlt
      have s1 := HSm.out a
      have s2 := HSm.out ((a + j) % K)
      have hlenp : ((List.range a).map (spanN n ts j)).length < 64 := by simp; omega
      have htm : ((a : Int) + j).tmod K = (((a + j) % K : Nat) : Int) := by rw [Int.tmod_eq_emod_of_nonneg (by omega)]; simp
      have hqd : ((a : Int) + j) / K = (((a + j) / K : Nat) : Int) := by simp
      have hq : (a + j) / K ≤ 32 := Nat.le_trans (Nat.div_le_self _ _) (by omega)
      have hqn : (((a + j) / K : Nat) : Int) * n ≤ 512 ∧ 0 ≤ (((a + j) / K : Nat) : Int) * n := by
        have : (a + j) / K * n ≤ 32 * 16 := Nat.mul_le_mul hq hn16
        have e : (((a + j) / K : Nat) : Int) * n = (((a + j) / K * n : Nat) : Int) := by simp
        rw [e]; omega
      clear hjj hcs hrow
      generalize ts[a]?.getD 0 = x at ca s1 hsp
      generalize ts[(a + j) % K]?.getD 0 = y at cb s2 hsp
      generalize (a + j) % K = r at *
      generalize (a + j) / K = q at *
      gi_wp2
      refine wpIn_wide.2 ?_
      go_quiet (fail)
      obtain ⟨fn, tmps, assign, body, hy, hR⟩ := HY.out ((List.range a).map (spanN n ts j)) (spanN n ts j a) (fun k => (fun _ => False) k ∨ k = H) (wr.drewN nq) (HJ.out.drewN HJJ.out nq) hlenp 8
      dsimp only at hy
      have HR := Lib.hid hR
      clear hR
      gi_wp2
      refine (roundIn_wide HR.out).mono ?_
      rintro e W4 ⟨kb, kz, kp, (⟨rfl, hj4⟩ | ⟨rfl, hj4⟩)⟩
      · have HJ4 := Lib.hid hj4
        have HROW4 := Lib.hid (show Row W4 H 50 vs from (kz.block H (Or.inr rfl)).trans HROW.out)
        have HCS4 := Lib.hid (show ∀ i, i < K → W4.cell? ⟨g, i, none⟩ = some (.int .i64 ((ts[i]?.getD 0 : Nat) : Int)) from fun i hi => (kp.cell (p := ⟨g, i, none⟩) hSg).trans (HCS.out i hi))
        clear hj4 hy kz kp kb
        gi_wp2
        go_roundw
        case rel => exact ⟨a + 1, by omega, by go_num, HROW4.out, HCS4.out, by rw [HSn.out]; exact HJ4.out⟩
        case measure => simp only [intOf]; omega
      · have HJ4 := Lib.hid hj4
        clear hj4 hy kz kp kb
        gi_wp2
        refine bodyPost_ret (results_none rfl _ _ _) rfl ?_
        have hpre : ∃ q, spansL n ts j = ((List.range a).map (spanN n ts j) ++ [spanN n ts j a]) ++ q := by
          rw [← HSn.out]
          exact HTake.out (a + 1) (by rw [HLen.out]; omega)
        first
        | exact ⟨⟨_, rfl⟩, .inr ⟨_, _, hpre, HJ4.out⟩⟩
        | exact ⟨⟨_, rfl⟩, .inr ⟨_, hpre, _, HJ4.out⟩⟩
    · have hak := Lib.hid (show a = K by omega)
      clear hcs hrow hjj
      gi_wp2
      go_end0
      have hfin : (List.range a).map (spanN n ts j) = spansL n ts j := by rw [HAll.out, hak.out]
      have hjf := HJJ.out
      rw [hfin] at hjf
      first
      | exact ⟨⟨_, rfl⟩, .inl ⟨_, _, rfl, hjf⟩⟩
      | exact ⟨⟨_, rfl⟩, .inl ⟨_, hjf⟩⟩

end Go.Proofs.YtmemnkmmjejlgaaDoor
