/-
  The reference's Tour.
-/
import Derived.Test.YtibkhjbcagihbaaTrNode
namespace Go.Proofs.Ytibkhjbcagihbaa
open Go.ChangeShapes Go.WideShapes Go.ChangeAt Go.RowKit Go.Shelf
set_option maxRecDepth 100000

theorem visT_put (n a b : Nat) (l : List Nat) (i : Nat) : putM (fun x => decide (x ∈ visT n a b l i)) (seqT n a b l i) = fun x => decide (x ∈ visT n a b l (i + 1)) := by
  funext x
  unfold putM
  rw [visT_succ, Bool.eq_iff_iff, Bool.or_eq_true, beq_iff_eq, decide_eq_true_eq, decide_eq_true_eq, List.mem_append, List.mem_singleton]
  exact Or.comm

set_option maxHeartbeats 4000000 in
theorem RTour_any (n a b : Nat) (hk : KOk n a b) (s : ByteArray) (hs : s.size ≤ 1000) (w : World) :
    Calls Try.prog 43 #[kv n a b, .string s] w fun e w' => e = .returned (.bool (tourB n a b (bsN s))) ∧ Below w.heap.size w w' := by
  have h16 := hk.h16
  have h6 := hk.h6
  have hbl := bsN_length s
  by_cases h0 : 0 < s.size
  · obtain ⟨N, hN⟩ : ∃ N, 2 * n = N := ⟨_, rfl⟩
    have hmk := run_make_bools N (by omega)
    have hNi : (2 * (n : Int)) = (N : Int) := by omega
    have c0 : ((w.alloc (rcells n a b)).cell? ⟨w.heap.size, 0, none⟩) = some (.int .i64 n) := by simp
    obtain ⟨H, hH⟩ : ∃ H, w.heap.size = H := ⟨_, rfl⟩
    obtain ⟨W0, hW0⟩ : ∃ W0, (w.alloc (rcells n a b)).alloc (.cells (Array.replicate N (Value.bool false)) 4) = W0 := ⟨_, rfl⟩
    have hS0 : RSt n a b w W0 H (fun x => decide (x ∈ visT n a b (bsN s) 0)) := by
      refine ⟨hH, ?_, ?_, ?_⟩
      · have := Row.new (w.alloc (rcells n a b)) 4 (List.replicate N (Value.bool false))
        rw [World.size_alloc, List.toArray_replicate, hH, hW0, ← hN, ← metC_none] at this
        have e : (fun x => decide (x ∈ visT n a b (bsN s) 0)) = fun _ : Nat => false := by funext x; simp [visT]
        rw [e]; exact this
      · rw [← hW0, ← hH]
        exact (Below.heap_alloc _ _ _ (by simp)).trans (heap_alloc_new w _)
      · rw [← hW0, ← hH]; exact ((Below.refl _ w).alloc (Nat.le_refl _) _).alloc (by simp) _
    have HS0 := Lib.hid hS0
    have HWe := Lib.hid hW0
    have HH := Lib.hid hH
    have HNe := Lib.hid hN
    have hmx : Try.prog.follows .mixedOrders = true := by kernel_rfl
    have HSt := Lib.hid (fun t c ht hc => RStep_any n a b t c hk ht hc)
    have HLt := Lib.hid (fun i => seqT_lt hk (bsN s) i)
    have HSq : Hid (∀ i (hi : i % s.size < s.size), seqT n a b (bsN s) (i + 1) = stepN n a b (seqT n a b (bsN s) i) (s[i % s.size]'hi).toNat) := Lib.hid (fun i hi => by
      show stepN n a b _ ((bsN s)[i % (bsN s).length]?.getD 0) = _
      congr 1
      rw [show (bsN s).length = s.size from bsN_length s, List.getElem?_eq_getElem (by rw [bsN_length]; exact hi), Option.getD_some, bsN_getElem s _ hi])
    have HPt := Lib.hid (fun i => visT_put n a b (bsN s) i)
    have HStop : Hid (∀ {m : Nat}, (visT n a b (bsN s) m).Nodup → seqT n a b (bsN s) m ∈ visT n a b (bsN s) m → tourB n a b (bsN s) = (decide (seqT n a b (bsN s) m = 0) && decide (m = 2 * n))) := Lib.hid (fun h1 h2 => tour_stop hk (by rw [bsN_length]; exact h0) h1 h2)
    have HEnd : Hid ((visT n a b (bsN s) (2 * n)).Nodup → tourB n a b (bsN s) = decide (seqT n a b (bsN s) (2 * n) = 0)) := Lib.hid (fun h => by
      unfold tourB
      rw [decide_eq_true (show 0 < (bsN s).length by rw [bsN_length]; exact h0), decide_eq_true h]; simp)
    have HSu := Lib.hid (fun i => visT_succ n a b (bsN s) i)
    have hne := nonempty_list h0
    clear hS0 hW0 hH hN hk
    go_enter Try.func43, Try.ntmps43
    go_wp2
    rw [HWe.out, HH.out]
    clear c0 hmk
    go_loopw [6, 17] (fun t i wr => ∃ k : Nat, k ≤ N ∧ i = .int .i64 k ∧ t = .int .i64 (seqT n a b (bsN s) k : Nat) ∧ (visT n a b (bsN s) k).Nodup ∧ RSt n a b w wr H (fun x => decide (x ∈ visT n a b (bsN s) k))) (fun _ i _ => N - (intOf i).toNat)
    case atStart => exact ⟨0, Nat.zero_le _, rfl, rfl, by simp [visT], HS0.out⟩
    case round =>
      obtain ⟨k, hk', rfl, rfl, hnd, hst⟩ := hrel
      have hsl := HLt.out k
      by_cases hkl : k < N
      · have hcm := hst.met hsl
        have hk2 : k < 2 * n := by have := HNe.out; omega
        have hslN : seqT n a b (bsN s) k < N := by have := HNe.out; omega
        by_cases hmem : seqT n a b (bsN s) k ∈ visT n a b (bsN s) k
        · have HS := Lib.hid (HStop.out hnd hmem)
          rw [decide_eq_true hmem] at hcm
          have HB := Lib.hid hst.below
          clear hst hnd hmem
          generalize seqT n a b (bsN s) k = t at *
          go_wp2
          go_ret
          exact ⟨ret_bool (by rw [HS.out, decide_eq_false (show ¬ k = 2 * n by omega), Bool.and_false]), by rw [HH.out]; exact HB.out⟩
        · have hfr := hst.row.frozen (seqT n a b (bsN s) k)
          rw [decide_eq_false hmem] at hcm
          have hpt := HPt.out k
          have hR2 := hst.put (seqT n a b (bsN s) k)
          rw [hpt] at hR2
          have HNd : Hid ((visT n a b (bsN s) (k + 1)).Nodup) := Lib.hid (by
            rw [HSu.out, List.nodup_append]
            refine ⟨hnd, by simp, ?_⟩
            intro x hx y hy e
            rw [List.mem_singleton] at hy
            exact hmem (by rw [← hy, ← e]; exact hx))
          have hmod : k % s.size < s.size := Nat.mod_lt _ h0
          have HQ := Lib.hid (HSq.out k hmod)
          have hlt2 := HLt.out (k + 1)
          have HCallJ : ∀ (j : Nat) (hj : j < s.size), k % s.size = j → Hid (∀ W, Calls Try.prog 52 #[kv n a b, .int .i64 (seqT n a b (bsN s) k : Nat), .int .u8 (s[j]'hj).toNat] W fun e w' => e = .returned (.int .i64 (seqT n a b (bsN s) (k + 1) : Nat)) ∧ Below W.heap.size W w') := by
            rintro j hj rfl
            have := HSt.out (seqT n a b (bsN s) k) (s[k % s.size]'hmod).toNat hsl (by have := UInt8.toNat_lt (s[k % s.size]'hmod); omega)
            rw [← HQ.out] at this
            exact Lib.hid this
          have HR2 := Lib.hid hR2
          have hrm : ((k : Int)).tmod (s.size : Int) = ((k % s.size : Nat) : Int) := by rw [Int.tmod_eq_emod_of_nonneg (by omega)]; simp
          clear hst hnd hmem hpt hR2 HQ
          generalize hte : seqT n a b (bsN s) (k + 1) = t' at *
          have HTe := Lib.hid hte
          clear hte
          generalize seqT n a b (bsN s) k = t at *
          obtain ⟨j, hj⟩ : ∃ j, k % s.size = j := ⟨_, rfl⟩
          have hjs : j < s.size := by rw [← hj]; exact hmod
          have HCall := HCallJ j hjs hj
          rw [hj] at hrm
          clear hmod HCallJ
          have hwr : IntKind.i64.wrap ((k : Int).tmod (s.size : Int)) = (j : Int) := by rw [hrm, IntKind.wrap_i64]; omega
          have hnz : ((s.size : Int) == 0) = false := by rw [beq_eq_false_iff_ne]; omega
          clear hj
          go_wp2_with fail
          obtain ⟨c0, c1, c2⟩ := HR2.out.cells
          refine region_calm hmx (by kernel_rfl) ?_
          intro S hSn f hS1 hS2
          have l0 : ∀ z, (f z).cell? ⟨H, 0, none⟩ = some (.int .i64 n) := fun z => cell_later (hS1 z) c0
          have l1 : ∀ z, (f z).cell? ⟨H, 1, none⟩ = some (.int .i64 a) := fun z => cell_later (hS1 z) c1
          have l2 : ∀ z, (f z).cell? ⟨H, 2, none⟩ = some (.int .i64 b) := fun z => cell_later (hS1 z) c2
          have hC1 := Lib.hid (calm_call hS1 hS2 (fun z => HCall.out (f z)))
          repeat (go_big_quiet_step (exact hC1.out _))
          refine wpQuiet_nil ?_
          rintro _ ⟨z, rfl⟩
          have HR3 := Lib.hid (HR2.out.later (hS1 z))
          generalize f z = w2 at HR3
          clear l0 l1 l2 hC1 hS1 hS2 c0 c1 c2
          try dsimp only [Exit.then]
          go_wp2
          go_roundw
          case rel => exact ⟨k + 1, by omega, by go_num, by rw [HTe.out], HNd.out, HR3.out⟩
          case measure => simp only [intOf]; omega
      · have hk2 : k = 2 * n := by have := HNe.out; omega
        subst hk2
        have HE := Lib.hid (HEnd.out hnd)
        have HB := Lib.hid hst.below
        clear hst hnd
        by_cases hz : seqT n a b (bsN s) (2 * n) = 0
        · rw [hz, decide_eq_true (rfl : (0 : Nat) = 0)] at HE
          rw [hz]
          clear hz hsl
          go_wp2
          go_ret
          exact ⟨ret_bool HE.out.symm, by rw [HH.out]; exact HB.out⟩
        · rw [decide_eq_false hz] at HE
          generalize seqT n a b (bsN s) (2 * n) = t at *
          have hq : ((t : Int) == 0) = false := by rw [beq_eq_false_iff_ne]; omega
          clear hz
          go_wp2
          go_ret
          exact ⟨ret_bool HE.out.symm, by rw [HH.out]; exact HB.out⟩
  · have e := empty_of_size (show s.size = 0 by omega)
    subst e
    have HE := Lib.hid (show tourB n a b (bsN ⟨#[]⟩) = false from rfl)
    have hal := Lib.hid ((Below.refl w.heap.size w).alloc (Nat.le_refl _) (rcells n a b))
    go_enter Try.func43, Try.ntmps43
    go_wp2
    go_ret
    exact ⟨ret_bool HE.out.symm, hal.out⟩
end Go.Proofs.Ytibkhjbcagihbaa
