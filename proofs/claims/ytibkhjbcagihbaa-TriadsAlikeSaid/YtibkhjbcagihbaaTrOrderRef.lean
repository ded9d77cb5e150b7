/-
  The reference's Order: a table of all triads.
-/
import Derived.Test.YtibkhjbcagihbaaTrAlikeRef
namespace Go.Proofs.Ytibkhjbcagihbaa
open Go.ChangeShapes Go.WideShapes Go.ChangeAt Go.RowKit Go.Shelf
set_option maxRecDepth 100000

theorem run_make_ints (k : Nat) (hk : k ≤ 65536) (W : World) : (Instr.makeSlice 40 (.int .i64 (k : Int)) (.int .i64 (k : Int))).run Try.prog W = .ok (.slice (some ⟨W.heap.size, 0, none⟩) k k) (W.alloc (.cells (ints (List.replicate k 0)).toArray 3)) := by
  rw [← madeCells_ints]
  exact run_make_row' 40 3 (.int .i64 0) 8 Try.underlying40 (by kernel_rfl) rfl .i64 .i64 k (by omega) (by omega) W

/-- The Kind at block H, a table at block g. -/
structure TSt (n a b : Nat) (w wr : World) (H g : Nat) (F : Nat → Nat) : Prop where
  box : wr.heap[H]? = some (rcells n a b)
  tab : Row wr g 3 (ints (tabL n F))
  below : Below w.heap.size w wr
  h1 : w.heap.size ≤ H
  h2 : H < g

theorem TSt.later {n a b : Nat} {w wr w' : World} {H g : Nat} {F : Nat → Nat} (h : TSt n a b w wr H g F) (hb : Below wr.heap.size wr w') : TSt n a b w w' H g F :=
  ⟨(hb.block _ (Array.getElem?_eq_some_iff.1 h.box).1).trans h.box, h.tab.later hb, h.below.trans (hb.mono h.below.size), h.h1, h.h2⟩
theorem TSt.cells {n a b : Nat} {w wr : World} {H g : Nat} {F : Nat → Nat} (h : TSt n a b w wr H g F) : wr.cell? ⟨H, 0, none⟩ = some (.int .i64 n) ∧ wr.cell? ⟨H, 1, none⟩ = some (.int .i64 a) ∧ wr.cell? ⟨H, 2, none⟩ = some (.int .i64 b) := by
  refine ⟨?_, ?_, ?_⟩ <;> simp [World.cell?, h.box]
theorem TSt.at {n a b : Nat} {w wr : World} {H g : Nat} {F : Nat → Nat} (h : TSt n a b w wr H g F) {t : Nat} (ht : t < 2 * n) : wr.cell? ⟨g, t, none⟩ = some (.int .i64 (F t : Nat)) := (h.tab.cell t).trans (tabL_get F ht)
theorem TSt.put {n a b : Nat} {w wr : World} {H g : Nat} {F : Nat → Nat} (h : TSt n a b w wr H g F) {u v : Nat} (G : Nat → Nat) (hu : u < 2 * n) (h1 : G u = v) (h2 : ∀ t, t ≠ u → F t = G t) :
    TSt n a b w (wr.setCell ⟨g, u, none⟩ (.int .i64 v)) H g G := by
  have k1 := h.h1
  have k2 := h.h2
  refine ⟨(Below.heap_setCell wr ⟨g, u, none⟩ _ H (by simp; omega)).trans h.box, ?_, h.below.setCell (p := ⟨g, u, none⟩) (by show w.heap.size ≤ g; omega) _, h.h1, h.h2⟩
  rw [← tabL_set F G hu h1 h2]
  exact h.tab.set _ _

set_option maxHeartbeats 4000000 in
theorem ROrder_any (n a b : Nat) (hk : KOk n a b) (s : ByteArray) (hs : s.size ≤ maxLen) (K : Nat) (hK : OrdW n a b (bsN s) K) (w : World) :
    Calls Try.prog 35 #[kv n a b, .string s] w fun e w' => e = .returned (.int .i64 K) ∧ Below w.heap.size w w' := by
  have h16 := hk.h16
  have h6 := hk.h6
  obtain ⟨N, hN⟩ : ∃ N, 2 * n = N := ⟨_, rfl⟩
  have hmk := run_make_ints N (by omega)
  have hNi : (2 * (n : Int)) = (N : Int) := by omega
  have c0 : ((w.alloc (rcells n a b)).cell? ⟨w.heap.size, 0, none⟩) = some (.int .i64 n) := by simp
  obtain ⟨H, hH⟩ : ∃ H, w.heap.size = H := ⟨_, rfl⟩
  obtain ⟨W0, hW0⟩ : ∃ W0, (w.alloc (rcells n a b)).alloc (.cells (ints (List.replicate N 0)).toArray 3) = W0 := ⟨_, rfl⟩
  have HS0 : Hid (TSt n a b w W0 H (H + 1) (fun t => if t < 0 then t else 0)) := Lib.hid (by
    refine ⟨?_, ?_, ?_, by omega, by omega⟩
    · rw [← hW0, ← hH]
      exact (Below.heap_alloc _ _ _ (by simp)).trans (heap_alloc_new w _)
    · have := Row.new (w.alloc (rcells n a b)) 3 (ints (List.replicate N 0))
      rw [World.size_alloc, hH, hW0] at this
      have e : tabL n (fun t => if t < 0 then t else 0) = List.replicate N 0 := by
        unfold tabL
        exact List.eq_replicate_iff.2 ⟨by simp; omega, fun x hx => by obtain ⟨t, _, rfl⟩ := List.mem_map.1 hx; simp⟩
      rw [e]; exact this
    · rw [← hW0]; exact ((Below.refl _ w).alloc (Nat.le_refl _) _).alloc (by simp) _)
  have HWe := Lib.hid hW0
  have HH := Lib.hid hH
  have HNe := Lib.hid hN
  have hmx : Try.prog.follows .mixedOrders = true := by kernel_rfl
  have HF := Lib.hid (fun t ht => RWalk_any n a b t hk ht s hs)
  have HLt : Hid (∀ k t, t < 2 * n → iterT n a b (bsN s) k t < 2 * n) := Lib.hid (fun k t ht => iterT_lt hk (bsN s) k ht)
  have HHm := Lib.hid (fun k => homeB_all hk (bsN s) k)
  have HHs := Lib.hid (fun k u => homeB_succ n a b (bsN s) k u)
  obtain ⟨K1, K2, K3, K4⟩ := hK
  have HK3 := Lib.hid K3
  have HK4 := Lib.hid K4
  have HSt : Hid (∀ k u, iterT n a b (bsN s) (k + 1) u = walkN n a b (iterT n a b (bsN s) k u) (bsN s)) := Lib.hid (fun k u => rfl)
  clear hW0 hH hN K3 K4 hk
  go_enter Try.func35, Try.ntmps35
  go_wp2
  rw [HWe.out, HH.out]
  clear c0 hmk
  go_loopw [16] (fun i wr => ∃ k : Nat, k ≤ N ∧ i = .int .i64 k ∧ TSt n a b w wr H (H + 1) (fun t => if t < k then t else 0)) (fun i _ => N - (intOf i).toNat)
  case atStart => exact ⟨0, Nat.zero_le _, rfl, HS0.out⟩
  case round =>
    obtain ⟨k, hk', rfl, hst⟩ := hrel
    by_cases hkl : k < N
    · have hk2 : k < 2 * n := by have := HNe.out; omega
      have hcl := hst.at hk2
      have hfr := hst.tab.frozen k
      have HS := Lib.hid (hst.put (u := k) (v := k) (fun t => if t < k + 1 then t else 0) hk2 (by simp) (fun t ht => by
        by_cases h1 : t < k
        · rw [if_pos h1, if_pos (by omega)]
        · rw [if_neg h1, if_neg (by omega)]))
      clear hst
      go_wp2
      go_roundw
      case rel => exact ⟨k + 1, by omega, by go_num, HS.out⟩
      case measure => simp only [intOf]; omega
    · have HS : Hid (TSt n a b w wr H (H + 1) (fun t => iterT n a b (bsN s) 0 t)) := Lib.hid (by
        refine ⟨hst.box, ?_, hst.below, hst.h1, hst.h2⟩
        rw [tabL_congr (G := fun t => if t < k then t else 0) (fun t ht => by
          show t = _
          rw [if_pos (by have := HNe.out; omega)])]
        exact hst.tab)
      clear hst
      go_wp2
      go_loopw [7] (fun i wq => ∃ k : Nat, k + 1 ≤ K ∧ i = .int .i64 (k + 1 : Nat) ∧ TSt n a b w wq H (H + 1) (fun t => iterT n a b (bsN s) k t)) (fun i _ => K + 1 - (intOf i).toNat)
      case atStart => exact ⟨0, K1, rfl, HS.out⟩
      case round =>
        obtain ⟨k, hkK, rfl, hst⟩ := hrel
        have HS2 : Hid (TSt n a b w wr H (H + 1) (mixF n a b (bsN s) k 0)) := Lib.hid (by
          have e : (fun t => iterT n a b (bsN s) k t) = mixF n a b (bsN s) k 0 := by funext t; unfold mixF; rw [if_neg (Nat.not_lt_zero _)]
          rw [← e]; exact hst)
        clear hst
        go_wp2
        go_loopw [8, 28] (fun hm i wv => ∃ u : Nat, u ≤ N ∧ i = .int .i64 u ∧ hm = .bool (homeB n a b (bsN s) (k + 1) u) ∧ TSt n a b w wv H (H + 1) (mixF n a b (bsN s) k u)) (fun _ i _ => N - (intOf i).toNat)
        case atStart => exact ⟨0, Nat.zero_le _, rfl, rfl, HS2.out⟩
        case round =>
          obtain ⟨u, hu', rfl, rfl, hst⟩ := hrel
          by_cases hul : u < N
          · have hu2 : u < 2 * n := by have := HNe.out; omega
            have hcl := hst.at hu2
            have e0 : mixF n a b (bsN s) k u u = iterT n a b (bsN s) k u := by unfold mixF; rw [if_neg (Nat.lt_irrefl _)]
            rw [e0] at hcl
            have hx := HLt.out k u hu2
            have hv := HLt.out (k + 1) u hu2
            have HCall := Lib.hid (HF.out _ hx)
            rw [← HSt.out] at HCall
            obtain ⟨c0, c1, c2⟩ := hst.cells
            have hhs := HHs.out (k + 1) u
            have HPut : Hid (∀ {wv : World}, TSt n a b w wv H (H + 1) (mixF n a b (bsN s) k u) → TSt n a b w (wv.setCell ⟨H + 1, u, none⟩ (.int .i64 (iterT n a b (bsN s) (k + 1) u : Nat))) H (H + 1) (mixF n a b (bsN s) k (u + 1))) := Lib.hid (fun h => h.put _ hu2 (by unfold mixF; rw [if_pos (Nat.lt_succ_self _)]) (fun t ht => by
              unfold mixF
              by_cases h1 : t < u
              · rw [if_pos h1, if_pos (by omega)]
              · rw [if_neg h1, if_neg (by omega)]))
            have HAt : Hid (∀ {wv : World}, TSt n a b w wv H (H + 1) (mixF n a b (bsN s) k (u + 1)) → wv.cell? ⟨H + 1, u, none⟩ = some (.int .i64 (iterT n a b (bsN s) (k + 1) u : Nat))) := Lib.hid (fun h => by
              have := h.at hu2
              unfold mixF at this
              rwa [if_pos (Nat.lt_succ_self _)] at this)
            have HR3 := Lib.hid hst
            have Hhs := Lib.hid hhs
            clear hst hhs e0
            generalize iterT n a b (bsN s) (k + 1) u = v at *
            generalize iterT n a b (bsN s) k u = x at *
            go_wp2_with fail
            refine region_calm_tail 9 hmx (by kernel_rfl) ?_
            simp only [List.take_succ_cons, List.take_zero, List.drop_succ_cons, List.drop_zero]
            intro S hSn f hS1 hS2
            have l0 : ∀ z, (f z).cell? ⟨H, 0, none⟩ = some (.int .i64 n) := fun z => cell_later (hS1 z) c0
            have l1 : ∀ z, (f z).cell? ⟨H, 1, none⟩ = some (.int .i64 a) := fun z => cell_later (hS1 z) c1
            have l2 : ∀ z, (f z).cell? ⟨H, 2, none⟩ = some (.int .i64 b) := fun z => cell_later (hS1 z) c2
            have l3 : ∀ z, (f z).cell? ⟨H + 1, u, none⟩ = some (.int .i64 x) := fun z => cell_later (hS1 z) hcl
            have hC1 := Lib.hid (calm_call hS1 hS2 (fun z => HCall.out (f z)))
            repeat (go_big_quiet_step (exact hC1.out _))
            refine wpQuiet_nil ?_
            rintro _ ⟨z, rfl⟩
            have hst2 := HR3.out.later (hS1 z)
            generalize f z = w2 at hst2
            have hfr := hst2.tab.frozen u
            have hcl2 := hst2.at hu2
            have hst4 := HPut.out hst2
            have hat := HAt.out hst4
            have HR4 := Lib.hid hst4
            clear l0 l1 l2 l3 hC1 hS1 hS2 hst2 hst4 c0 c1 c2 hcl
            try dsimp only [Exit.then]
            cases hb : homeB n a b (bsN s) (k + 1) u
            · have HN := Lib.hid (show homeB n a b (bsN s) (k + 1) (u + 1) = false by rw [Hhs.out, hb]; rfl)
              clear hb
              go_wp2
              go_roundw
              case rel => exact ⟨u + 1, by omega, by go_num, by rw [HN.out], HR4.out⟩
              case measure => simp only [intOf]; omega
            · by_cases he : v = u
              · have HN := Lib.hid (show homeB n a b (bsN s) (k + 1) (u + 1) = true by rw [Hhs.out, hb, he]; simp)
                have hq : ((v : Int) == (u : Int)) = true := by rw [beq_iff_eq]; omega
                clear hb he
                go_wp2
                go_roundw
                case rel => exact ⟨u + 1, by omega, by go_num, by rw [HN.out], HR4.out⟩
                case measure => simp only [intOf]; omega
              · have HN := Lib.hid (show homeB n a b (bsN s) (k + 1) (u + 1) = false by rw [Hhs.out, hb]; simp [he])
                have hq : ((v : Int) == (u : Int)) = false := by rw [beq_eq_false_iff_ne]; omega
                clear hb he
                go_wp2
                go_roundw
                case rel => exact ⟨u + 1, by omega, by go_num, by rw [HN.out], HR4.out⟩
                case measure => simp only [intOf]; omega
          · have hu2 : u = 2 * n := by have := HNe.out; omega
            subst hu2
            have hall := HHm.out (k + 1)
            cases hb : homeB n a b (bsN s) (k + 1) (2 * n)
            · rw [hb] at hall
              have hlt : k + 1 < K := by
                rcases Nat.lt_or_ge (k + 1) K with h | h
                · exact h
                · exfalso
                  have e : k + 1 = K := by omega
                  rw [e, HK3.out] at hall
                  simp at hall
              have HS5 : Hid (TSt n a b w wr H (H + 1) (fun t => iterT n a b (bsN s) (k + 1) t)) := Lib.hid (by
                refine ⟨hst.box, ?_, hst.below, hst.h1, hst.h2⟩
                rw [tabL_congr (G := mixF n a b (bsN s) k (2 * n)) (fun t ht => by unfold mixF; rw [if_pos ht])]
                exact hst.tab)
              clear hst hall
              go_wp2
              go_roundw
              case rel => exact ⟨k + 1, by omega, by go_num, HS5.out⟩
              case measure => simp only [intOf]; omega
            · rw [hb] at hall
              have hz := hall.1 rfl
              have e : Hid (k + 1 = K) := Lib.hid (by
                rcases Nat.lt_or_ge (k + 1) K with h | h
                · exact absurd hz (HK4.out (k + 1) (by omega) h)
                · omega)
              have HB := Lib.hid hst.below
              clear hst hall hz
              go_wp2
              go_ret
              exact ⟨by rw [← e.out]; rfl, HB.out⟩
end Go.Proofs.Ytibkhjbcagihbaa
