/-
  The reference's Round: sweep after sweep.
-/
import Derived.Test.YtibkhjbcagihbaaTrRoundRef
namespace Go.Proofs.Ytibkhjbcagihbaa
open Go.ChangeShapes Go.WideShapes Go.ChangeAt Go.RowKit Go.Shelf
set_option maxRecDepth 100000

theorem madeCells_bools (k : Nat) : madeCells #[Value.bool false] k = (List.replicate k (Value.bool false)).toArray := by
  apply Array.ext
  · rw [size_madeCells]; simp
  · intro i h1 h2
    simp [madeCells, Nat.mod_one]
theorem run_make_bools (k : Nat) (hk : k ≤ 65536) (W : World) : (Instr.makeSlice 82 (.int .i64 (k : Int)) (.int .i64 (k : Int))).run Try.prog W = .ok (.slice (some ⟨W.heap.size, 0, none⟩) k k) (W.alloc (.cells (List.replicate k (Value.bool false)).toArray 4)) := by
  rw [← madeCells_bools]
  exact run_make_row' 82 4 (.bool false) 1 Try.underlying82 (by kernel_rfl) rfl .i64 .i64 k (by omega) (by omega) W

theorem metC_none (n : Nat) : metC n (fun _ => false) = List.replicate (2 * n) (.bool false) := by
  unfold metC
  exact (List.eq_replicate_iff.2 ⟨by simp, fun x hx => by obtain ⟨_, _, rfl⟩ := List.mem_map.1 hx; rfl⟩)

/-- The Kind at block H, what is met behind it. -/
structure RSt (n a b : Nat) (w wr : World) (H : Nat) (M : Mt) : Prop where
  hH : w.heap.size = H
  row : Row wr (H + 1) 4 (metC n M)
  box : wr.heap[H]? = some (rcells n a b)
  below : Below H w wr

theorem RSt.later {n a b : Nat} {w wr w' : World} {H : Nat} {M : Mt} (h : RSt n a b w wr H M) (hb : Below wr.heap.size wr w') : RSt n a b w w' H M :=
  ⟨h.hH, h.row.later hb, (hb.block _ (Array.getElem?_eq_some_iff.1 h.box).1).trans h.box, h.below.trans (hb.mono (by rw [← h.hH]; exact h.below.size))⟩
theorem RSt.put {n a b : Nat} {w wr : World} {H : Nat} {M : Mt} (h : RSt n a b w wr H M) (t : Nat) : RSt n a b w (wr.setCell ⟨H + 1, t, none⟩ (.bool true)) H (putM M t) :=
  ⟨h.hH, by rw [← metC_set]; exact h.row.set t _, (Below.heap_setCell wr ⟨H + 1, t, none⟩ _ H (by simp)).trans h.box, h.below.setCell (p := ⟨H + 1, t, none⟩) (Nat.le_succ H) _⟩
theorem RSt.cells {n a b : Nat} {w wr : World} {H : Nat} {M : Mt} (h : RSt n a b w wr H M) : wr.cell? ⟨H, 0, none⟩ = some (.int .i64 n) ∧ wr.cell? ⟨H, 1, none⟩ = some (.int .i64 a) ∧ wr.cell? ⟨H, 2, none⟩ = some (.int .i64 b) := by
  refine ⟨?_, ?_, ?_⟩ <;> simp [World.cell?, h.box]
theorem RSt.met {n a b : Nat} {w wr : World} {H : Nat} {M : Mt} (h : RSt n a b w wr H M) {t : Nat} (ht : t < 2 * n) : wr.cell? ⟨H + 1, t, none⟩ = some (.bool (M t)) := (h.row.cell t).trans (metC_get M ht)

set_option maxHeartbeats 4000000 in
theorem RRound_any (n a b t : Nat) (hk : KOk n a b) (ht : t < 2 * n) (s : ByteArray) (hs : s.size ≤ 64) (w : World) :
    Calls Try.prog 39 #[kv n a b, .int .i64 t, .string s] w fun e w' => ∃ v, e = .returned v ∧ w'.ownsRow (w.heap.size + 2) 3 1 v (riseL n (bfs n a b t (bsN s))).length (ints (riseL n (bfs n a b t (bsN s)))) ∧ Below w.heap.size w w' := by
  have h16 := hk.h16
  have h6 := hk.h6
  obtain ⟨i0, hi, hz0, hz1, hz2⟩ := info_parts info_int
  obtain ⟨N, hN⟩ : ∃ N, 2 * n = N := ⟨_, rfl⟩
  have hmk := run_make_bools N (by omega)
  obtain ⟨H, hH⟩ : ∃ H, w.heap.size = H := ⟨_, rfl⟩
  have HSt := Lib.hid (fun t c ht hc => RStep_any n a b t c hk ht hc)
  have HLt := Lib.hid (fun t c (ht : t < 2 * n) => step_lt hk t c ht)
  obtain ⟨W0, hW0⟩ : ∃ W0, (w.alloc (rcells n a b)).alloc (.cells ((Array.replicate N (Value.bool false)).setIfInBounds t (.bool true)) 4) = W0 := ⟨_, rfl⟩
  have HS0 : Hid (RSt n a b w W0 H (fun x => x == t)) := Lib.hid (by
    have e : (Array.replicate N (Value.bool false)).setIfInBounds t (.bool true) = (metC n (fun x => x == t)).toArray := by
      apply Array.toList_inj.1
      rw [Array.toList_setIfInBounds, Array.toList_replicate, ← hN, ← metC_none, metC_set]
      show metC n (putM (fun _ => false) t) = _
      have e : putM (fun _ => false) t = fun x => x == t := by funext x; simp [putM]
      rw [e]
    refine ⟨hH, ?_, ?_, ?_⟩
    · have := Row.new (w.alloc (rcells n a b)) 4 (metC n (fun x => x == t))
      rw [World.size_alloc, hH, ← e, hW0] at this
      exact this
    · rw [← hW0, ← hH]
      exact (Below.heap_alloc _ _ _ (by simp)).trans (heap_alloc_new w _)
    · rw [← hW0, ← hH]; exact ((Below.refl _ w).alloc (Nat.le_refl _) _).alloc (by simp) _)
  have HW0 := Lib.hid (Swp.start hk ht (bsN s))
  have HStep : Hid (∀ {r u i : Nat} {M0 M : Mt}, SwpI n a b t (bsN s) r u i M0 M → u < 2 * n → ∀ hi : i < (bsN s).length, M u = true → SwpI n a b t (bsN s) r u (i + 1) M0 (putM M (stepN n a b u (bsN s)[i]))) := Lib.hid (fun h => h.step hk ht)
  have HSk : Hid (∀ {r u i : Nat} {M0 M : Mt}, SwpI n a b t (bsN s) r u i M0 M → M u = false → SwpI n a b t (bsN s) r u (i + 1) M0 M) := Lib.hid (fun h => h.skip)
  have HFi : Hid (∀ {r u i : Nat} {M0 M : Mt}, SwpI n a b t (bsN s) r u i M0 M → (bsN s).length ≤ i → SwpU n a b t (bsN s) r (u + 1) M0 M) := Lib.hid (fun h => h.fin)
  have HFu : Hid (∀ {r : Nat} {M0 M : Mt}, SwpU n a b t (bsN s) r (2 * n) M0 M → Swp n a b t (bsN s) (r + 1) M) := Lib.hid (fun h => h.fin hk ht)
  have HEnd : Hid (∀ {M : Mt}, Swp n a b t (bsN s) (2 * n) M → riseTo M (2 * n) = riseL n (bfs n a b t (bsN s))) := Lib.hid (fun h => riseTo_rise hk ht h)
  have HWe := Lib.hid hW0
  have HH := Lib.hid hH
  have HNe := Lib.hid hN
  have hmx : Try.prog.follows .mixedOrders = true := by kernel_rfl
  have hNi : (2 * (n : Int)) = (N : Int) := by omega
  have htN : t < N := by omega
  have c0 : ((w.alloc (rcells n a b)).cell? ⟨w.heap.size, 0, none⟩) = some (.int .i64 n) := by simp
  have hf0 : ((w.alloc (rcells n a b)).alloc (.cells (List.replicate N (Value.bool false)).toArray 4)).frozen? ⟨w.heap.size + 1, t, none⟩ = false := by
    have := (Row.new (w.alloc (rcells n a b)) 4 (List.replicate N (Value.bool false))).frozen t
    rwa [World.size_alloc] at this
  have hc0 : ((w.alloc (rcells n a b)).alloc (.cells (List.replicate N (Value.bool false)).toArray 4)).cell? ⟨w.heap.size + 1, t, none⟩ = some (.bool false) := by
    have := (Row.new (w.alloc (rcells n a b)) 4 (List.replicate N (Value.bool false))).cell t
    rw [World.size_alloc] at this
    rw [this]; simp [htN]
  have hls := bsN_length s
  have HBl := Lib.hid hls
  have HGt := Lib.hid (fun i hi => bsN_getElem s i hi)
  clear hH hN hk hW0 hls
  go_enter Try.func39, Try.ntmps39
  go_wp2
  rw [HWe.out, HH.out]
  clear c0 hf0 hc0 hmk
  go_loopw [22] (fun i wr => ∃ (r : Nat) (M : Mt), r ≤ N ∧ i = .int .i64 r ∧ Swp n a b t (bsN s) r M ∧ RSt n a b w wr H M) (fun i _ => N - (intOf i).toNat)
  case atStart => exact ⟨0, _, Nat.zero_le _, rfl, HW0.out, HS0.out⟩
  case round =>
    obtain ⟨r, M, hr, rfl, hsw, hst⟩ := hrel
    have HSw := Lib.hid hsw
    have HRs := Lib.hid hst
    clear hsw hst
    by_cases hrl : r < N
    · go_wp2
      go_loopw [26] (fun i wq => ∃ (u : Nat) (M2 : Mt), u ≤ N ∧ i = .int .i64 u ∧ SwpU n a b t (bsN s) r u M M2 ∧ RSt n a b w wq H M2) (fun i _ => N - (intOf i).toNat)
      case atStart => exact ⟨0, M, Nat.zero_le _, rfl, SwpU.start HSw.out, HRs.out⟩
      case round =>
        obtain ⟨u, M2, hu, rfl, hsu, hst⟩ := hrel
        have HSu := Lib.hid hsu
        have HRs2 := Lib.hid hst
        clear hsu hst
        by_cases hul : u < N
        · go_wp2
          go_loopw [31] (fun i wv => ∃ (k : Nat) (M3 : Mt), k ≤ s.size ∧ i = .int .i64 k ∧ SwpI n a b t (bsN s) r u k M M3 ∧ RSt n a b w wv H M3) (fun i _ => s.size - (intOf i).toNat)
          case atStart => exact ⟨0, M2, Nat.zero_le _, rfl, SwpI.start HSu.out, HRs2.out⟩
          case round =>
            obtain ⟨k, M3, hk', rfl, hsi, hst⟩ := hrel
            have hu2 : u < 2 * n := by have := HNe.out; omega
            by_cases hkl : k < s.size
            · have hkb : k < (bsN s).length := by rw [HBl.out]; exact hkl
              have hcm := hst.met hu2
              cases hM : M3 u
              · rw [hM] at hcm
                have HNx := Lib.hid (HSk.out hsi hM)
                have HR3 := Lib.hid hst
                clear hsi hst hM
                go_wp2
                go_roundw
                case rel => exact ⟨k + 1, M3, by omega, by go_num, HNx.out, HR3.out⟩
                case measure => simp only [intOf]; omega
              · rw [hM] at hcm
                have HNx := HStep.out hsi hu2 hkb hM
                rw [HGt.out k hkl] at HNx
                have HNx := Lib.hid HNx
                have HR3 := Lib.hid hst
                have HCall := Lib.hid (HSt.out u (s[k]'hkl).toNat hu2 (by have := UInt8.toNat_lt (s[k]'hkl); omega))
                have hv := HLt.out u (s[k]'hkl).toNat hu2
                obtain ⟨c0, c1, c2⟩ := hst.cells
                clear hsi hst hM
                generalize stepN n a b u (s[k]'hkl).toNat = v at HNx HCall hv
                have hvN : v < N := by have := HNe.out; omega
                go_wp2_with fail
                refine region_calm_tail 7 hmx (by kernel_rfl) ?_
                simp only [List.take_succ_cons, List.take_zero, List.drop_succ_cons, List.drop_zero]
                intro S hSn f hS1 hS2
                have l0 : ∀ z, (f z).cell? ⟨H, 0, none⟩ = some (.int .i64 n) := fun z => cell_later (hS1 z) c0
                have l1 : ∀ z, (f z).cell? ⟨H, 1, none⟩ = some (.int .i64 a) := fun z => cell_later (hS1 z) c1
                have l2 : ∀ z, (f z).cell? ⟨H, 2, none⟩ = some (.int .i64 b) := fun z => cell_later (hS1 z) c2
                have hC1 := Lib.hid (calm_call hS1 hS2 (fun z => HCall.out (f z)))
                repeat (go_big_quiet_step (exact hC1.out _))
                refine wpQuiet_nil ?_
                rintro _ ⟨z, rfl⟩
                have hst2 := HR3.out.later (hS1 z)
                generalize f z = w2 at hst2
                have hfr := hst2.row.frozen v
                have hcl := hst2.met hv
                have HR4 := Lib.hid (hst2.put v)
                clear l0 l1 l2 hC1 hS1 hS2 hst2 c0 c1 c2
                try dsimp only [Exit.then]
                go_wp2
                go_roundw
                case rel => exact ⟨k + 1, _, by omega, by go_num, HNx.out, HR4.out⟩
                case measure => simp only [intOf]; omega
            · have HNx := Lib.hid (HFi.out hsi (by rw [HBl.out]; omega))
              have HR3 := Lib.hid hst
              clear hsi hst
              go_wp2
              go_roundw
              case rel => exact ⟨u + 1, M3, by omega, by go_num, HNx.out, HR3.out⟩
              case measure => simp only [intOf]; omega
        · have HNx := Lib.hid (HFu.out (show SwpU n a b t (bsN s) r (2 * n) M M2 by have := HSu.out; rwa [show u = 2 * n by have := HNe.out; omega] at this))
          go_wp2
          go_roundw
          case rel => exact ⟨r + 1, M2, by omega, by go_num, HNx.out, HRs2.out⟩
          case measure => simp only [intOf]; omega
    · have HEn := Lib.hid (HEnd.out (show Swp n a b t (bsN s) (2 * n) M by have := HSw.out; rwa [show r = 2 * n by have := HNe.out; omega] at this))
      go_wp2
      go_loopw [10, 51] (fun v i wv => ∃ (k : Nat), k ≤ N ∧ i = .int .i64 k ∧ wv.ownsRow (H + 2) 3 1 v (riseTo M k).length (ints (riseTo M k)) ∧ RSt n a b w wv H M) (fun _ i _ => N - (intOf i).toNat)
      case atStart => exact ⟨0, Nat.zero_le _, rfl, World.ownsRow_nil _ _ _ _, HRs.out⟩
      case round =>
        obtain ⟨k, hk', rfl, hown, hst⟩ := hrel
        have hle := riseTo_le M k
        by_cases hkl : k < N
        · have hk2 : k < 2 * n := by have := HNe.out; omega
          have hcm := hst.met hk2
          have hsu := riseTo_succ M k
          have hHs : H + 2 ≤ wr.heap.size := by have := hst.row.lt; omega
          have HR3 := Lib.hid hst
          have HO := Lib.hid hown
          clear hst hown
          cases hM : M k
          · rw [hM] at hcm hsu
            simp only [Bool.false_eq_true, if_false, List.append_nil] at hsu
            have HSu := Lib.hid hsu
            clear hsu hM
            go_wp2
            go_roundw
            case rel => exact ⟨k + 1, by omega, by go_num, by rw [HSu.out]; exact HO.out, HR3.out⟩
            case measure => simp only [intOf]; omega
          · rw [hM] at hcm hsu
            simp only [if_true] at hsu
            have HSu := Lib.hid hsu
            clear hsu hM
            go_wp2_with (at_builtin; refine wpList_append_own _ rfl _ _ 40 rfl (H + 2) 3 i0 (.int .i64 0) 1 8 Try.underlying40 hi hz0 hz1 hz2 rfl (by decide) _ _ _ rfl (HO.out.alloc _) ⟨wr.heap.size, 0, none⟩ 1 1 [.int .i64 k] rfl rfl (cell_one_new _ _ _) (by simp [Value.oneCell']) (by unfold maxLen; omega) (by omega) (by simp; omega) ?_; intro v' w4 hown1 hgrow1 hnil1)
            go_roundw
            case rel =>
              have h1 := HR3.out.later ((Below.refl _ _).alloc (Nat.le_refl _) (.cells #[.int .i64 k] 3))
              refine ⟨k + 1, by omega, by go_num, by rw [HSu.out, List.length_append]; unfold ints at hown1 ⊢; rw [List.map_append]; exact hown1, ⟨h1.hH, h1.row.grown hgrow1 (fun e => by have := (HO.out.lt _ e.symm).1; omega), (hgrow1.block _ (Array.getElem?_eq_some_iff.1 h1.box).1 (fun e => by have := (HO.out.lt _ e.symm).1; omega)).trans h1.box, h1.below.grown hgrow1 (by have := h1.row.lt; omega) (fun q e => by have := (HO.out.lt q e).1; omega)⟩⟩
            case measure => simp only [intOf]; omega
        · have ho := hown
          rw [show k = 2 * n by have := HNe.out; omega, HEn.out] at ho
          have HO := Lib.hid ho
          have HB := Lib.hid hst.below
          clear ho hown hst
          go_wp2
          go_ret
          exact ⟨_, rfl, by rw [HH.out]; exact HO.out, by rw [HH.out]; exact HB.out⟩
end Go.Proofs.Ytibkhjbcagihbaa
