/-
  The reference's Size counts what the search finds.
-/
import Derived.Test.YtibkhjbcagihbaaTrSizeRef
namespace Go.Proofs.Ytibkhjbcagihbaa
open Go.ChangeShapes Go.WideShapes Go.ChangeAt Go.RowKit Go.Shelf
set_option maxRecDepth 100000

/-- Part of the next table. -/
def fillF (n a b : Nat) (l : List Nat) (c u t : Nat) : Nat := if t < u then walkN n a b t (l ++ [c]) else 0
theorem walk_snoc (n a b t : Nat) (l : List Nat) (c : Nat) : walkN n a b t (l ++ [c]) = stepN n a b (walkN n a b t l) c := by rw [walk_append]; rfl

/-- The tables, the letters, and the next table, filled so far. -/
structure NSt (n a b : Nat) (w wr : World) (H lo : Nat) (v : Value) (L : St) (gs : List Nat) (G Q : Nat) (F : Nat → Nat) : Prop where
  a : ASt n a b w wr H lo v L gs
  tab : Row wr Q 3 (ints (tabL n F))
  lets : wr.heap[G]? = some letC
  s1 : Q ∉ gs
  s2 : H < Q
  s3 : v.ownBlock ≠ some Q
  s4 : G ≠ Q

theorem NSt.later {n a b : Nat} {w wr w' : World} {H lo : Nat} {v : Value} {L : St} {gs : List Nat} {G Q : Nat} {F : Nat → Nat} (h : NSt n a b w wr H lo v L gs G Q F) (hb : Below wr.heap.size wr w') : NSt n a b w w' H lo v L gs G Q F :=
  { h with
    a := h.a.later hb
    tab := h.tab.later hb
    lets := (hb.block G (Array.getElem?_eq_some_iff.1 h.lets).1).trans h.lets }
theorem NSt.put {n a b : Nat} {w wr : World} {H lo : Nat} {v : Value} {L : St} {gs : List Nat} {G Q : Nat} {F : Nat → Nat} (h : NSt n a b w wr H lo v L gs G Q F) {u x : Nat} (F' : Nat → Nat) (hu : u < 2 * n) (h1 : F' u = x) (h2 : ∀ t, t ≠ u → F t = F' t) :
    NSt n a b w (wr.setCell ⟨Q, u, none⟩ (.int .i64 x)) H lo v L gs G Q F' :=
  { h with
    a := h.a.apart h.s1 h.s2 h.s3 u _
    tab := by rw [← tabL_set F F' hu h1 h2]; exact h.tab.set _ _
    lets := (Below.heap_setCell wr ⟨Q, u, none⟩ _ G (by simp; exact h.s4)).trans h.lets }
theorem NSt.get {n a b : Nat} {w wr : World} {H lo g cap : Nat} {L : St} {gs : List Nat} {G Q : Nat} {F : Nat → Nat} (h : NSt n a b w wr H lo (.slice (some ⟨g, 0, none⟩) L.length cap) L gs G Q F) {k gp : Nat} (hk : k < L.length) (hg : gs[k]? = some gp) :
    wr.cell? ⟨g, k, none⟩ = some (.slice (some ⟨gp, 0, none⟩) (2 * n) (2 * n)) := (h.a.q.cellAt k (by omega)).trans (slc_at hg)
theorem ASt.row {n a b : Nat} {w wr : World} {H lo : Nat} {v : Value} {L : St} {gs : List Nat} (h : ASt n a b w wr H lo v L gs) {k gp : Nat} {p : Nat × List Nat} (hp : L[k]? = some p) (hg : gs[k]? = some gp) {t : Nat} (ht : t < 2 * n) :
    wr.cell? ⟨gp, t, none⟩ = some (.int .i64 (walkN n a b t p.2 : Nat)) := by
  obtain ⟨g', hg', hr⟩ := h.tabs k p hp
  rw [hg] at hg'
  cases hg'
  exact (hr.cell t).trans (tabL_get _ ht)

set_option maxHeartbeats 8000000 in
theorem RSize_any (n a b : Nat) (hk : KOk n a b) (w : World) :
    Calls Try.prog 34 #[kv n a b] w fun e w' => e = .returned (.int .i64 ((bfsA n a b 0).length : Nat)) ∧ Below w.heap.size w w' := by
  have h16 := hk.h16
  have h6 := hk.h6
  have hn0 := hk.pos
  obtain ⟨i0, hi, hz0, hz1', hz2'⟩ := info_parts info_slice
  obtain ⟨N, hN⟩ : ∃ N, 2 * n = N := ⟨_, rfl⟩
  have hmk := run_make_ints N (by omega)
  have HMk := Lib.hid hmk
  have hNi : (2 * (n : Int)) = (N : Int) := by omega
  have c0 : ((w.alloc (rcells n a b)).cell? ⟨w.heap.size, 0, none⟩) = some (.int .i64 n) := by simp
  obtain ⟨H, hH⟩ : ∃ H, w.heap.size = H := ⟨_, rfl⟩
  obtain ⟨W0, hW0⟩ : ∃ W0, (w.alloc (rcells n a b)).alloc (.cells (ints (List.replicate N 0)).toArray 3) = W0 := ⟨_, rfl⟩
  have HS0 : Hid (TSt n a b w W0 H (H + 1) (fun t => if t < 0 then t else 0)) := Lib.hid (by
    refine ⟨?_, ?_, ?_, by omega, by omega⟩
    · rw [← hW0, ← hH]
      exact (Below.heap_alloc _ _ _ (by simp)).trans (heap_alloc_new w _)
    · have := Row.new (w.alloc (rcells n a b)) 3 (ints (List.replicate N 0))
      rw [World.size_alloc, hH, hW0] at this
      have e : tabL n (fun t => if t < 0 then t else 0) = List.replicate N 0 := by
        unfold tabL
        exact List.eq_replicate_iff.2 ⟨by simp; omega, fun x hx => by obtain ⟨t, _, rfl⟩ := List.mem_map.1 hx; simp⟩
      rw [e]; exact this
    · rw [← hW0]; exact ((Below.refl _ w).alloc (Nat.le_refl _) _).alloc (by simp) _)
  have HWe := Lib.hid hW0
  have HH := Lib.hid hH
  have HNe := Lib.hid hN
  have hmx : Try.prog.follows .mixedOrders = true := by kernel_rfl
  have HStp := Lib.hid (fun t c ht hc => RStep_any n a b t c hk ht hc)
  have HLt := Lib.hid (fun l t (ht : t < 2 * n) => walk_lt hk l t ht)
  have HSame := Lib.hid (fun l m => sameTo_all hk l m)
  have HI0 := Lib.hid (BInv.start (a := a) (b := b) (show 0 < 2 * n by omega) lprL)
  have HIV : Hid (∀ (L : St) (i : Nat) (p : Nat × List Nat) (ds : List Nat), BInv n a b 0 lprL L → L[i]? = some p → (∀ c ∈ ds, c ∈ lprL) → BInv n a b 0 lprL (visit n a b ds p L)) := Lib.hid (fun L i p ds h hp hd => (BInv.visit hk ds h hp hd).1)
  clear hW0 hH hN hk
  go_enter Try.func34, Try.ntmps34
  go_wp2
  rw [HWe.out, HH.out]
  clear c0 hmk
  go_loopw [22] (fun i wr => ∃ k : Nat, k ≤ N ∧ i = .int .i64 k ∧ TSt n a b w wr H (H + 1) (fun t => if t < k then t else 0)) (fun i _ => N - (intOf i).toNat)
  case atStart => exact ⟨0, Nat.zero_le _, rfl, HS0.out⟩
  case round =>
    obtain ⟨k, hk', rfl, hst⟩ := hrel
    by_cases hkl : k < N
    · have hk2 : k < 2 * n := by have := HNe.out; omega
      have hcl := hst.at hk2
      have hfr := hst.tab.frozen k
      have HS := Lib.hid (hst.put (u := k) (v := k) (fun t => if t < k + 1 then t else 0) hk2 (by simp) (fun t ht => by
        by_cases h1 : t < k
        · rw [if_pos h1, if_pos (by omega)]
        · rw [if_neg h1, if_neg (by omega)]))
      clear hst
      go_wp2
      go_roundw
      case rel => exact ⟨k + 1, by omega, by go_num, HS.out⟩
      case measure => simp only [intOf]; omega
    · have hT : TSt n a b w wr H (H + 1) (fun t => t) := by
        refine ⟨hst.box, ?_, hst.below, hst.h1, hst.h2⟩
        rw [tabL_congr (G := fun t => if t < k then t else 0) (fun t ht => by
          show t = _
          rw [if_pos (by have := HNe.out; omega)])]
        exact hst.tab
      have hA := ASt.start hT
      rw [HNe.out] at hA
      obtain ⟨B0, hB0⟩ : ∃ B0, wr.heap.size = B0 := ⟨_, rfl⟩
      obtain ⟨W1, hW1⟩ : ∃ W1, wr.alloc (.cells #[.slice (some ⟨H + 1, 0, none⟩) N N] 40) = W1 := ⟨_, rfl⟩
      rw [hB0, hW1] at hA
      have HA := Lib.hid hA
      have HB0 := Lib.hid hB0
      have HW1 := Lib.hid hW1
      clear hst hT hA hB0 hW1
      go_wp2
      rw [HW1.out, HB0.out]
      go_loopw [5, 6] (fun v i wq => ∃ (L : St) (gs : List Nat) (k f g cap : Nat), v = .slice (some ⟨g, 0, none⟩) L.length cap ∧ i = .int .i64 k ∧ bfsGo n a b lprL f L k = bfsA n a b 0 ∧ BInv n a b 0 lprL L ∧ k ≤ L.length ∧ f + k = 2 * n ∧ ASt n a b w wq H (H + 2) v L gs) (fun _ i _ => 2 * n - (intOf i).toNat)
      case atStart => exact ⟨[(0, [])], [H + 1], 0, 2 * n, B0, 1, rfl, rfl, rfl, HI0.out, Nat.zero_le _, rfl, HA.out⟩
      case round =>
        obtain ⟨L, gs, k, f, g, cap, rfl, rfl, hgo, hinv, hkl, hf, hst⟩ := hrel
        have hL := hinv.size
        have HInv := Lib.hid hinv
        by_cases hlt : k < L.length
        · obtain ⟨p, hp⟩ : ∃ p, L[k]? = some p := ⟨_, List.getElem?_eq_getElem hlt⟩
          obtain ⟨f', rfl⟩ : ∃ f', f = f' + 1 := ⟨f - 1, by omega⟩
          rw [bfsGo_step n a b lprL f' L k p hp] at hgo
          have HGo := Lib.hid hgo
          obtain ⟨G, hG⟩ : ∃ G, wr.heap.size = G := ⟨_, rfl⟩
          obtain ⟨W3, hW3⟩ : ∃ W3, wr.alloc letC = W3 := ⟨_, rfl⟩
          have hgG : g ≠ G := by have := (hst.q.lt g rfl).2; omega
          have HS1 : Hid (ASt n a b w W3 H (H + 2) (.slice (some ⟨g, 0, none⟩) L.length cap) L gs) := Lib.hid (by rw [← hW3]; exact hst.later ((Below.refl _ wr).alloc (Nat.le_refl _) _))
          have HGc : Hid (W3.heap[G]? = some letC) := Lib.hid (by rw [← hW3, ← hG]; exact heap_alloc_new wr _)
          have HHG : Hid (H < G) := Lib.hid (by have := (Array.getElem?_eq_some_iff.1 hst.box).1; omega)
          have HG := Lib.hid hG
          have HW3 := Lib.hid (show wr.alloc (.cells #[.int .u8 76, .int .u8 80, .int .u8 82] 5 (3, 4)) = W3 from hW3)
          clear hgo hinv hst hG hW3
          have hcv := Lib.run_convert_bytes_const (P := Try.prog) wr 86 5 #[.int .u8 76, .int .u8 80, .int .u8 82] 3 3 Try.underlying86 Try.underlying5
          simp only [show (#[Value.int .u8 76, .int .u8 80, .int .u8 82] : Array Value).size = 3 from rfl] at hcv
          go_wp2
          rw [HW3.out, HG.out]
          clear hcv
          go_loopw [5, 41] (fun u j wq => ∃ (jj g2 cap2 : Nat) (gs2 : List Nat), jj ≤ 3 ∧ j = .int .i64 jj ∧ u = .slice (some ⟨g2, 0, none⟩) (visit n a b (lprL.take jj) p L).length cap2 ∧ g2 ≠ G ∧ wq.heap[G]? = some letC ∧ ASt n a b w wq H (H + 2) u (visit n a b (lprL.take jj) p L) gs2) (fun _ j _ => 3 - (intOf j).toNat)
          case atStart => exact ⟨0, g, cap, gs, by omega, rfl, rfl, hgG, HGc.out, HS1.out⟩
          case round =>
            obtain ⟨jj, g2, cap2, gs2, hj3, rfl, rfl, hg2, hlc, hst⟩ := hrel
            have hinv2 := HIV.out L k p (lprL.take jj) HInv.out hp (fun c hc => List.mem_of_mem_take hc)
            have hpre := visit_prefix n a b p (lprL.take jj) L
            have hp2 := get_mono hpre hp
            have hm2 := List.mem_of_getElem? hp2
            have hpw := hinv2.walk p hm2
            have hL2 := hinv2.size
            have hk2 := (List.getElem?_eq_some_iff.1 hp2).1
            by_cases hjl : jj < 3
            · obtain ⟨f1, f2, f3, f4⟩ := let_facts hjl
              have hlcell := let_cell hlc hjl
              have HT' := Lib.hid (show visit n a b (lprL.take (jj + 1)) p L = addL n a b p (visit n a b (lprL.take jj) p L) (letAt jj) by rw [f4, visit_snoc])
              have HWk : Hid (∀ q ∈ visit n a b (lprL.take jj) p L, walkN n a b 0 q.2 = q.1) := Lib.hid hinv2.walk
              have HTt := Lib.hid (show stepN n a b p.1 (letAt jj) = walkN n a b 0 (p.2 ++ [letAt jj]) by rw [walk_snoc, hpw])
              have hAdd : Hid (addL n a b p (visit n a b (lprL.take jj) p L) (letAt jj) = if hasK (visit n a b (lprL.take jj) p L) (stepN n a b p.1 (letAt jj)) = true then visit n a b (lprL.take jj) p L else visit n a b (lprL.take jj) p L ++ [(stepN n a b p.1 (letAt jj), p.2 ++ [letAt jj])]) := Lib.hid rfl
              have HP2 := Lib.hid hp2
              obtain ⟨gp, hgp, _⟩ := hst.tabs k p hp2
              obtain ⟨Q, hQ⟩ : ∃ Q, wr.heap.size = Q := ⟨_, rfl⟩
              obtain ⟨W4, hW4⟩ : ∃ W4, wr.alloc (.cells (ints (List.replicate N 0)).toArray 3) = W4 := ⟨_, rfl⟩
              have HN0 : Hid (NSt n a b w W4 H (H + 2) (.slice (some ⟨g2, 0, none⟩) (visit n a b (lprL.take jj) p L).length cap2) (visit n a b (lprL.take jj) p L) gs2 G Q (fillF n a b p.2 (letAt jj) 0)) := Lib.hid (by
                have hal : Below wr.heap.size wr W4 := by rw [← hW4]; exact (Below.refl _ wr).alloc (Nat.le_refl _) _
                have hlG := (Array.getElem?_eq_some_iff.1 hlc).1
                have hlH := (Array.getElem?_eq_some_iff.1 hst.box).1
                refine ⟨hst.later hal, ?_, (hal.block G hlG).trans hlc, fun hm => ?_, by omega, fun e => ?_, by omega⟩
                · have := Row.new wr 3 (ints (List.replicate N 0))
                  rw [hW4, hQ] at this
                  have e : tabL n (fillF n a b p.2 (letAt jj) 0) = List.replicate N 0 := by
                    unfold tabL
                    exact List.eq_replicate_iff.2 ⟨by simp; have := HNe.out; omega, fun x hx => by obtain ⟨t, _, rfl⟩ := List.mem_map.1 hx; simp [fillF]⟩
                  rw [e]; exact this
                · have := (hst.sep Q hm).1; omega
                · have e' : g2 = Q := Option.some.inj e
                  have := (hst.q.lt g2 rfl).2; omega)
              have HQ := Lib.hid hQ
              have HW4 := Lib.hid hW4
              have hmk := HMk.out
              have hN0 := hst.cells.1
              clear hinv2 hpre hm2 hst hlc f1 f2 f4 hp2 hpw hQ hW4
              generalize addL n a b p (visit n a b (lprL.take jj) p L) (letAt jj) = L3 at HT' hAdd
              generalize visit n a b (lprL.take jj) p L = L2 at *
              generalize stepN n a b p.1 (letAt jj) = tt at *
              generalize letAt jj = cc at *
              go_wp2
              rw [HW4.out, HQ.out]
              clear hmk hlcell hN0
              go_loopw [51] (fun i wv => ∃ u : Nat, u ≤ N ∧ i = .int .i64 u ∧ NSt n a b w wv H (H + 2) (.slice (some ⟨g2, 0, none⟩) L2.length cap2) L2 gs2 G Q (fillF n a b p.2 cc u)) (fun i _ => N - (intOf i).toNat)
              case atStart => exact ⟨0, Nat.zero_le _, rfl, HN0.out⟩
              case round =>
                obtain ⟨u, hu', rfl, hst⟩ := hrel
                by_cases hul : u < N
                · have hu2 : u < 2 * n := by have := HNe.out; omega
                  have hqk := hst.get hk2 hgp
                  rw [HNe.out] at hqk
                  have hgu := hst.a.row HP2.out hgp hu2
                  have hx := HLt.out p.2 u hu2
                  have HCall := Lib.hid (HStp.out _ cc hx f3)
                  rw [← walk_snoc] at HCall
                  obtain ⟨c0, c1, c2⟩ := hst.a.cells
                  have HPut : Hid (∀ {wv : World}, NSt n a b w wv H (H + 2) (.slice (some ⟨g2, 0, none⟩) L2.length cap2) L2 gs2 G Q (fillF n a b p.2 cc u) → NSt n a b w (wv.setCell ⟨Q, u, none⟩ (.int .i64 (walkN n a b u (p.2 ++ [cc]) : Nat))) H (H + 2) (.slice (some ⟨g2, 0, none⟩) L2.length cap2) L2 gs2 G Q (fillF n a b p.2 cc (u + 1))) := Lib.hid (fun h => h.put _ hu2 (by unfold fillF; rw [if_pos (Nat.lt_succ_self _)]) (fun t ht => by
                    unfold fillF
                    by_cases h1 : t < u
                    · rw [if_pos h1, if_pos (by omega)]
                    · rw [if_neg h1, if_neg (by omega)]))
                  have HR3 := Lib.hid hst
                  clear hst
                  generalize walkN n a b u (p.2 ++ [cc]) = y at *
                  generalize walkN n a b u p.2 = x at *
                  go_wp2_with fail
                  refine region_calm_tail 12 hmx (by kernel_rfl) ?_
                  simp only [List.take_succ_cons, List.take_zero, List.drop_succ_cons, List.drop_zero]
                  intro S hSn f hS1 hS2
                  have l0 : ∀ z, (f z).cell? ⟨H, 0, none⟩ = some (.int .i64 n) := fun z => cell_later (hS1 z) c0
                  have l1 : ∀ z, (f z).cell? ⟨H, 1, none⟩ = some (.int .i64 a) := fun z => cell_later (hS1 z) c1
                  have l2 : ∀ z, (f z).cell? ⟨H, 2, none⟩ = some (.int .i64 b) := fun z => cell_later (hS1 z) c2
                  have l3 : ∀ z, (f z).cell? ⟨g2, k, none⟩ = some (.slice (some ⟨gp, 0, none⟩) N N) := fun z => cell_later (hS1 z) hqk
                  have l4 : ∀ z, (f z).cell? ⟨gp, u, none⟩ = some (.int .i64 x) := fun z => cell_later (hS1 z) hgu
                  have hC1 := Lib.hid (calm_call hS1 hS2 (fun z => HCall.out (f z)))
                  repeat (go_big_quiet_step (exact hC1.out _))
                  refine wpQuiet_nil ?_
                  rintro _ ⟨z, rfl⟩
                  have hst2 := HR3.out.later (hS1 z)
                  generalize f z = w2 at hst2
                  have hfr := hst2.tab.frozen u
                  have hcl2 := (hst2.tab.cell u).trans (tabL_get _ hu2)
                  have HR4 := Lib.hid (HPut.out hst2)
                  clear l0 l1 l2 l3 l4 hC1 hS1 hS2 hst2 c0 c1 c2 hqk hgu
                  try dsimp only [Exit.then]
                  go_wp2
                  go_roundw
                  case rel => exact ⟨u + 1, by omega, by go_num, HR4.out⟩
                  case measure => simp only [intOf]; omega
                · have hst2 : NSt n a b w wr H (H + 2) (.slice (some ⟨g2, 0, none⟩) L2.length cap2) L2 gs2 G Q (fun t => walkN n a b t (p.2 ++ [cc])) := by
                    refine { hst with tab := ?_ }
                    rw [tabL_congr (G := fillF n a b p.2 cc u) (fun t ht => by unfold fillF; rw [if_pos (by have := HNe.out; omega)])]
                    exact hst.tab
                  have HS2 := Lib.hid hst2
                  clear hst hst2
                  go_wp2
                  go_loopw [11, 70] (fun o i wv => ∃ j : Nat, j ≤ L2.length ∧ i = .int .i64 j ∧ o = .bool (oldTo L2 tt j) ∧ NSt n a b w wv H (H + 2) (.slice (some ⟨g2, 0, none⟩) L2.length cap2) L2 gs2 G Q (fun t => walkN n a b t (p.2 ++ [cc]))) (fun _ i _ => L2.length - (intOf i).toNat)
                  case atStart => exact ⟨0, Nat.zero_le _, rfl, rfl, HS2.out⟩
                  case round =>
                    obtain ⟨j, hj', rfl, rfl, hst⟩ := hrel
                    by_cases hjL : j < L2.length
                    · obtain ⟨q, hq⟩ : ∃ q, L2[j]? = some q := ⟨_, List.getElem?_eq_getElem hjL⟩
                      obtain ⟨gq, hgq, _⟩ := hst.a.tabs j q hq
                      have hqj := hst.get hjL hgq
                      rw [HNe.out] at hqj
                      have HOs := Lib.hid (oldTo_succ hq tt)
                      have HQq : Hid (sameTo n a b q.2 (p.2 ++ [cc]) (2 * n) = (q.1 == tt)) := Lib.hid (by
                        rw [HSame.out, HWk.out q (List.mem_of_getElem? hq), ← HTt.out])
                      have HSs := Lib.hid (sameTo_succ n a b q.2 (p.2 ++ [cc]))
                      have Hqj := Lib.hid hq
                      have HSt5 := Lib.hid hst
                      clear hst hq
                      go_wp2
                      go_loopw [14, 76] (fun sm i wx => ∃ u : Nat, u ≤ N ∧ i = .int .i64 u ∧ sm = .bool (sameTo n a b q.2 (p.2 ++ [cc]) u) ∧ NSt n a b w wx H (H + 2) (.slice (some ⟨g2, 0, none⟩) L2.length cap2) L2 gs2 G Q (fun t => walkN n a b t (p.2 ++ [cc]))) (fun _ i _ => N - (intOf i).toNat)
                      case atStart => exact ⟨0, Nat.zero_le _, rfl, rfl, HSt5.out⟩
                      case round =>
                        obtain ⟨u, hu', rfl, rfl, hst⟩ := hrel
                        by_cases hul : u < N
                        · have hu2 : u < 2 * n := by have := HNe.out; omega
                          have hqu := hst.a.row Hqj.out hgq hu2
                          have hyu := (hst.tab.cell u).trans (tabL_get _ hu2)
                          have hss := HSs.out u
                          have HSt6 := Lib.hid hst
                          clear hst
                          generalize walkN n a b u (p.2 ++ [cc]) = y at *
                          generalize walkN n a b u q.2 = x at *
                          cases hb : sameTo n a b q.2 (p.2 ++ [cc]) u
                          · rw [hb] at hss
                            have HN := Lib.hid (hss.trans (Bool.false_and _))
                            clear hb hss
                            go_wp2
                            go_quiet (fail)
                            go_wp2
                            go_roundw
                            case rel => exact ⟨u + 1, by omega, by go_num, by rw [HN.out], HSt6.out.later (below_drewN (Below.refl _ _) _)⟩
                            case measure => simp only [intOf]; omega
                          · rw [hb] at hss
                            by_cases he : x = y
                            · have HN := Lib.hid (show sameTo n a b q.2 (p.2 ++ [cc]) (u + 1) = true by rw [hss, he]; simp)
                              have hq : ((x : Int) == (y : Int)) = true := by rw [beq_iff_eq]; omega
                              clear hb he hss
                              go_wp2
                              go_quiet (fail)
                              go_wp2
                              go_roundw
                              case rel => exact ⟨u + 1, by omega, by go_num, by rw [HN.out], HSt6.out.later (below_drewN (Below.refl _ _) _)⟩
                              case measure => simp only [intOf]; omega
                            · have HN := Lib.hid (show sameTo n a b q.2 (p.2 ++ [cc]) (u + 1) = false by rw [hss]; simp [he])
                              have hq : ((x : Int) == (y : Int)) = false := by rw [beq_eq_false_iff_ne]; omega
                              clear hb he hss
                              go_wp2
                              go_quiet (fail)
                              go_wp2
                              go_roundw
                              case rel => exact ⟨u + 1, by omega, by go_num, by rw [HN.out], HSt6.out.later (below_drewN (Below.refl _ _) _)⟩
                              case measure => simp only [intOf]; omega
                        · have hu2 : u = 2 * n := by have := HNe.out; omega
                          subst hu2
                          rw [HQq.out]
                          have hos := HOs.out
                          have HSt6 := Lib.hid hst
                          clear hst
                          cases ho : oldTo L2 tt j <;> cases hs : (q.1 == tt)
                          all_goals (
                            rw [ho, hs] at hos
                            have HN := Lib.hid hos
                            clear ho hs hos
                            go_wp2
                            go_roundw
                            case rel => exact ⟨j + 1, by omega, by go_num, by rw [HN.out]; rfl, HSt6.out⟩
                            case measure => simp only [intOf]; omega)
                    · rw [oldTo_all (by omega)]
                      have HSt7 := Lib.hid hst
                      clear hst
                      cases hh : hasK L2 tt
                      · have HE3 := Lib.hid (show L3 = L2 ++ [(tt, p.2 ++ [cc])] by rw [hAdd.out, hh]; rfl)
                        have hN7 := HSt7.out
                        have hqo := hN7.a.q
                        rw [HNe.out] at hqo
                        have HO := Lib.hid hqo
                        have hlH : H < wr.heap.size := (Array.getElem?_eq_some_iff.1 hN7.a.box).1
                        have hlG : G < wr.heap.size := (Array.getElem?_eq_some_iff.1 hN7.lets).1
                        have hlQ := hN7.tab.lt
                        have hl2 := hN7.s2
                        clear hh hN7 hqo
                        go_wp2_with (at_builtin; refine wpList_append_own_at _ rfl _ _ 85 rfl (H + 2) 40 i0 (.slice none 0 0) 1 24 Try.underlying85 hi hz0 hz1' hz2' rfl (by decide) _ _ _ rfl (HO.out.alloc _) ⟨wr.heap.size, 0, none⟩ 1 1 [.slice (some ⟨Q, 0, none⟩) N N] rfl rfl (cell_one_new _ _ _) (by simp [Value.oneCell']) (by unfold maxLen; omega) (by omega) (by rw [World.size_alloc]; omega) ?_; intro v' w4 hown1 hgrow1 hnil1 hob1)
                        rw [← HNe.out] at hown1
                        have HPush := Lib.hid (HSt7.out.a.push (tt, p.2 ++ [cc]) HSt7.out.s2 HSt7.out.s3 HSt7.out.tab _ hown1 hgrow1 hob1)
                        have HG4 : Hid (w4.heap[G]? = some letC) := Lib.hid (by
                          refine (hgrow1.block G (by rw [World.size_alloc]; omega) (fun e => hg2 (Option.some.inj e).symm)).trans ?_
                          exact (Below.heap_alloc _ _ G hlG).trans HSt7.out.lets)
                        obtain ⟨_, ⟨h7, h8⟩ | ⟨g4, cap4, cur4, rfl, _⟩⟩ := hown1
                        · omega
                        · have hg4 : g4 ≠ G := by
                            rcases hob1 with e | e
                            · have e' : g4 = g2 := Option.some.inj e
                              omega
                            · have e' := Option.some.inj e
                              rw [World.size_alloc] at e'
                              have e2 : g4 = wr.heap.size + 1 := e'
                              omega
                          clear hgrow1 hob1 hnil1
                          go_roundw
                          case rel => exact ⟨jj + 1, g4, cap4, gs2 ++ [Q], by omega, by go_num, by rw [HT'.out, HE3.out, List.length_append]; rfl, hg4, HG4.out, by rw [HT'.out, HE3.out]; exact HPush.out⟩
                          case measure => simp [intOf]; omega
                      · have HE3 := Lib.hid (show L3 = L2 by rw [hAdd.out, hh]; rfl)
                        clear hh
                        go_wp2
                        refine ⟨?_, by simp [intOf]; omega⟩
                        exact ⟨jj + 1, g2, cap2, gs2, by omega, by go_num, by rw [HT'.out, HE3.out], hg2, HSt7.out.lets, by rw [HT'.out, HE3.out]; exact HSt7.out.a⟩
            · obtain rfl : jj = 3 := by omega
              have e3 : lprL.take 3 = lprL := rfl
              rw [e3] at hst hinv2 hL2 hk2
              have HF1 := Lib.hid hst
              have HF2 := Lib.hid hinv2
              clear hst hinv2 hp2 hpre hm2 hlc
              simp only [e3]
              generalize visit n a b lprL p L = L2 at *
              go_wp2
              refine ⟨⟨L2, gs2, k + 1, f', g2, cap2, rfl, by go_num, HGo.out, HF2.out, by omega, by omega, HF1.out⟩, ?_⟩
              simp [intOf]; omega
        · have hgo' : L = bfsA n a b 0 := by rw [← hgo, bfsGo_end _ _ _ _ _ _ _ (by omega)]
          have HB := Lib.hid hst.below
          have HE := Lib.hid (congrArg List.length hgo')
          clear hgo hgo' hinv hst
          go_wp2
          go_ret
          exact ⟨by rw [← HE.out]; rfl, HB.out⟩
end Go.Proofs.Ytibkhjbcagihbaa
