/-
  The reference's Way and Far.
-/
import Derived.Test.YtibkhjbcagihbaaTrWaysRef
import Derived.Test.YtibkhjbcagihbaaTrFar
namespace Go.Proofs.Ytibkhjbcagihbaa
open Go.ChangeShapes Go.WideShapes Go.ChangeAt Go.RowKit Go.Shelf
set_option maxRecDepth 100000

theorem RWay_any (n a b s t : Nat) (hk : KOk n a b) (hs : s < 2 * n) (ht : t < 2 * n) (w : World) :
    Calls Try.prog 29 #[kv n a b, .int .i64 s, .int .i64 t] w fun e w' => e = .returned (wayV (lookL (bfsA n a b s) t)) ∧ Below w.heap.size w w' := by
  have HW := Lib.hid (Rways_any n a b s hk hs)
  have h16 := hk.h16
  obtain ⟨W0, hW0⟩ : ∃ W0, w.alloc (rcells n a b) = W0 := ⟨_, rfl⟩
  have b0 : Below w.heap.size w W0 := by rw [← hW0]; exact (Below.refl _ w).alloc (Nat.le_refl _) _
  have k0 : W0.cell? ⟨w.heap.size, 0, none⟩ = some (.int .i64 n) := by rw [← hW0]; simp
  have k1 : W0.cell? ⟨w.heap.size, 1, none⟩ = some (.int .i64 a) := by rw [← hW0]; simp
  have k2 : W0.cell? ⟨w.heap.size, 2, none⟩ = some (.int .i64 b) := by rw [← hW0]; simp
  have hW := Lib.hid hW0
  have hs := lookL_isSome (bfsA n a b s) t
  clear hW0
  go_enter Try.func29, Try.ntmps29
  go_wp2_with fail
  rw [hW.out]
  refine (HW.out _).mono ?_
  rintro e w1 ⟨gw, gm, rfl, hway, hmet, b1⟩
  have c1 := below_nx b0 b1
  have hm := (hmet.cell t).trans (metC_get _ ht)
  have hw := (hway.cell t).trans (wayC_get _ ht)
  clear hway hmet
  cases hl : lookL (bfsA n a b s) t with
  | none =>
    rw [hl] at hs hw
    rw [← hs] at hm
    have HL := Lib.hid hl
    have hm' : w1.cell? ⟨gm, t, none⟩ = some (.bool false) := hm
    clear hl hs hm hw
    go_wp2
    go_ret2
    exact ⟨by rw [HL.out]; rfl, c1⟩
  | some l =>
    rw [hl] at hs hw
    rw [← hs] at hm
    have HL := Lib.hid hl
    have hm' : w1.cell? ⟨gm, t, none⟩ = some (.bool true) := hm
    have hw' : w1.cell? ⟨gw, t, none⟩ = some (.string (strOf l)) := hw
    clear hl hs hm hw
    go_wp2
    go_ret2
    exact ⟨by rw [HL.out]; rfl, c1⟩

/-- The lengths, triad by triad. -/
def lensTo (L : St) (u : Nat) : List Nat := ((List.range u).filter (hasK L)).map (fun t => ((lookL L t).getD []).length)
theorem lensTo_succ (L : St) (u : Nat) : lensTo L (u + 1) = lensTo L u ++ if hasK L u = true then [((lookL L u).getD []).length] else [] := by
  unfold lensTo
  rw [List.range_succ, List.filter_append, List.map_append]
  congr 1
  by_cases h : hasK L u = true <;> simp [h]
theorem lensTo_perm {L : St} {n : Nat} (hn : (L.map Prod.fst).Nodup) (hl : ∀ p ∈ L, p.1 < 2 * n) : (lensTo L (2 * n)).Perm (lensL L) := by
  have h1 : (L.map Prod.fst).Perm ((List.range (2 * n)).filter (hasK L)) := by
    refine (List.perm_ext_iff_of_nodup hn (List.nodup_range.filter _)).2 (fun t => ?_)
    rw [List.mem_filter, List.mem_range, hasK_iff]
    constructor
    · intro h
      refine ⟨?_, h⟩
      obtain ⟨p, hp, rfl⟩ := List.mem_map.1 h
      exact hl p hp
    · exact fun h => h.2
  have h2 := h1.map (fun t => ((lookL L t).getD []).length)
  rw [List.map_map] at h2
  have e : L.map ((fun t => ((lookL L t).getD []).length) ∘ Prod.fst) = lensL L := by
    unfold lensL
    refine List.map_congr_left (fun p hp => ?_)
    show ((lookL L p.1).getD []).length = _
    rw [lookL_of_mem hn hp]; rfl
  rw [e] at h2
  exact h2.symm
theorem lensTo_le (L : St) (u : Nat) : (lensTo L u).length ≤ u := by
  unfold lensTo
  rw [List.length_map]
  exact Nat.le_trans (List.length_filter_le _ _) (by simp)
theorem lensTo_small {L : St} {n : Nat} (h : ∀ p ∈ L, p.2.length < 2 * n) (u : Nat) : topL (lensTo L u) ≤ 2 * n := by
  refine topL_le (fun l hl => ?_)
  obtain ⟨t, ht, rfl⟩ := List.mem_map.1 hl
  have hk := (List.mem_filter.1 ht).2
  rw [← lookL_isSome] at hk
  obtain ⟨l, e⟩ := Option.isSome_iff_exists.1 hk
  rw [e]
  exact h _ (lookL_some e)

/-- How the reference's count stands. -/
structure RFSt (n : Nat) (w wr : World) (gw gm lo : Nat) (L : St) (v : Value) (xs : List Nat) : Prop where
  way : Row wr gw 9 (wayC n L)
  met : Row wr gm 4 (metC n (hasK L))
  row : wr.ownsRow lo 3 1 v xs.length (ints xs)
  below : Below w.heap.size w wr
  h1 : gw < lo
  h2 : gm < lo
  h3 : w.heap.size ≤ lo
  h4 : lo ≤ wr.heap.size

theorem RFSt.grow {n : Nat} {w wr w' : World} {gw gm lo : Nat} {L : St} {v v' : Value} {xs ys : List Nat} (h : RFSt n w wr gw gm lo L v xs) (o : Obj)
    (hown : w'.ownsRow lo 3 1 v' ys.length (ints ys)) (hg : (wr.alloc o).grownBy w' v.ownBlock) : RFSt n w w' gw gm lo L v' ys := by
  have hlt : ∀ k, v.ownBlock = some k → lo ≤ k := fun k e => (h.row.lt k e).1
  have h1 := h.h1
  have h2 := h.h2
  have h3 := h.h3
  have h4 := h.h4
  refine ⟨(h.way.alloc o).grown hg (fun e => by have := hlt _ e.symm; omega), (h.met.alloc o).grown hg (fun e => by have := hlt _ e.symm; omega), hown, ?_, h1, h2, h3, ?_⟩
  · exact (h.below.alloc h.below.size o).grown hg (by have := h.below.size; simp; omega) (fun j hj => by have := hlt j hj; omega)
  · have := hg.size; rw [World.size_alloc] at this; omega

theorem RFSt.store {n : Nat} {w wr : World} {gw gm lo g cap : Nat} {L : St} {xs : List Nat} (h : RFSt n w wr gw gm lo L (.slice (some ⟨g, 0, none⟩) xs.length cap) xs) (i u : Nat) :
    RFSt n w (wr.setCell ⟨g, i, none⟩ (.int .i64 u)) gw gm lo L (.slice (some ⟨g, 0, none⟩) (xs.set i u).length cap) (xs.set i u) := by
  have hlt : lo ≤ g := (h.row.lt g rfl).1
  have h1 := h.h1
  have h2 := h.h2
  have h3 := h.h3
  have h4 := h.h4
  have hg := set_grown wr g i (.int .i64 u)
  refine ⟨h.way.grown hg (fun e => by have := Option.some.inj e; omega), h.met.grown hg (fun e => by have := Option.some.inj e; omega), ?_, h.below.grown hg h.below.size (fun j hj => by cases hj; omega), h1, h2, h3, by have := hg.size; omega⟩
  rw [List.length_set, ← ints_set]
  exact (h.row.stored i _).1

set_option maxHeartbeats 4000000 in
theorem RFar_any (n a b s : Nat) (hk : KOk n a b) (hs : s < 2 * n) (w : World) :
    Calls Try.prog 27 #[kv n a b, .int .i64 s] w fun e w' => ∃ v lo, e = .returned v ∧ w'.ownsRow lo 3 1 v (farL n a b).length (ints (farL n a b)) ∧ Below w.heap.size w w' := by
  have HW := Lib.hid (Rways_any n a b s hk hs)
  have h16 := hk.h16
  obtain ⟨i0, hi, hz0, hz1, hz2⟩ := info_parts info_int
  have HI := Lib.hid (bfs_inv hk hs lprL).1
  have HLen : Hid (∀ p ∈ bfsA n a b s, p.2.length < 2 * n) := Lib.hid (fun p hp => by
    obtain ⟨j, hj⟩ := List.getElem?_of_mem hp
    have h1 := HI.out.len j p hj
    have h2 : j < (bfs n a b s lprL).length := (List.getElem?_eq_some_iff.1 hj).1
    have h3 := HI.out.size
    omega)
  have HEnd : Hid (cntL (lensTo (bfsA n a b s) (2 * n)) = farL n a b) := Lib.hid (by
    rw [← far_from hk hs]
    exact cntL_perm (lensTo_perm HI.out.nodup HI.out.lt))
  have HSm : Hid (∀ u, topL (lensTo (bfsA n a b s) u) ≤ 2 * n) := Lib.hid (fun u => lensTo_small HLen.out u)
  clear HI
  generalize bfsA n a b s = L at HW HLen HEnd HSm
  obtain ⟨W0, hW0⟩ : ∃ W0, w.alloc (rcells n a b) = W0 := ⟨_, rfl⟩
  have b0 : Below w.heap.size w W0 := by rw [← hW0]; exact (Below.refl _ w).alloc (Nat.le_refl _) _
  have k0 : W0.cell? ⟨w.heap.size, 0, none⟩ = some (.int .i64 n) := by rw [← hW0]; simp
  have k1 : W0.cell? ⟨w.heap.size, 1, none⟩ = some (.int .i64 a) := by rw [← hW0]; simp
  have k2 : W0.cell? ⟨w.heap.size, 2, none⟩ = some (.int .i64 b) := by rw [← hW0]; simp
  have hW := Lib.hid hW0
  clear hW0
  go_enter Try.func27, Try.ntmps27
  go_wp2_with fail
  rw [hW.out]
  refine (HW.out _).mono ?_
  rintro e w1 ⟨gw, gm, rfl, hway, hmet, b1⟩
  have HS0 : Hid (RFSt n w w1 gw gm w1.heap.size L (.slice none 0 0) (cntL (lensTo L 0))) := Lib.hid ⟨hway, hmet, World.ownsRow_nil _ _ _ _, below_nx b0 b1, hway.lt, hmet.lt, (below_nx b0 b1).size, Nat.le_refl _⟩
  obtain ⟨lo, hlo⟩ : ∃ lo, w1.heap.size = lo := ⟨_, rfl⟩
  rw [hlo] at HS0
  clear hway hmet b1 k0 k1 k2 hlo
  go_wp2
  go_loopw [7, 18] (fun v i wr => ∃ u : Nat, u ≤ 2 * n ∧ i = .int .i64 u ∧ RFSt n w wr gw gm lo L v (cntL (lensTo L u))) (fun _ i _ => 2 * n - (intOf i).toNat)
  case atStart => exact ⟨0, Nat.zero_le _, rfl, HS0.out⟩
  case round =>
    obtain ⟨u, hu, rfl, hst⟩ := hrel
    have HSt := Lib.hid hst
    by_cases hul : u < 2 * n
    · have huI : (u : Int) < 2 * (n : Int) := by omega
      have hm := (hst.met.cell u).trans (metC_get _ hul)
      have hw := (hst.way.cell u).trans (wayC_get _ hul)
      have hsu := lensTo_succ L u
      have hts := HSm.out u
      have hct := lensTo_le L u
      have hlk := lookL_isSome L u
      clear hst
      cases hh : hasK L u
      · rw [hh] at hm hsu
        simp only [Bool.false_eq_true, if_false, List.append_nil] at hsu
        have HSu := Lib.hid hsu
        clear hsu hh hlk
        go_wp2
        go_loopw [7] (fun v wq => RFSt n w wq gw gm lo L v (cntL (lensTo L u))) (fun _ _ => 0)
        case atStart => exact HSt.out
        case round =>
          have HSt2 := Lib.hid hrel
          clear hrel
          go_wp2
          go_roundw
          case rel => exact ⟨u + 1, by omega, by go_num, by rw [HSu.out]; exact HSt2.out⟩
          case measure => simp only [intOf]; omega
      · rw [hh] at hm hsu
        simp only [if_true] at hsu
        have hgetl : ((lookL L u).getD []).length < 2 * n := by
          rw [hh] at hlk
          obtain ⟨l, e⟩ := Option.isSome_iff_exists.1 hlk
          rw [e]
          exact HLen.out _ (lookL_some e)
        have hwg : Hid (∀ {wq : World} {v : Value} {xs : List Nat}, RFSt n w wq gw gm lo L v xs → wq.cell? ⟨gw, u, none⟩ = some (.string (strOf ((lookL L u).getD [])))) := Lib.hid (fun h => (h.way.cell u).trans (wayC_get _ hul))
        have hsz := strOf_size ((lookL L u).getD [])
        generalize (lookL L u).getD [] = l0 at *
        have HC := Lib.hid hsu
        have HDs := Lib.hid hct
        have HTs := Lib.hid hts
        generalize lensTo L u = ds at *
        generalize hl : l0.length = l at *
        unfold cntL at HSt
        clear hsu hct hts hh hlk hw hl
        go_wp2
        go_loopw [7] (fun v wq => ∃ m ad cap, v = .slice ad m cap ∧ topL ds ≤ m ∧ m ≤ max (topL ds) (l + 1) ∧ RFSt n w wq gw gm lo L v (cntU m ds)) (fun v _ => l + 1 - lenV v)
        case atStart =>
          obtain ⟨ad, cap, e⟩ := own_slice HSt.out.row
          rw [cntU_length] at e
          exact ⟨_, ad, cap, e, Nat.le_refl _, by omega, HSt.out⟩
        case round =>
          obtain ⟨m, ad, cap, rfl, hm1, hm2, hst⟩ := hrel
          have hwc := hwg.out hst
          have HSt := Lib.hid hst
          have hml2 : m ≤ 2 * n := by have := HTs.out; omega
          have hlo := hst.h4
          clear hst
          by_cases hml : m ≤ l
          · have HO := Lib.hid HSt.out.row
            have hlen := cntU_length m ds
            have HP := Lib.hid (cntU_pad hm1)
            generalize cntU m ds = xs at *
            go_wp2_with (at_builtin; refine wpList_append_own _ rfl _ _ 40 rfl lo 3 i0 (.int .i64 0) 1 8 Try.underlying40 hi hz0 hz1 hz2 rfl (by decide) _ _ _ rfl (HO.out.alloc _) ⟨wr.heap.size, 0, none⟩ 1 1 [.int .i64 0] rfl rfl (cell_one_new _ _ _) (by simp [Value.oneCell']) (by unfold maxLen; omega) (by omega) (by simp; omega) ?_; intro v' w4 hown1 hgrow1 hnil1)
            go_roundw
            case rel =>
              obtain ⟨ad', cap', e⟩ := own_slice hown1
              refine ⟨m + 1, ad', cap', by rw [e, hlen], by omega, by omega, ?_⟩
              refine HSt.out.grow _ ?_ hgrow1
              rw [HP.out, List.length_append]
              unfold ints at hown1 ⊢
              rw [List.map_append]
              exact hown1
            case measure =>
              obtain ⟨ad', cap', e⟩ := own_slice hown1
              rw [e, hlen]
              show l + 1 - (m + 1) < l + 1 - m
              omega
          · have hmx : m = max (topL ds) (l + 1) := by omega
            obtain ⟨_, ⟨h1, h2⟩ | ⟨g, cap2, cur, hv, _⟩⟩ := HSt.out.row
            · rw [cntU_length] at h2; omega
            · simp only [Value.slice.injEq] at hv
              obtain ⟨rfl, -, rfl⟩ := hv
              have hst := HSt.out
              have hlm : l < m := by omega
              have hrow := hst.row
              have hlen := cntU_length m ds
              rw [hlen] at hrow
              have hcl := (hrow.cellAt l (by omega)).trans (ints_at (xs := cntU m ds) (by rw [hlen]; exact hlm))
              have hfr := hrow.frozenAt l
              rw [cntU_get ds hlm, Option.getD_some] at hcl
              have hst' : RFSt n w wr gw gm lo L (.slice (some ⟨g, 0, none⟩) (cntU m ds).length cap) (cntU m ds) := by rw [hlen]; exact hst
              have hS2 := hst'.store l (ds.count l + 1)
              rw [cntU_set ds hlm] at hS2
              have hct : ds.count l ≤ u := Nat.le_trans List.count_le_length HDs.out
              have HS2 := Lib.hid hS2
              have HE := Lib.hid (show cntU m (ds ++ [l]) = cntL (lensTo L (u + 1)) by rw [HC.out]; unfold cntL; rw [topL_snoc, ← hmx])
              generalize ds.count l = cc at hcl hct HS2
              clear hst hrow hst' hS2
              go_wp2
              go_roundw
              case rel =>
                refine ⟨u + 1, by omega, by go_num, ?_⟩
                rw [← HE.out]
                have h3 := HS2.out
                rw [cntU_length] at h3
                exact h3
              case measure => simp only [intOf]; omega
    · obtain rfl : u = 2 * n := by omega
      rw [HEnd.out] at hst
      have HF := Lib.hid hst
      clear hst
      go_wp2
      go_ret
      exact ⟨_, lo, rfl, HF.out.row, HF.out.below⟩
end Go.Proofs.Ytibkhjbcagihbaa
