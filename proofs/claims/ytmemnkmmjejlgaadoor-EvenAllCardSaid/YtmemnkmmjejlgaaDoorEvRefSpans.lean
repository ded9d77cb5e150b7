/-
  The spans, as the reference takes them: spans, Spans, Even, Word.
-/
import Derived.Test.YtmemnkmmjejlgaaDoorEvEven
import Derived.Test.YtmemnkmmjejlgaaDoorEqInts
namespace Go.Proofs.YtmemnkmmjejlgaaDoor
open Go.RowKit Go.Shelf
attribute [local go_sem] Oper.semAt_some
set_option maxRecDepth 100000

theorem spans_lt {n s j : Nat} (hk : 1 ≤ (tonesB n s).length) (hj : j < (tonesB n s).length) : ∀ x ∈ spansL n (tonesB n s) j, x < n := by
  intro x hx
  obtain ⟨i, _, h⟩ := mem_spansL.1 hx
  have he := tN_enum hk
  have h1 := he.lt (show i + j < i + (tonesB n s).length by omega)
  rw [he.per] at h1
  have h2 := he.le (show i ≤ i + j by omega)
  unfold spanN at h
  omega

/-- One span, as the reference reckons it. -/
theorem span_ref {n K j a : Nat} {ts : List Nat} (hlen : ts.length = K) (hle : ∀ i, tN n ts i ≤ tN n ts (i + j)) (ha : a < K) (hj : j < K) :
    (a + j < K → ((ts[(a + j) % K]?.getD 0 : Nat) : Int) - ((ts[a]?.getD 0 : Nat) : Int) = ((spanN n ts j a : Nat) : Int)) ∧
    (K ≤ a + j → ((ts[(a + j) % K]?.getD 0 : Nat) : Int) - ((ts[a]?.getD 0 : Nat) : Int) + n = ((spanN n ts j a : Nat) : Int)) := by
  have h1 := hle a
  unfold spanN
  rw [tN_low (show a < ts.length by omega)] at h1 ⊢
  rw [Int.ofNat_sub h1]
  unfold tN
  rw [hlen]
  constructor
  · intro h
    rw [Nat.div_eq_of_lt h]; simp
  · intro h
    have e : (a + j) / K = 1 := by
      rw [show a + j = (a + j - K) + K from by omega, Nat.add_div_right _ (by omega), Nat.div_eq_of_lt (by omega)]
    rw [e]; simp; omega

theorem refspans_any (n s j : Nat) (h2 : n ≤ 16) (h3 : 1 ≤ s) (h4 : s < 2 ^ n) (hj1 : 1 ≤ j) (hj2 : j < (tonesB n s).length) (w : World) :
    Calls Tryd.prog 55 #[.int .i64 n, .int .i64 s, .int .i64 j] w fun e w' => ∃ v, e = .returned v ∧ ListAt w' w.heap.size v (spansL n (tonesB n s) j) ∧ Below w.heap.size w w' := by
  obtain ⟨i0, hi, hz0, hz1, hz2⟩ := info_parts info_int
  have H := Lib.hid (refTones_any n s h2 h3 h4 w)
  have hp := Spn.of (n := n) (s := s) (j := j) h2 h3 h4 (by have := tonesB_le n s; omega)
  obtain ⟨hlen, hpos, htop, hn16, hj16, hsm, hle⟩ := hp
  generalize hts : tonesB n s = ts at *
  obtain ⟨K, hK⟩ : ∃ K, ts.length = K := ⟨_, rfl⟩
  rw [hK] at hpos htop hj2
  have HSp := Lib.hid (fun a ha => span_ref (a := a) hK hle ha hj2)
  have HSm := Lib.hid hsm
  have HAll : Hid (spansL n ts j = (List.range K).map (spanN n ts j)) := Lib.hid (by unfold spansL; rw [hK])
  have HSn : Hid (∀ a, (List.range (a + 1)).map (spanN n ts j) = (List.range a).map (spanN n ts j) ++ [spanN n ts j a]) := Lib.hid (fun a => by rw [List.range_succ, List.map_append]; rfl)
  unfold ListAt at H
  rw [hK] at H
  obtain ⟨B0, hB0⟩ : ∃ B0, w.heap.size = B0 := ⟨_, rfl⟩
  have hB0le : B0 ≤ w.heap.size := by omega
  rw [hB0] at H ⊢
  clear h3 h4 hlen hsm hle hts hK hB0
  go_enter Tryd.func55, Tryd.ntmps55
  go_wp2_with fail
  refine H.out.mono ?_
  rintro e w1 ⟨_, rfl, ⟨g, cap, rfl, hg, hcap, hc⟩, hb⟩
  have HC := Lib.hid hc
  have hbs := hb.size
  have hgl : g < w1.heap.size := by
    have := World.block_lt_of_cell? w1 _ (hc 0 hpos)
    exact this
  have HG := Lib.hid hgl
  clear hc hgl
  go_wp2
  go_loopw [8, 16] (fun v i wr => ∃ a : Nat, a ≤ K ∧ i = .int .i64 a ∧ wr.ownsRow w1.heap.size 3 1 v a (ints ((List.range a).map (spanN n ts j))) ∧ Below w1.heap.size w1 wr) (fun _ i _ => K - (intOf i).toNat)
  case atStart => exact ⟨0, Nat.zero_le _, rfl, World.ownsRow_nil _ _ _ _, Below.refl _ _⟩
  case round =>
    obtain ⟨a, ha, rfl, hown, hB⟩ := hrel
    by_cases hlt : a < K
    · have hmod : (a + j) % K < K := Nat.mod_lt _ hpos
      have ca := cell_later hB (HC.out a hlt)
      have cb := cell_later hB (HC.out ((a + j) % K) hmod)
      obtain ⟨hsp1, hsp2⟩ := HSp.out a hlt
      have s1 := HSm.out a
      have s2 := HSm.out ((a + j) % K)
      have htm : ((a : Int) + j).tmod K = (((a + j) % K : Nat) : Int) := by rw [Int.tmod_eq_emod_of_nonneg (by omega)]; simp
      have ho' := Lib.hid hown
      have hs := hB.size
      have HSa := Lib.hid (HSn.out a)
      clear hown
      generalize ts[a]?.getD 0 = x at ca s1 hsp1 hsp2
      generalize ts[(a + j) % K]?.getD 0 = y at cb s2 hsp1 hsp2
      generalize (a + j) % K = r at *
      generalize spanN n ts j a = sp at hsp1 hsp2 HSa
      by_cases hwr : K ≤ a + j
      · have hsp := hsp2 hwr
        clear hsp1 hsp2
        go_wp2
        go_quiet (fail)
        go_wp2_with (at_builtin; refine wpList_append_own _ rfl _ _ 25 rfl w1.heap.size 3 i0 (.int .i64 0) 1 8 Tryd.underlying25 hi hz0 hz1 hz2 rfl (by decide) _ _ _ rfl ((show (wr.drewN nq).ownsRow w1.heap.size 3 1 _ _ _ from ho'.out).alloc _) ⟨wr.heap.size, 0, none⟩ 1 1 [.int .i64 sp] rfl rfl (cell_one_new _ _ _) (by simp [Value.oneCell']) (by unfold maxLen; omega) (by omega) (by simp; omega) ?_; intro v' w2 hown1 hgrow1 hnil1)
        go_roundw
        case rel => exact ⟨a + 1, by omega, by go_num, by rw [HSa.out]; unfold ints at hown1 ⊢; rw [List.map_append]; exact hown1, ((below_drewN hB nq).alloc (by simp; omega) _).grown hgrow1 (by simp; omega) (fun q e => (ho'.out.lt q e).1)⟩
        case measure => simp only [intOf]; omega
      · have hsp := hsp1 (by omega)
        clear hsp1 hsp2
        go_wp2
        go_quiet (fail)
        go_wp2_with (at_builtin; refine wpList_append_own _ rfl _ _ 25 rfl w1.heap.size 3 i0 (.int .i64 0) 1 8 Tryd.underlying25 hi hz0 hz1 hz2 rfl (by decide) _ _ _ rfl ((show (wr.drewN nq).ownsRow w1.heap.size 3 1 _ _ _ from ho'.out).alloc _) ⟨wr.heap.size, 0, none⟩ 1 1 [.int .i64 sp] rfl rfl (cell_one_new _ _ _) (by simp [Value.oneCell']) (by unfold maxLen; omega) (by omega) (by simp; omega) ?_; intro v' w2 hown1 hgrow1 hnil1)
        go_roundw
        case rel => exact ⟨a + 1, by omega, by go_num, by rw [HSa.out]; unfold ints at hown1 ⊢; rw [List.map_append]; exact hown1, ((below_drewN hB nq).alloc (by simp; omega) _).grown hgrow1 (by simp; omega) (fun q e => (ho'.out.lt q e).1)⟩
        case measure => simp only [intOf]; omega
    · obtain rfl : a = K := by omega
      have hll : (spansL n ts j).length = a := by rw [HAll.out]; simp
      have hl := ListAt.of_own (xs := spansL n ts j) (by rw [hll, HAll.out]; exact hown) (by omega)
      have hl' := Lib.hid (show ListAt wr B0 _ (spansL n ts j) from by obtain ⟨g', c', e1, e2, e3, e4⟩ := hl; exact ⟨g', c', e1, by omega, e3, e4⟩)
      have hbb := hb.trans (hB.mono (by omega))
      clear hl hown hll
      go_wp2
      go_ret
      exact ⟨_, rfl, hl'.out, hbb⟩

end Go.Proofs.YtmemnkmmjejlgaaDoor
