/-
  The walk of the statement on Prime and Class.
-/
import Derived.Test.YtehjdhegnpmfaaaDoorRefClass
import Derived.Test.YtehjdhegnpmfaaaDoorEqInts
namespace Go.Proofs.YtehjdhegnpmfaaaDoor
open Go.RowKit Go.Shelf
attribute [local go_sem] Oper.semAt_some
set_option maxRecDepth 100000

theorem clsN_some {n c : Nat} (hn : 2 ≤ n) : 0 < (clsN n c).length := by
  have h : mvN n c 0 ∈ clsN n c := by
    unfold clsN
    refine List.mem_filter.2 ⟨List.mem_range.2 mv_lt, ?_⟩
    rw [decide_eq_true_eq]
    unfold imgs imgOf
    exact List.mem_append_left _ (List.mem_map.2 ⟨0, List.mem_range.2 (by omega), rfl⟩)
  exact List.length_pos_of_mem h
theorem clsN_length (n c : Nat) : (clsN n c).length ≤ 2 ^ n := clsTo_length n c (2 ^ n)

theorem ChordsPrimes_walk (n c : Int) (_w0 : (Lit.int .i64 n).wf = true) (_w1 : (Lit.int .i64 c).wf = true) (w : World) (hT : Tab w) :
    Calls Tryd.prog 5 #[.int .i64 n, .int .i64 c] w fun e w' => e = .returned (.bool true) ∧ Below w.heap.size w w' := by
  have HVa := Lib.hid (Valid_any n c)
  obtain ⟨p, hv⟩ : ∃ p, vldB n c = p := ⟨_, rfl⟩
  rw [hv] at HVa
  cases p
  · have H1 := Lib.hid (Prime_bad n c hv)
    have H2 := Lib.hid (Class_bad n c hv)
    clear hv hT
    go_enter Tryd.func5, Tryd.ntmps5
    go_wp2_with fail
    refine (H1.out _).mono ?_
    rintro e w1 ⟨rfl, bl1⟩
    go_wp2_with fail
    refine (H2.out _).mono ?_
    rintro e w2 ⟨rfl, bl2⟩
    go_wp2_with fail
    refine (HVa.out _).mono ?_
    rintro e w4 ⟨rfl, rfl⟩
    go_wp2_with fail
    refine (awake_any _).mono ?_
    rintro e w5 ⟨rfl, b5⟩
    go_wp2
    go_ret
    exact ⟨rfl, below_next (below_next bl1 bl2) b5⟩
  obtain ⟨n, c, rfl, rfl, h1, h2, h3⟩ := vldB_nat hv
  have H1 := Lib.hid (Prime_ok n c h1 h2 h3)
  have H2 := Lib.hid (Class_ok n c h1 h2 h3)
  have R1 := Lib.hid (refPrime_any n c h1 h2 h3)
  have R2 := Lib.hid (refClass_any n c h1 h2 h3)
  have hl0 := clsN_some (n := n) (c := c) h1
  have hl1 := clsN_length n c
  have hn2 : 2 ^ n ≤ 2 ^ 16 := Nat.pow_le_pow_right (by omega) h2
  generalize clsN n c = xs at H2 R2 hl0 hl1
  generalize primeN n c = pr at H1 R1
  have HE := Lib.hid (fun b1 b2 c1 c2 V r1 r2 => EqualInts_same xs b1 b2 c1 c2 V (by omega) r1 r2)
  have hlx : xs.length ≤ 65536 := by omega
  clear hv h3 hl1 hn2
  go_enter Tryd.func5, Tryd.ntmps5
  go_wp2_with fail
  refine (H1.out _ hT).mono ?_
  rintro e w1 ⟨rfl, bl1⟩
  have t1 := hT.same bl1
  go_wp2_with fail
  refine (H2.out _ t1).mono ?_
  rintro e w2 ⟨g1, cap1, rfl, hg1, hc1, bl2⟩
  have c2 := below_next bl1 bl2
  clear bl1 bl2 t1 hT
  have hc1' := Lib.hid hc1
  clear hc1
  go_wp2_with fail
  refine (HVa.out _).mono ?_
  rintro e w4 ⟨rfl, rfl⟩
  go_wp2_with fail
  refine (R1.out _).mono ?_
  rintro e w4 ⟨rfl, rfl⟩
  go_wp2_with fail
  refine (R2.out _).mono ?_
  rintro e w3 ⟨v2, rfl, hv2, bl3⟩
  have c3 := below_next c2 bl3
  rcases hv2 with ⟨_, h⟩ | ⟨g2, cap2, rfl, hg2, hc2⟩
  · rw [h] at hl0
    simp at hl0
  · have HE' := Lib.hid (HE.out g1 g2 cap1 cap2 w3 (fun i hi => cell_later bl3 (hc1'.out i hi)) hc2)
    clear hc2 hc1' bl3 c2 HE
    generalize xs.length = L at hl0 hlx HE'
    go_wp2_with fail
    refine HE'.out.mono ?_
    rintro e w5 ⟨rfl, m, rfl⟩
    have c5 := below_drewN c3 m
    go_wp2_with fail
    refine (awake_any _).mono ?_
    rintro e w6 ⟨rfl, bl6⟩
    have c6 := below_next c5 bl6
    go_wp2
    go_ret
    exact ⟨rfl, c6⟩

end Go.Proofs.YtehjdhegnpmfaaaDoor
