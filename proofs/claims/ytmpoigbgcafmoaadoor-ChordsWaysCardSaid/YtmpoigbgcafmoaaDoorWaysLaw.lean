/-
  The walk of the statement on Way and Common.
-/
import Derived.Test.YtmpoigbgcafmoaaDoorWayFns
namespace Go.Proofs.YtmpoigbgcafmoaaDoor
open Go.RowKit Go.Shelf
attribute [local go_sem] Oper.semAt_some
set_option maxRecDepth 100000

theorem ChordsWays_walk (n a b : Int) (_w0 : (Lit.int .i64 n).wf = true) (_w1 : (Lit.int .i64 a).wf = true) (_w2 : (Lit.int .i64 b).wf = true) (w : World) (hT : Tab w) :
    Calls Tryd.prog 6 #[.int .i64 n, .int .i64 a, .int .i64 b] w fun e w' => e = .returned (.bool true) ∧ Below w.heap.size w w' := by
  have HVa := Lib.hid (Valid_any n a)
  have HVb := Lib.hid (Valid_any n b)
  by_cases hv : (vldB n a && vldB n b) = true
  · have hva : vldB n a = true := by rw [Bool.and_eq_true] at hv; exact hv.1
    have hvb : vldB n b = true := by rw [Bool.and_eq_true] at hv; exact hv.2
    rw [hva] at HVa
    rw [hvb] at HVb
    obtain ⟨n, a, rfl, rfl, h1, h2, h3⟩ := vldB_nat hva
    obtain ⟨n', b, hn', rfl, _, _, h4⟩ := vldB_nat hvb
    obtain rfl : n = n' := by omega
    have H1 := Lib.hid (Way_ok n a b h1 h2 h3 h4)
    have H2 := Lib.hid (Common_ok n a b h1 h2 h3 h4)
    have R1 := Lib.hid (refWay_any n a b h1 h2 h3)
    have R2 := Lib.hid (refCommon_any n a b h1 h2 h3 h4)
    have Hl := Lib.hid (comN_length a n b)
    generalize comN a n b = xs at H2 R2 Hl
    generalize wayK (waysTo n a b n) (waysTo n (mulN n a (-1)) b n) = K at H1 R1
    generalize wayT (waysTo n a b n) (waysTo n (mulN n a (-1)) b n) = T at H1 R1
    generalize wayE (waysTo n a b n) (waysTo n (mulN n a (-1)) b n) = E at H1 R1
    have HE := Lib.hid (fun b1 b2 c1 c2 V r1 r2 => EqualInts_same xs b1 b2 c1 c2 V (by rw [Hl.out]; omega) r1 r2)
    clear hv hva hvb hn' h3 h4
    go_enter Tryd.func6, Tryd.ntmps6
    go_wp2_with fail
    refine (H1.out _ hT).mono ?_
    rintro e w1 ⟨rfl, bl1⟩
    go_wp2_with fail
    refine (H2.out _).mono ?_
    rintro e w2 ⟨b1, rfl, hb1, r1, bl2⟩
    have c2 := below_next bl1 bl2
    clear bl1 bl2 hT
    go_wp2_with fail
    refine (HVa.out _).mono ?_
    rintro e w4 ⟨rfl, rfl⟩
    go_wp2_with fail
    refine (HVb.out _).mono ?_
    rintro e w4 ⟨rfl, rfl⟩
    go_wp2_with fail
    refine (R1.out _).mono ?_
    rintro e w3 ⟨rfl, bl3⟩
    have c3 := below_next c2 bl3
    have r1' := r1.later bl3
    clear r1 bl3 c2
    cases T <;>
    · go_wp2_with fail
      refine (R2.out _).mono ?_
      rintro e w4 ⟨v2, rfl, hv2, bl4⟩
      have c4 := below_next c3 bl4
      have r1'' := r1'.later bl4
      rcases hv2 with ⟨_, h⟩ | ⟨g2, p2, rfl, hg2, hc2⟩
      · exfalso
        have := Hl.out
        rw [h] at this
        simp at this
        omega
      · have HE' := Lib.hid (HE.out b1 g2 n p2 w4 (rows_cells r1'') hc2)
        have HE2 : Calls Tryd.prog 26 #[.slice (some ⟨b1, 0, none⟩) n n, .slice (some ⟨g2, 0, none⟩) n p2] w4 fun e w' => e = .returned (.bool true) ∧ ∃ m, w' = w4.drewN m := by
          have := HE'.out; rwa [Hl.out] at this
        have HE3 := Lib.hid HE2
        rw [Hl.out]
        clear HE2 r1'' r1' hc2 bl4 c3
        go_wp2_with fail
        refine HE3.out.mono ?_
        rintro e w5 ⟨rfl, m, rfl⟩
        have c5 := below_drewN c4 m
        go_wp2_with fail
        refine (awake_any _).mono ?_
        rintro e w6 ⟨rfl, bl6⟩
        have c6 := below_next c5 bl6
        go_wp2
        go_ret
        exact ⟨rfl, c6⟩
  · have hv' : (vldB n a && vldB n b) = false := by simpa using hv
    have H1 := Lib.hid (Way_bad n a b hv')
    have H2 := Lib.hid (Common_bad n a b hv')
    obtain ⟨p, hp⟩ : ∃ p, vldB n a = p := ⟨_, rfl⟩
    obtain ⟨q, hq⟩ : ∃ q, vldB n b = q := ⟨_, rfl⟩
    rw [hp] at HVa hv'
    rw [hq] at HVb hv'
    clear hv hT hp hq
    cases p
    · clear hv' HVb
      go_enter Tryd.func6, Tryd.ntmps6
      go_wp2_with fail
      refine (H1.out _).mono ?_
      rintro e w1 ⟨rfl, bl1⟩
      go_wp2_with fail
      refine (H2.out _).mono ?_
      rintro e w2 ⟨rfl, bl2⟩
      go_wp2_with fail
      refine (HVa.out _).mono ?_
      rintro e w4 ⟨rfl, rfl⟩
      go_wp2_with fail
      refine (awake_any _).mono ?_
      rintro e w5 ⟨rfl, b5⟩
      go_wp2
      go_ret
      exact ⟨rfl, below_next (below_next bl1 bl2) b5⟩
    · obtain rfl : q = false := by simpa using hv'
      clear hv'
      go_enter Tryd.func6, Tryd.ntmps6
      go_wp2_with fail
      refine (H1.out _).mono ?_
      rintro e w1 ⟨rfl, bl1⟩
      go_wp2_with fail
      refine (H2.out _).mono ?_
      rintro e w2 ⟨rfl, bl2⟩
      go_wp2_with fail
      refine (HVa.out _).mono ?_
      rintro e w4 ⟨rfl, rfl⟩
      go_wp2_with fail
      refine (HVb.out _).mono ?_
      rintro e w4 ⟨rfl, rfl⟩
      go_wp2_with fail
      refine (awake_any _).mono ?_
      rintro e w5 ⟨rfl, b5⟩
      go_wp2
      go_ret
      exact ⟨rfl, below_next (below_next bl1 bl2) b5⟩

end Go.Proofs.YtmpoigbgcafmoaaDoor
