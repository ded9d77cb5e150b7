/-
  The statement on rows made of one part: the walk.
-/
import Derived.Test.YtdfagnjdconkcaaRoMadeP
import Derived.Test.YtdfagnjdconkcaaRoFollowLaw
namespace Go.Proofs.Ytdfagnjdconkcaa
open Go.ChangeShapes Go.WideShapes Go.ChangeAt Go.RowKit Go.Shelf
attribute [local go_sem] Oper.semAt_some
set_option linter.unusedVariables false
set_option maxRecDepth 100000

def goodD (n d : Int) : Bool := decide (2 ≤ d ∧ d ≤ n / 2 ∧ n % d = 0)
theorem RLength_any (n d : Int) (h2 : 2 ≤ n) (h10 : n ≤ 10) (wd : (Lit.int .i64 d).wf = true) (w : World) :
    Calls Try.prog 8 #[.int .i64 n, .int .i64 d] w fun e w' => e = .returned (.bool (goodD n d)) ∧ w = w' := by
  by_cases h1 : 2 ≤ d
  · by_cases h3 : d ≤ n
    · have hw : wrap64 (2 * d) = 2 * d := by unfold wrap64; omega
      have hd0 : ¬ d = 0 := by omega
      have ht : n.tmod d = n % d := Int.tmod_eq_emod_of_nonneg (by omega)
      by_cases h4 : 2 * d ≤ n
      · have HG := Lib.hid (show goodD n d = (n % d == 0) by
          unfold goodD
          rw [Bool.eq_iff_iff]
          simp only [decide_eq_true_eq, beq_iff_eq]
          exact ⟨fun h => h.2.2, fun h => ⟨h1, by omega, h⟩⟩)
        go_enter Try.func8, Try.ntmps8
        go_wp2
        go_ret
        exact ⟨ret_bool (by rw [HG.out]), rfl⟩
      · have HG := Lib.hid (show goodD n d = false by unfold goodD; exact decide_eq_false (fun h => by omega))
        go_enter Try.func8, Try.ntmps8
        go_wp2
        go_ret
        exact ⟨ret_bool HG.out.symm, rfl⟩
    · have HG := Lib.hid (show goodD n d = false by unfold goodD; exact decide_eq_false (fun h => by omega))
      have ht : n.tmod d = n := by
        rw [Int.tmod_eq_emod_of_nonneg (by omega)]
        exact Int.emod_eq_of_lt (by omega) (by omega)
      have hn0 : (n == 0) = false := by rw [beq_eq_false_iff_ne]; omega
      have hd0 : ¬ d = 0 := by omega
      by_cases h4 : wrap64 (2 * d) ≤ n
      · go_enter Try.func8, Try.ntmps8
        go_wp2
        go_ret
        exact ⟨ret_bool HG.out.symm, rfl⟩
      · go_enter Try.func8, Try.ntmps8
        go_wp2
        go_ret
        exact ⟨ret_bool HG.out.symm, rfl⟩
  · have HG := Lib.hid (show goodD n d = false by unfold goodD; exact decide_eq_false (fun h => h1 h.1))
    go_enter Try.func8, Try.ntmps8
    go_wp2
    go_ret
    exact ⟨ret_bool HG.out.symm, rfl⟩

set_option maxHeartbeats 4000000 in
theorem Made_bad (xs : List Int) (d : Int) (hl : xs.length ≤ 1000) (hb : rowB xs = false ∨ (2 ≤ xs.length ∧ xs.length ≤ 10 ∧ goodD xs.length d = false)) (v : Value) (w : World) (h : IntsV w v xs) :
    Calls Try.prog 5 #[v, .int .i64 d] w fun e w' => e = .returned (.tuple #[.bool false, .int .i64 2]) ∧ Below w.heap.size w w' := by
  have H1 := Lib.hid h
  obtain ⟨ao, cap, rfl, hlc, hdd⟩ := h
  clear hdd
  have HR := Lib.hid (fun W (hV : IntsV W (.slice ao xs.length cap) xs) => isRow_any xs _ W (by unfold maxLen; omega) hV)
  refine (callsIn_wide (n := 9)).1 ?_
  refine callsIn_of_wp_marks Try.func5 rfl trivial ?_ rfl
  simp only [Try.ntmps5, List.size_toArray, List.length_cons, List.length_nil, Nat.reduceAdd, Nat.reduceSub, Array.replicate_succ, Array.replicate_zero, List.push_toArray, List.append_toArray, List.nil_append, List.cons_append]
  obtain ⟨W0, hW0⟩ : ∃ W0, ((((w.alloc (.cells #[.slice ao xs.length cap] 22)).alloc (.cells #[.int .i64 d] 3)).alloc (.cells #[.bool false] 4)).alloc (.cells #[.int .i64 0] 23)).alloc (.cells #[.int .i64 (xs.length : Int)] 3) = W0 := ⟨_, rfl⟩
  obtain ⟨H, hH⟩ : ∃ H, w.heap.size = H := ⟨_, rfl⟩
  have hs0 : W0.heap.size = H + 5 := by rw [← hW0, ← hH]; simp
  have hB0 : Below H w W0 := by rw [← hW0, ← hH]; exact (((((Below.refl _ w).alloc (Nat.le_refl _) _).alloc (by simp) _).alloc (by simp; omega) _).alloc (by simp; omega) _).alloc (by simp; omega) _
  have r0 : Row W0 H 22 [.slice ao xs.length cap] := by rw [← hW0, ← hH]; exact ((((Row.new w _ _).alloc _).alloc _).alloc _).alloc _
  have r1 : Row W0 (H + 1) 3 [.int .i64 d] := by
    rw [← hW0, ← hH]
    have := Row.new (w.alloc (.cells #[.slice ao xs.length cap] 22)) 3 [.int .i64 d]
    rw [World.size_alloc] at this
    exact ((this.alloc _).alloc _).alloc _
  have r2 : Row W0 (H + 1 + 1) 4 [.bool false] := by
    rw [← hW0, ← hH]
    have := Row.new ((w.alloc (.cells #[.slice ao xs.length cap] 22)).alloc (.cells #[.int .i64 d] 3)) 4 [.bool false]
    rw [World.size_alloc, World.size_alloc] at this
    exact (this.alloc _).alloc _
  have r3 : Row W0 (H + 1 + 1 + 1) 23 [.int .i64 0] := by
    rw [← hW0, ← hH]
    have := Row.new (((w.alloc (.cells #[.slice ao xs.length cap] 22)).alloc (.cells #[.int .i64 d] 3)).alloc (.cells #[.bool false] 4)) 23 [.int .i64 0]
    rw [World.size_alloc, World.size_alloc, World.size_alloc] at this
    exact this.alloc _
  have r4 : Row W0 (H + 1 + 1 + 1 + 1) 3 [.int .i64 (xs.length : Int)] := by
    rw [← hW0, ← hH]
    have := Row.new ((((w.alloc (.cells #[.slice ao xs.length cap] 22)).alloc (.cells #[.int .i64 d] 3)).alloc (.cells #[.bool false] 4)).alloc (.cells #[.int .i64 0] 23)) 3 [.int .i64 (xs.length : Int)]
    rw [World.size_alloc, World.size_alloc, World.size_alloc, World.size_alloc] at this
    exact this
  have HR0 := Lib.hid (HR.out W0 (H1.out.later (by rw [hH]; exact hB0)))
  have HW0 := Lib.hid hW0
  have HH := Lib.hid hH
  have e2 := r2.cell 0
  have e3 := r3.cell 0
  have g2 := r2.frozen 0
  have g3 := r3.frozen 0
  have k0 := r0.cell 0
  have k1 := r1.cell 0
  have k4 := r4.cell 0
  simp only [List.getElem?_cons_zero] at k0 k1 k4 e2 e3
  have R1 := Lib.hid ((r2.set 0 (.bool false)).other (show H + 1 + 1 ≠ H + 1 + 1 + 1 by omega) (i := 0) (.int .i64 2))
  have R2 := Lib.hid ((r3.other (show H + 1 + 1 + 1 ≠ H + 1 + 1 by omega) (i := 0) (.bool false)).set 0 (.int .i64 2))
  have HBX := Lib.hid ((hB0.setCell (p := ⟨H + 1 + 1, 0, none⟩) (show H ≤ H + 1 + 1 by omega) (.bool false)).setCell (p := ⟨H + 1 + 1 + 1, 0, none⟩) (show H ≤ H + 1 + 1 + 1 by omega) (.int .i64 2))
  clear hW0 hH r0 r1 r2 r3 r4 hB0
  cases hrw : rowB xs
  · rw [hrw] at HR0
    clear hb hrw
    gi_wp2_with fail
    rw [HW0.out]
    refine ⟨trivial, ?_⟩
    refine (callsIn_wide.2 HR0.out).mono ?_
    rintro e w' ⟨rfl, rfl⟩
    try rw [HH.out]
    gi_wp2
    refine ⟨.tuple #[.bool false, .int .i64 2], made_results _ _ _ _ rfl rfl R1.out R2.out, rfl, ?_⟩
    first | exact HBX.out | (rw [HH.out]; exact HBX.out)
  · rw [hrw] at HR0
    obtain ⟨n2, n10, hg⟩ := hb.resolve_left (by rw [hrw]; simp)
    clear hb hrw
    by_cases c1 : d < 2
    · gi_wp2_with fail
      rw [HW0.out]
      refine ⟨trivial, ?_⟩
      refine (callsIn_wide.2 HR0.out).mono ?_
      rintro e w' ⟨rfl, rfl⟩
      try rw [HH.out]
      gi_wp2
      refine ⟨.tuple #[.bool false, .int .i64 2], made_results _ _ _ _ rfl rfl R1.out R2.out, rfl, ?_⟩
      first | exact HBX.out | (rw [HH.out]; exact HBX.out)
    · have htd : (xs.length : Int).tdiv 2 = (xs.length : Int) / 2 := Int.tdiv_eq_ediv_of_nonneg (by omega)
      have hd0 : ¬ d = 0 := by omega
      by_cases c2 : d > (xs.length : Int) / 2
      · gi_wp2_with fail
        rw [HW0.out]
        refine ⟨trivial, ?_⟩
        refine (callsIn_wide.2 HR0.out).mono ?_
        rintro e w' ⟨rfl, rfl⟩
        try rw [HH.out]
        gi_wp2
        refine ⟨.tuple #[.bool false, .int .i64 2], made_results _ _ _ _ rfl rfl R1.out R2.out, rfl, ?_⟩
        first | exact HBX.out | (rw [HH.out]; exact HBX.out)
      · have c3 : ¬ (xs.length : Int) % d = 0 := by
          intro h
          unfold goodD at hg
          exact of_decide_eq_false hg ⟨by omega, by omega, h⟩
        have c4 : ((xs.length : Int) % d != 0) = true := by rw [bne_iff_ne]; exact c3
        have c5 : ¬ (xs.length : Int) / 2 < d := by omega
        gi_wp2_with fail
        rw [HW0.out]
        refine ⟨trivial, ?_⟩
        refine (callsIn_wide.2 HR0.out).mono ?_
        rintro e w' ⟨rfl, rfl⟩
        try rw [HH.out]
        gi_wp2
        refine ⟨.tuple #[.bool false, .int .i64 2], made_results _ _ _ _ rfl rfl R1.out R2.out, rfl, ?_⟩
        first | exact HBX.out | (rw [HH.out]; exact HBX.out)

set_option maxHeartbeats 2000000 in
theorem RowsMade_walk (xs : List Int) (d : Int) (v : Value) (w : World) (hl : xs.length ≤ maxLen) (h : IntsV w v xs) (wd : (Lit.int .i64 d).wf = true) :
    Calls Try.prog 3 #[v, .int .i64 d] w fun e w' => e = .returned (.bool true) ∧ Below w.heap.size w w' := by
  have HAw := Lib.hid (fun W => awake_any W)
  have HL := Lib.hid (fun W hW => list_any xs v W hl hW)
  have HRo := Lib.hid (fun W hW => RRow_any xs v W hl hW)
  have H := Lib.hid h
  obtain ⟨ao, cap, hv, _⟩ := h
  cases hr : rowB xs
  · have HM := Lib.hid (fun u W hu => Made_bad (xs.take 13) d (by rw [List.length_take]; omega) (Or.inl (by rw [row_take]; exact hr)) u W hu)
    rw [hr] at HRo
    subst hv
    clear hr hl
    go_enter Try.func3, Try.ntmps3
    go_wp2_with fail
    refine (HL.out _ H.out).mono ?_
    rintro e w1 ⟨v1, rfl, i1, b1⟩
    have J1 := Lib.hid (HM.out v1 w1 i1)
    clear i1
    go_wp2_with fail
    refine J1.out.mono ?_
    rintro e w2 ⟨rfl, b2⟩
    have B2 := Lib.hid (below_nx b1 b2)
    have K2 := Lib.hid (H.out.later B2.out)
    clear b1 b2 J1
    go_wp2_with fail
    refine (HRo.out _ K2.out).mono ?_
    rintro e w3 ⟨rfl, rfl⟩
    go_wp2_with fail
    refine (HAw.out _).mono ?_
    rintro e w6 ⟨rfl, b6⟩
    go_wp2
    go_ret
    exact ⟨rfl, below_nx B2.out b6⟩
  · obtain ⟨ys, rfl, hR⟩ := row_nat hr
    have hlo := hR.lo
    have hhi := hR.hi
    have HLn := Lib.hid (fun W => RLength_any (ys.length : Int) d (by omega) (by omega) wd W)
    rw [hr] at HRo
    rw [row_take13 hR] at HL
    rw [natI_length] at hv
    subst hv
    cases hg : goodD (ys.length : Int) d
    · have HM := Lib.hid (fun u W hu => Made_bad (natI ys) d (by rw [natI_length]; omega) (Or.inr ⟨by rw [natI_length]; omega, by rw [natI_length]; omega, by rw [natI_length]; exact hg⟩) u W hu)
      rw [hg] at HLn
      clear hr hl hg hR hlo hhi
      go_enter Try.func3, Try.ntmps3
      go_wp2_with fail
      refine (HL.out _ H.out).mono ?_
      rintro e w1 ⟨v1, rfl, i1, b1⟩
      have J1 := Lib.hid (HM.out v1 w1 i1)
      clear i1
      go_wp2_with fail
      refine J1.out.mono ?_
      rintro e w2 ⟨rfl, b2⟩
      have B2 := Lib.hid (below_nx b1 b2)
      have K2 := Lib.hid (H.out.later B2.out)
      clear b1 b2 J1
      go_wp2_with fail
      refine (HRo.out _ K2.out).mono ?_
      rintro e w3 ⟨rfl, rfl⟩
      go_wp2_with fail
      refine (HLn.out _).mono ?_
      rintro e w4 ⟨rfl, rfl⟩
      go_wp2_with fail
      refine (HAw.out _).mono ?_
      rintro e w6 ⟨rfl, b6⟩
      go_wp2
      go_ret
      exact ⟨rfl, below_nx B2.out b6⟩
    · have hgd : 2 ≤ d ∧ d ≤ (ys.length : Int) / 2 ∧ (ys.length : Int) % d = 0 := of_decide_eq_true hg
      obtain ⟨g1, g2, g3⟩ := hgd
      obtain ⟨m, rfl⟩ := Int.eq_ofNat_of_zero_le (show 0 ≤ d by omega)
      have hqm : ys.length = ys.length / m * m := by
        have : ys.length % m = 0 := by exact_mod_cast g3
        exact (Nat.div_mul_cancel (Nat.dvd_of_mod_eq_zero this)).symm
      have HM := Lib.hid (fun u W hu => Made_ok ys.length m (ys.length / m) ys hR hr (by omega) (by omega) hqm u W hu)
      have HRM := Lib.hid (fun u W hu => RMade_any ys.length ys hR m (ys.length / m) (by omega) hqm u W hu)
      rw [hg] at HLn
      clear hr hl hg hR hqm g1 g2 g3
      generalize madeB ys.length ys m = mb at *
      go_enter Try.func3, Try.ntmps3
      go_wp2_with fail
      refine (HL.out _ H.out).mono ?_
      rintro e w1 ⟨v1, rfl, i1, b1⟩
      have J1 := Lib.hid (HM.out v1 w1 i1)
      clear i1
      go_wp2_with fail
      refine J1.out.mono ?_
      rintro e w2 ⟨rfl, b2⟩
      have B2 := Lib.hid (below_nx b1 b2)
      have K2 := Lib.hid (H.out.later B2.out)
      clear b1 b2 J1
      go_wp2_with fail
      refine (HRo.out _ K2.out).mono ?_
      rintro e w3 ⟨rfl, rfl⟩
      go_wp2_with fail
      refine (HLn.out _).mono ?_
      rintro e w4 ⟨rfl, rfl⟩
      go_wp2_with fail
      refine (HRM.out _ _ K2.out).mono ?_
      rintro e w5 ⟨rfl, b5⟩
      have B5 := Lib.hid (below_nx B2.out b5)
      clear b5
      cases mb
      · go_wp2_with fail
        refine (HAw.out _).mono ?_
        rintro e w6 ⟨rfl, b6⟩
        go_wp2
        go_ret
        exact ⟨rfl, below_nx B5.out b6⟩
      · go_wp2_with fail
        refine (HAw.out _).mono ?_
        rintro e w6 ⟨rfl, b6⟩
        go_wp2
        go_ret
        exact ⟨rfl, below_nx B5.out b6⟩
end Go.Proofs.Ytdfagnjdconkcaa
