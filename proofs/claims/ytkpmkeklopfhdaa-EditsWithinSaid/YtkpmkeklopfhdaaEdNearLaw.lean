/-
  The statement on the lines that are near: the walk.
-/
import Derived.Test.YtkpmkeklopfhdaaEdNear
namespace Go.Proofs.Ytkpmkeklopfhdaa
open Go.ChangeShapes Go.WideShapes Go.ChangeAt Go.RowKit
set_option linter.unusedVariables false
set_option maxRecDepth 100000

theorem own_slice {W : World} {lo : Nat} {v : Value} {xs : List Nat} (h : W.ownsRow lo 3 1 v xs.length (ints xs)) : ∃ ao cap, v = .slice ao xs.length cap := by
  rcases own_cells h with ⟨rfl, rfl⟩ | ⟨g, cap, rfl, _⟩
  · exact ⟨none, 0, rfl⟩
  · exact ⟨_, cap, rfl⟩

set_option maxHeartbeats 4000000 in
theorem EditsNear_walk (a : ByteArray) (pi po ps most : Int) (ss : List ByteArray) (v : Value) (_ : a.size ≤ maxLen) (_ : (Lit.int .i64 pi).wf = true) (_ : (Lit.int .i64 po).wf = true) (_ : (Lit.int .i64 ps).wf = true) (_ : (Lit.int .i64 most).wf = true) (hl : ss.length ≤ maxLen) (w : World) (hv : StrsV w v ss) :
    Calls Try.prog 17 #[.string a, pv pi po ps, .int .i64 most, v] w fun e w' => e = .returned (.bool true) ∧ Below w.heap.size w w' := by
  have HAw := Lib.hid (fun W => awake_any W)
  have H1 := Lib.hid (fun W => RLine_any a W)
  have H2 := Lib.hid (fun W => RValid_any pi po ps W)
  have H3 := Lib.hid (fun W hV => RList_any ss hl v W hV)
  obtain ⟨W0, hW0⟩ : ∃ W0, w.alloc (.cells #[.int .i64 pi, .int .i64 po, .int .i64 ps] 23) = W0 := ⟨_, rfl⟩
  have hB0 : Below w.heap.size w W0 := by rw [← hW0]; exact bl_al (Below.refl _ w) _
  have p0 : W0.cell? ⟨w.heap.size, 0, none⟩ = some (.int .i64 pi) := by rw [← hW0]; simp
  have p1 : W0.cell? ⟨w.heap.size, 1, none⟩ = some (.int .i64 po) := by rw [← hW0]; simp
  have p2 : W0.cell? ⟨w.heap.size, 2, none⟩ = some (.int .i64 ps) := by rw [← hW0]; simp
  have HB0 := Lib.hid hB0
  clear hB0
  have HV := Lib.hid hv
  clear hv
  cases h1 : lineB a
  · rw [h1] at H1
    clear h1 H2 H3
    go_enter Try.func17, Try.ntmps17
    go_wp2_with fail
    try rw [hW0]
    refine (H1.out _).mono ?_
    rintro e u1 ⟨rfl, rfl⟩
    go_wp2_with fail
    refine (HAw.out _).mono ?_
    rintro e uz ⟨rfl, bz⟩
    go_wp2
    go_ret
    exact ⟨rfl, below_nx HB0.out bz⟩
  · rw [h1] at H1
    cases h2 : pricedB pi po ps
    · rw [h2] at H2
      clear h1 h2 H3
      go_enter Try.func17, Try.ntmps17
      go_wp2_with fail
      try rw [hW0]
      refine (H1.out _).mono ?_
      rintro e u1 ⟨rfl, rfl⟩
      go_wp2_with fail
      refine (H2.out _).mono ?_
      rintro e u2 ⟨rfl, b2⟩
      replace p0 := cell_later b2 p0
      replace p1 := cell_later b2 p1
      replace p2 := cell_later b2 p2
      have B2 := Lib.hid (below_nx HB0.out b2)
      clear b2
      go_wp2_with fail
      refine (HAw.out _).mono ?_
      rintro e uz ⟨rfl, bz⟩
      go_wp2
      go_ret
      exact ⟨rfl, below_nx B2.out bz⟩
    · rw [h2] at H2
      by_cases h3 : most < 0
      · clear h1 h2 H3
        go_enter Try.func17, Try.ntmps17
        go_wp2_with fail
        try rw [hW0]
        refine (H1.out _).mono ?_
        rintro e u1 ⟨rfl, rfl⟩
        go_wp2_with fail
        refine (H2.out _).mono ?_
        rintro e u2 ⟨rfl, b2⟩
        replace p0 := cell_later b2 p0
        replace p1 := cell_later b2 p1
        replace p2 := cell_later b2 p2
        have B2 := Lib.hid (below_nx HB0.out b2)
        clear b2
        go_wp2_with fail
        refine (HAw.out _).mono ?_
        rintro e uz ⟨rfl, bz⟩
        go_wp2
        go_ret
        exact ⟨rfl, below_nx B2.out bz⟩
      · by_cases h4 : 100 < most
        · clear h1 h2 H3
          go_enter Try.func17, Try.ntmps17
          go_wp2_with fail
          try rw [hW0]
          refine (H1.out _).mono ?_
          rintro e u1 ⟨rfl, rfl⟩
          go_wp2_with fail
          refine (H2.out _).mono ?_
          rintro e u2 ⟨rfl, b2⟩
          replace p0 := cell_later b2 p0
          replace p1 := cell_later b2 p1
          replace p2 := cell_later b2 p2
          have B2 := Lib.hid (below_nx HB0.out b2)
          clear b2
          go_wp2_with fail
          refine (HAw.out _).mono ?_
          rintro e uz ⟨rfl, bz⟩
          go_wp2
          go_ret
          exact ⟨rfl, below_nx B2.out bz⟩
        · cases h5 : (ss.all lineB && decide (ss.length ≤ 20))
          · rw [h5] at H3
            clear h1 h2 h5
            go_enter Try.func17, Try.ntmps17
            go_wp2_with fail
            try rw [hW0]
            refine (H1.out _).mono ?_
            rintro e u1 ⟨rfl, rfl⟩
            go_wp2_with fail
            refine (H2.out _).mono ?_
            rintro e u2 ⟨rfl, b2⟩
            replace p0 := cell_later b2 p0
            replace p1 := cell_later b2 p1
            replace p2 := cell_later b2 p2
            have B2 := Lib.hid (below_nx HB0.out b2)
            clear b2
            go_wp2_with fail
            refine (H3.out _ (HV.out.later B2.out)).mono ?_
            rintro e u3 ⟨rfl, rfl⟩
            go_wp2_with fail
            refine (HAw.out _).mono ?_
            rintro e uz ⟨rfl, bz⟩
            go_wp2
            go_ret
            exact ⟨rfl, below_nx B2.out bz⟩
          · rw [h5] at H3
            obtain ⟨x, y, z, rfl, rfl, rfl, hp, _, _, _⟩ := priced_nat h2
            rw [Bool.and_eq_true] at h5
            obtain ⟨h6, h7⟩ := h5
            have h7 := of_decide_eq_true h7
            have HO := Lib.hid (fun W => Of_any x y z W)
            have HCl := Lib.hid (fun W hV => clone_strs (W := W) (v := v) (ss := ss) hV (by omega))
            have HW := Lib.hid (fun v1 W hV => Within_ok a x y z most ss v1 h1 h2 (by omega) (by omega) h7 h6 W hV)
            have HW2 := Lib.hid (fun v1 W (h8 : ¬ most = 100) hV => Within_ok a x y z (most + 1) ss v1 h1 h2 (by omega) (by omega) h7 h6 W hV)
            have HC := Lib.hid (fun k (hk : k < ss.length) W => Cost_ok a (strAt ss k) x y z (good_iff.2 ⟨h2, h1, by rw [List.all_eq_true] at h6; unfold strAt; rw [List.getElem?_eq_getElem hk]; exact h6 _ (List.getElem_mem hk)⟩) W)
            have hv2 := HV.out
            obtain ⟨ao, cap, rfl, hlc, hd⟩ := hv2
            have HD := Lib.hid hd
            clear h1 h2 h6 hp hd
            go_enter Try.func17, Try.ntmps17
            go_wp2_with fail
            try rw [hW0]
            refine (H1.out _).mono ?_
            rintro e u1 ⟨rfl, rfl⟩
            go_wp2_with fail
            refine (H2.out _).mono ?_
            rintro e u2 ⟨rfl, b2⟩
            replace p0 := cell_later b2 p0
            replace p1 := cell_later b2 p1
            replace p2 := cell_later b2 p2
            have B2 := Lib.hid (below_nx HB0.out b2)
            clear b2
            go_wp2_with fail
            refine (H3.out _ (HV.out.later B2.out)).mono ?_
            rintro e u3 ⟨rfl, rfl⟩
            go_wp2_with fail
            refine (HO.out _).mono ?_
            rintro e u4 ⟨rfl, b4⟩
            replace p0 := cell_later b4 p0
            replace p1 := cell_later b4 p1
            replace p2 := cell_later b4 p2
            have B4 := Lib.hid (below_nx B2.out b4)
            clear b4
            go_wp2_with fail
            refine (HCl.out _ (HV.out.later B4.out)).mono ?_
            rintro e u5 ⟨v1, rfl, s1, b5⟩
            replace p0 := cell_later b5 p0
            replace p1 := cell_later b5 p1
            replace p2 := cell_later b5 p2
            have B5 := Lib.hid (below_nx B4.out b5)
            clear b5
            go_wp2_with fail
            refine (HW.out _ _ s1).mono ?_
            rintro e u6 ⟨v2, rfl, o2, b6⟩
            replace p0 := cell_later b6 p0
            replace p1 := cell_later b6 p1
            replace p2 := cell_later b6 p2
            have B6 := Lib.hid (below_nx B5.out b6)
            clear b6 s1
            obtain ⟨ao2, cap2, rfl⟩ := own_slice o2
            have hX := near_length a x y z most ss ss.length
            have HXl := Lib.hid hX
            have HIs := Lib.hid (sorted_own o2 (by omega) (fun i hi => near_sorted _ _ _ _ _ _ _ i hi))
            have HO2 := Lib.hid o2
            clear o2 hX
            obtain ⟨N, hN⟩ : ∃ N, nearL a x y z most ss ss.length = N := ⟨_, rfl⟩
            rw [hN] at HIs HO2 HXl ⊢
            go_wp2_with fail
            refine HIs.out.mono ?_
            rintro e ui ⟨rfl, m0, rfl⟩
            have bi := below_drewN u6 m0
            replace p0 := cell_later bi p0
            replace p1 := cell_later bi p1
            replace p2 := cell_later bi p2
            have Bi := Lib.hid (below_nx B6.out bi)
            have HOi := Lib.hid (owns_later HO2.out bi)
            generalize u6.drewN m0 = wi at p0 p1 p2 Bi HOi ⊢
            clear bi
            go_wp2_with fail
            go_loopw [11, 12, 13, 14, 57] (fun _ _ _ _ i wr => ∃ k : Nat, k ≤ ss.length ∧ i = .int .i64 k ∧ Below wi.heap.size wi wr) (fun _ _ _ _ i _ => ss.length - (intOf i).toNat)
            case atStart => exact ⟨0, Nat.zero_le _, rfl, Below.refl _ _⟩
            case round =>
              obtain ⟨k, hk, rfl, hB⟩ := hrel
              replace p0 := cell_later hB p0
              replace p1 := cell_later hB p1
              replace p2 := cell_later hB p2
              have Bw := Lib.hid (below_nx Bi.out hB)
              have HOw := Lib.hid (owns_later HOi.out hB)
              have HBw := Lib.hid hB
              clear hB
              by_cases hkl : k < ss.length
              · obtain ⟨b, off, rfl, hdd⟩ := HD.out (by omega)
                have c0 := cell_later Bw.out (hdd k hkl)
                rw [show ss[k]?.getD { data := #[] } = strAt ss k from rfl] at c0
                have HCk := Lib.hid (HC.out k hkl)
                have HOf := Lib.hid (fun W => HO.out W)
                have HCn := Lib.hid (fun W (hb : Below wr.heap.size wr W) => contains_own (owns_later HOw.out hb) (by have := HXl.out; omega) k)
                rw [show N.contains k = nearB a x y z most ss k by rw [← hN]; exact near_has hkl] at HCn
                rw [show nearB a x y z most ss k = decide (cst a (strAt ss k) x y z ≤ most) from rfl] at HCn
                clear hdd hN
                generalize cst a (strAt ss k) x y z = C at HCk HCn
                generalize strAt ss k = sk at c0 HCk
                go_wp2_with fail
                refine (HOf.out _).mono ?_
                rintro e y1 ⟨rfl, d1⟩
                go_wp2_with fail
                refine (HCk.out _).mono ?_
                rintro e y2 ⟨rfl, d2⟩
                have d3 := below_nx d1 d2
                go_wp2_with fail
                refine (HCn.out _ d3).mono ?_
                rintro e y3 ⟨rfl, rfl⟩
                have HB3 := Lib.hid (below_nx HBw.out d3)
                clear d1 d2 d3
                by_cases hle : C ≤ most
                · rw [decide_eq_true hle]
                  go_wp2
                  go_roundw
                  case rel => exact ⟨k + 1, by omega, by go_num, HB3.out⟩
                  case measure => simp only [intOf]; omega
                · rw [decide_eq_false hle]
                  go_wp2
                  go_roundw
                  case rel => exact ⟨k + 1, by omega, by go_num, HB3.out⟩
                  case measure => simp only [intOf]; omega
              · obtain rfl : k = ss.length := by omega
                by_cases h8 : most = 100
                · have h9 : (most == 100) = true := by rw [beq_iff_eq]; exact h8
                  go_wp2_with fail
                  refine (HAw.out _).mono ?_
                  rintro e uz ⟨rfl, bz⟩
                  go_wp2
                  go_ret
                  exact ⟨rfl, below_nx Bw.out bz⟩
                · have h9 : (most == 100) = false := by rw [beq_eq_false_iff_ne]; exact h8
                  have hw1 : wrap64 (most + 1) = most + 1 := by unfold wrap64; omega
                  have HW3 := Lib.hid (fun v1 W hV => HW2.out v1 W h8 hV)
                  have HM := Lib.hid (near_more a x y z most ss ss.length)
                  rw [hN] at HM
                  clear h8 hN
                  go_wp2_with fail
                  refine (HO.out _).mono ?_
                  rintro e y1 ⟨rfl, d1⟩
                  have E1 := Lib.hid (below_nx Bw.out d1)
                  clear d1
                  go_wp2_with fail
                  refine (HCl.out _ (HV.out.later E1.out)).mono ?_
                  rintro e y2 ⟨v3, rfl, s3, d2⟩
                  have E2 := Lib.hid (below_nx E1.out d2)
                  clear d2
                  go_wp2_with fail
                  refine (HW3.out _ _ s3).mono ?_
                  rintro e y3 ⟨v4, rfl, o4, d3⟩
                  have E3 := Lib.hid (below_nx E2.out d3)
                  clear d3 s3
                  obtain ⟨ao4, cap4, rfl⟩ := own_slice o4
                  clear o4
                  obtain ⟨M, hM⟩ : ∃ M, (nearL a x y z (most + 1) ss ss.length).length = M := ⟨_, rfl⟩
                  rw [hM] at HM ⊢
                  clear hM
                  have hnm := HM.out
                  have hd2 : decide ((M : Int) ≥ (N.length : Int)) = true := decide_eq_true (by omega)
                  have hd3 : decide ((N.length : Int) ≤ (M : Int)) = true := decide_eq_true (by omega)
                  go_wp2_with fail
                  refine (HAw.out _).mono ?_
                  rintro e uz ⟨rfl, bz⟩
                  go_wp2
                  go_ret
                  exact ⟨rfl, below_nx E3.out bz⟩
end Go.Proofs.Ytkpmkeklopfhdaa
