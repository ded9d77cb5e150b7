/-
  The statement on bounds: the walk.
-/
import Derived.Test.YtkpmkeklopfhdaaEdRDone
import Derived.Test.YtkpmkeklopfhdaaEdLists
import Derived.Test.YtkpmkeklopfhdaaEdCheckH
namespace Go.Proofs.Ytkpmkeklopfhdaa
open Go.ChangeShapes Go.WideShapes Go.ChangeAt Go.RowKit
set_option linter.unusedVariables false
set_option maxRecDepth 100000

theorem CheckHeights_any (a b : ByteArray) (pi po ps : Nat) (h : goodB a b pi po ps = true) (t : List (List Int)) (hl : t.length ≤ maxLen) (hr : ∀ r ∈ t, r.length ≤ maxLen) (v : Value) (w : World) (hV : TabV w v t) :
    Calls Try.prog 32 #[.string a, .string b, pv pi po ps, v] w fun e w' => e = .returned (.tuple #[.int .i64 (if heightsB (bsN a) (bsN b) pi po ps t = true then ht t a.size b.size else 0), .bool (heightsB (bsN a) (bsN b) pi po ps t), .int .i64 0]) ∧ Below w.heap.size w w' := by
  cases hn : heightsB (bsN a) (bsN b) pi po ps t
  · exact CheckHeights_no a b pi po ps h t hl hr hn v w hV
  · exact CheckHeights_yes a b pi po ps h t hl hr hn v w hV

set_option maxHeartbeats 1000000 in
theorem EditsBounds_walk (a b : ByteArray) (pi po ps : Int) (es : List (Int × Int)) (t : List (List Int)) (v u : Value) (_ : a.size ≤ maxLen) (_ : b.size ≤ maxLen) (_ : (Lit.int .i64 pi).wf = true) (_ : (Lit.int .i64 po).wf = true) (_ : (Lit.int .i64 ps).wf = true) (hle : es.length ≤ maxLen) (hlt : t.length ≤ maxLen ∧ ∀ r ∈ t, r.length ≤ maxLen) (w : World) (hv : EdsV w v es) (hu : TabV w u t) :
    Calls Try.prog 11 #[.string a, .string b, pv pi po ps, v, u] w fun e w' => e = .returned (.bool true) ∧ Below w.heap.size w w' := by
  have HAw := Lib.hid (fun W => awake_any W)
  have hmx : Try.prog.follows .mixedOrders = true := by kernel_rfl
  have hgt := good_text a b pi po ps
  have HSc := Lib.hid (fun W hV => script_any es hle v W hV)
  have HLs := Lib.hid (fun W hV => lists_any t hlt.1 hlt.2 u W hV)
  have HVe := Lib.hid hv
  have HVt := Lib.hid hu
  obtain ⟨ao, cap, rfl, hlc, hd⟩ := hv
  obtain ⟨ao2, cap2, rfl, hlc2, hd2⟩ := hu
  clear hd hd2
  obtain ⟨W0, hW0⟩ : ∃ W0, w.alloc (.cells #[.int .i64 pi, .int .i64 po, .int .i64 ps] 23) = W0 := ⟨_, rfl⟩
  have hB0 : Below w.heap.size w W0 := by rw [← hW0]; exact bl_al (Below.refl _ w) _
  have p0 : W0.cell? ⟨w.heap.size, 0, none⟩ = some (.int .i64 pi) := by rw [← hW0]; simp
  have p1 : W0.cell? ⟨w.heap.size, 1, none⟩ = some (.int .i64 po) := by rw [← hW0]; simp
  have p2 : W0.cell? ⟨w.heap.size, 2, none⟩ = some (.int .i64 ps) := by rw [← hW0]; simp
  have HB0 := Lib.hid hB0
  clear hB0
  cases hg : goodB a b pi po ps
  · rw [hg] at hgt
    have HO := Lib.hid (fun W => Of_any pi po ps W)
    have HC := Lib.hid (fun W => Cost_bad _ _ pi po ps hgt W)
    clear hgt hg
    go_enter Try.func11, Try.ntmps11
    go_wp2_with fail
    try rw [hW0]
    refine region_calm hmx (by kernel_rfl) ?_
    intro S hSn f hS1 hS2
    have l0 := fun s => cell_later (hS1 s) p0
    have l1 := fun s => cell_later (hS1 s) p1
    have l2 := fun s => cell_later (hS1 s) p2
    have hT1 := Lib.hid (calm_call0 (fun s => text_any a (f s)))
    have hT2 := Lib.hid (calm_call0 (fun s => text_any b (f s)))
    have hO := Lib.hid (calm_call hS1 hS2 (fun s => HO.out (f s)))
    have hC := Lib.hid (calm_call hS1 hS2 (fun s => HC.out (f s)))
    repeat (go_big_quiet_step (first | exact hT1.out _ | exact hT2.out _ | exact hO.out _ | exact hC.out _))
    refine wpQuiet_nil ?_
    rintro _ ⟨s, rfl⟩
    have b1 := hS1 s
    clear l0 l1 l2 hT1 hT2 hO hC
    generalize f s = u1 at b1 ⊢
    clear hS1 hS2
    replace p0 := cell_later b1 p0
    replace p1 := cell_later b1 p1
    replace p2 := cell_later b1 p2
    have B1 := Lib.hid (below_nx HB0.out b1)
    clear b1
    try dsimp only [Exit.then]
    go_wp2_with fail
    refine (HAw.out _).mono ?_
    rintro e uz ⟨rfl, bz⟩
    go_wp2
    go_ret
    exact ⟨rfl, below_nx B1.out bz⟩
  · rw [hg] at hgt
    obtain ⟨g1, g2, g3⟩ := good_iff.1 hg
    have HF := Lib.hid (fun W => fine_any a b pi po ps W)
    rw [fine_good, hg] at HF
    obtain ⟨x, y, z, rfl, rfl, rfl, hp, x1, y1, z1⟩ := priced_nat g1
    have HO := Lib.hid (fun W => Of_any x y z W)
    have HC := Lib.hid (fun W => Cost_ok _ _ x y z hgt W)
    rw [text_id g2, text_id g3] at HC
    have HTa := Lib.hid (text_id g2)
    have HTb := Lib.hid (text_id g3)
    have HCk := Lib.hid (fun v1 W hV => Check_ok a b x y z hg (es.take 40) (by rw [List.length_take]; omega) v1 W hV)
    have HCh := Lib.hid (fun v1 W hV => CheckHeights_any a b x y z hg ((t.take 16).map (List.take 16)) (by rw [List.length_map, List.length_take]; have := hlt.1; omega) (fun r hr => by obtain ⟨q, hq, rfl⟩ := List.mem_map.1 hr; rw [List.length_take]; have := hlt.2 q (List.mem_of_mem_take hq); omega) v1 W hV)
    have f1 := fun h => chk_ge (a := a) (b := b) hp (es := es.take 40) h
    have f2 := fun h => chk_zero (a := a) (b := b) (pi := x) (po := y) (ps := z) (es := es.take 40) h
    have f3 := fun h => heights_le (a := a) (b := b) hp (t := (t.take 16).map (List.take 16)) h
    obtain ⟨es2, hes2⟩ : ∃ q, es.take 40 = q := ⟨_, rfl⟩
    obtain ⟨t2, ht2⟩ : ∃ q, (t.take 16).map (List.take 16) = q := ⟨_, rfl⟩
    rw [hes2] at HSc HCk f1 f2
    rw [ht2] at HLs HCh f3
    clear hes2 ht2
    generalize cst a b x y z = C at *
    generalize chkC a b x y z es2 = X at *
    generalize chkB a b es2 = ok at *
    generalize heightsB (bsN a) (bsN b) x y z t2 = is at *
    generalize ht t2 a.size b.size = Y at *
    clear hgt hg g1 g2 g3 hp x1 y1 z1
    go_enter Try.func11, Try.ntmps11
    go_wp2_with fail
    try rw [hW0]
    refine region_calm hmx (by kernel_rfl) ?_
    intro S hSn f hS1 hS2
    have l0 := fun s => cell_later (hS1 s) p0
    have l1 := fun s => cell_later (hS1 s) p1
    have l2 := fun s => cell_later (hS1 s) p2
    have hT1 := Lib.hid (calm_call0 (fun s => by have h := text_any a (f s); rw [HTa.out] at h; exact h))
    have hT2 := Lib.hid (calm_call0 (fun s => by have h := text_any b (f s); rw [HTb.out] at h; exact h))
    have hO := Lib.hid (calm_call hS1 hS2 (fun s => HO.out (f s)))
    have hC := Lib.hid (calm_call hS1 hS2 (fun s => HC.out (f s)))
    repeat (go_big_quiet_step (first | exact hT1.out _ | exact hT2.out _ | exact hO.out _ | exact hC.out _))
    refine wpQuiet_nil ?_
    rintro _ ⟨s, rfl⟩
    have b1 := hS1 s
    clear l0 l1 l2 hT1 hT2 hO hC
    generalize f s = u1 at b1 ⊢
    clear hS1 hS2
    replace p0 := cell_later b1 p0
    replace p1 := cell_later b1 p1
    replace p2 := cell_later b1 p2
    have B1 := Lib.hid (below_nx HB0.out b1)
    clear b1
    try dsimp only [Exit.then]
    go_wp2_with fail
    refine (HF.out _).mono ?_
    rintro e u2 ⟨rfl, b2⟩
    replace p0 := cell_later b2 p0
    replace p1 := cell_later b2 p1
    replace p2 := cell_later b2 p2
    have B2 := Lib.hid (below_nx B1.out b2)
    clear b2
    go_wp2_with fail
    refine (HO.out _).mono ?_
    rintro e u3 ⟨rfl, b3⟩
    replace p0 := cell_later b3 p0
    replace p1 := cell_later b3 p1
    replace p2 := cell_later b3 p2
    have B3 := Lib.hid (below_nx B2.out b3)
    clear b3
    go_wp2_with fail
    refine (HSc.out _ (HVe.out.later B3.out)).mono ?_
    rintro e u4 ⟨v1, rfl, s1, b4⟩
    replace p0 := cell_later b4 p0
    replace p1 := cell_later b4 p1
    replace p2 := cell_later b4 p2
    have B4 := Lib.hid (below_nx B3.out b4)
    clear b4
    have S1 := Lib.hid s1
    obtain ⟨ao3, cap3, rfl, _, _⟩ := s1
    go_wp2_with fail
    refine (HCk.out _ _ S1.out).mono ?_
    rintro e u5 ⟨rfl, b5⟩
    replace p0 := cell_later b5 p0
    replace p1 := cell_later b5 p1
    replace p2 := cell_later b5 p2
    have B5 := Lib.hid (below_nx B4.out b5)
    clear b5
    go_wp2_with fail
    refine (HO.out _).mono ?_
    rintro e u6 ⟨rfl, b6⟩
    replace p0 := cell_later b6 p0
    replace p1 := cell_later b6 p1
    replace p2 := cell_later b6 p2
    have B6 := Lib.hid (below_nx B5.out b6)
    clear b6
    go_wp2_with fail
    refine (HLs.out _ (HVt.out.later B6.out)).mono ?_
    rintro e u7 ⟨v2, rfl, s2, b7⟩
    replace p0 := cell_later b7 p0
    replace p1 := cell_later b7 p1
    replace p2 := cell_later b7 p2
    have B7 := Lib.hid (below_nx B6.out b7)
    clear b7
    have S2 := Lib.hid s2
    obtain ⟨ao4, cap4, rfl, _, _⟩ := s2
    go_wp2_with fail
    refine (HCh.out _ _ S2.out).mono ?_
    rintro e u8 ⟨rfl, b8⟩
    replace p0 := cell_later b8 p0
    replace p1 := cell_later b8 p1
    replace p2 := cell_later b8 p2
    have B8 := Lib.hid (below_nx B7.out b8)
    clear b8
    cases ok <;> cases is
    · have g1 := f2 rfl
      subst g1
      clear f1 f2 f3
      go_wp2_with fail
      refine (HAw.out _).mono ?_
      rintro e uz ⟨rfl, bz⟩
      go_wp2
      go_ret
      exact ⟨rfl, below_nx B8.out bz⟩
    · have g1 := f2 rfl
      subst g1
      have g3 := f3 rfl
      have g4 : decide (Y ≤ C) = true := decide_eq_true g3
      clear f1 f2 f3
      go_wp2_with fail
      refine (HAw.out _).mono ?_
      rintro e uz ⟨rfl, bz⟩
      go_wp2
      go_ret
      exact ⟨rfl, below_nx B8.out bz⟩
    · have g1 := f1 rfl
      have g2 : decide (X ≥ C) = true := decide_eq_true g1
      have g2b : decide (C ≤ X) = true := decide_eq_true g1
      clear f1 f2 f3
      go_wp2_with fail
      refine (HAw.out _).mono ?_
      rintro e uz ⟨rfl, bz⟩
      go_wp2
      go_ret
      exact ⟨rfl, below_nx B8.out bz⟩
    · have g1 := f1 rfl
      have g2 : decide (X ≥ C) = true := decide_eq_true g1
      have g2b : decide (C ≤ X) = true := decide_eq_true g1
      have g3 := f3 rfl
      have g4 : decide (Y ≤ C) = true := decide_eq_true g3
      clear f1 f2 f3
      go_wp2_with fail
      refine (HAw.out _).mono ?_
      rintro e uz ⟨rfl, bz⟩
      go_wp2
      go_ret
      exact ⟨rfl, below_nx B8.out bz⟩
end Go.Proofs.Ytkpmkeklopfhdaa
