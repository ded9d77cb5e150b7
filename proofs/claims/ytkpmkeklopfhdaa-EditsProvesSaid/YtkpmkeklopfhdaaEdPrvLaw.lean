/-
  The statement on proofs: the walk.
-/
import Derived.Test.YtkpmkeklopfhdaaEdProveM
import Derived.Test.YtkpmkeklopfhdaaCalmM
import Derived.Test.YtkpmkeklopfhdaaCalmR
namespace Go.Proofs.Ytkpmkeklopfhdaa
open Go.ChangeShapes Go.WideShapes Go.ChangeAt Go.RowKit
set_option linter.unusedVariables false
set_option maxRecDepth 100000

set_option maxHeartbeats 4000000 in
theorem EditsProves_walk (a b : ByteArray) (pi po ps : Int) (ha : a.size ≤ maxLen) (hb : b.size ≤ maxLen) (_ : (Lit.int .i64 pi).wf = true) (_ : (Lit.int .i64 po).wf = true) (_ : (Lit.int .i64 ps).wf = true) (w : World) :
    Calls Try.prog 10 #[.string a, .string b, pv pi po ps] w fun e w' => e = .returned (.bool true) ∧ Below w.heap.size w w' := by
  have HAw := Lib.hid (fun W => awake_any W)
  have hmx : Try.prog.follows .mixedOrders = true := by kernel_rfl
  have hgt := good_text a b pi po ps
  have HF := Lib.hid (fun W => fine_any a b pi po ps W)
  rw [fine_good] at HF
  obtain ⟨W0, hW0⟩ : ∃ W0, w.alloc (.cells #[.int .i64 pi, .int .i64 po, .int .i64 ps] 23) = W0 := ⟨_, rfl⟩
  have hB0 : Below w.heap.size w W0 := by rw [← hW0]; exact bl_al (Below.refl _ w) _
  have p0 : W0.cell? ⟨w.heap.size, 0, none⟩ = some (.int .i64 pi) := by rw [← hW0]; simp
  have p1 : W0.cell? ⟨w.heap.size, 1, none⟩ = some (.int .i64 po) := by rw [← hW0]; simp
  have p2 : W0.cell? ⟨w.heap.size, 2, none⟩ = some (.int .i64 ps) := by rw [← hW0]; simp
  have HB0 := Lib.hid hB0
  clear hB0
  cases hg : goodB a b pi po ps
  · rw [hg] at hgt HF
    have HO := Lib.hid (fun W => Of_any pi po ps W)
    have HC := Lib.hid (fun W => Cost_bad _ _ pi po ps hgt W)
    clear hgt hg
    go_enter Try.func10, Try.ntmps10
    go_wp2_with fail
    try rw [hW0]
    refine region_calm hmx (by kernel_rfl) ?_
    intro S hSn f hS1 hS2
    have l0 := fun s => cell_later (hS1 s) p0
    have l1 := fun s => cell_later (hS1 s) p1
    have l2 := fun s => cell_later (hS1 s) p2
    have hT1 := Lib.hid (calm_call0 (fun s => text_any a (f s)))
    have hT2 := Lib.hid (calm_call0 (fun s => text_any b (f s)))
    have hO := Lib.hid (calm_call hS1 hS2 (fun s => HO.out (f s)))
    have hC := Lib.hid (calm_call hS1 hS2 (fun s => HC.out (f s)))
    repeat (go_big_quiet_step (first | exact hT1.out _ | exact hT2.out _ | exact hO.out _ | exact hC.out _))
    refine wpQuiet_nil ?_
    rintro _ ⟨s, rfl⟩
    have b1 := hS1 s
    clear l0 l1 l2 hT1 hT2 hO hC
    generalize f s = u1 at b1 ⊢
    clear hS1 hS2
    replace p0 := cell_later b1 p0
    replace p1 := cell_later b1 p1
    replace p2 := cell_later b1 p2
    have B1 := Lib.hid (below_nx HB0.out b1)
    clear b1
    try dsimp only [Exit.then]
    go_wp2_with fail
    refine (HAw.out _).mono ?_
    rintro e uz ⟨rfl, bz⟩
    go_wp2
    go_ret
    exact ⟨rfl, below_nx B1.out bz⟩
  · rw [hg] at hgt HF
    obtain ⟨g1, g2, g3⟩ := good_iff.1 hg
    obtain ⟨x, y, z, rfl, rfl, rfl, hp, _, _, _⟩ := priced_nat g1
    have HO := Lib.hid (fun W => Of_any x y z W)
    have HC := Lib.hid (fun W => Cost_ok a b x y z hg W)
    have HS := Lib.hid (fun W => Script_ok a b x y z hg W)
    have HH := Lib.hid (fun W => Heights_ok a b x y z hg W)
    have hsl := scrI_len a b x y z
    have ha12 : a.size ≤ 12 := of_decide_eq_true g2
    have hb12 : b.size ≤ 12 := of_decide_eq_true g3
    obtain ⟨hrn, hsum⟩ := scrI_run a b hp
    obtain ⟨hto, hth⟩ := tabI_ok a b hp ha12 hb12
    have htl := tabI_len a b x y z
    have htr := tabI_row a b x y z
    have hm1 : (tabI a b x y z).length ≤ maxLen := by rw [htl]; unfold maxLen; omega
    have hm2 : ∀ r ∈ tabI a b x y z, r.length ≤ maxLen := fun r hr => by rw [htr r hr]; unfold maxLen; omega
    have hck : chkB a b (scrI a b x y z) = true := by unfold chkB; rw [hrn]; simp
    have hcc : chkC a b x y z (scrI a b x y z) = cst a b x y z := by unfold chkC; rw [if_pos hck, hsum]
    have HCl := Lib.hid (fun v W hV => CloneE_any (scrI a b x y z) (by omega) v W hV)
    have HCk := Lib.hid (fun v W hV => Check_ok a b x y z hg (scrI a b x y z) (by omega) v W hV)
    rw [hcc, hck] at HCk
    have HLs := Lib.hid (fun v W hV => lists_any (tabI a b x y z) hm1 hm2 v W hV)
    rw [tabI_cut a b x y z ha12 hb12] at HLs
    have HCh := Lib.hid (fun v W hV => CheckHeights_any a b x y z hg (tabI a b x y z) hm1 hm2 v W hV)
    rw [hto, if_pos rfl, hth] at HCh
    have HAp := Lib.hid (fun v W hV => Apply_ok a (scrI a b x y z) (by omega) g2 (by omega) (by rw [hrn]) v W hV)
    rw [hrn] at HAp
    simp only [] at HAp
    have HT1 := Lib.hid (fun W => text_any a W)
    have HT2 := Lib.hid (fun W => text_any b W)
    rw [text_id g2] at HT1
    rw [text_id g3] at HT2
    have hbb : (b.toList == b.toList) = true := by simp
    unfold tabI at HLs HCh
    generalize (tabL (a.size + 1) (b.size + 1) fun i j => (pl (bsN a) (bsN b) x y z i j).c) = tb at HH HLs HCh
    generalize scrI a b x y z = sc at HS HCl HCk HAp
    generalize cst a b x y z = C0 at HC HCk HCh
    clear hgt hg g1 g2 g3 hp ha12 hb12 hsl hrn hsum hto hth htl htr hm1 hm2 hck hcc
    go_enter Try.func10, Try.ntmps10
    go_wp2_with fail
    try rw [hW0]
    refine region_calm hmx (by kernel_rfl) ?_
    intro S hSn f hS1 hS2
    have l0 := fun s => cell_later (hS1 s) p0
    have l1 := fun s => cell_later (hS1 s) p1
    have l2 := fun s => cell_later (hS1 s) p2
    have hT1 := Lib.hid (calm_call0 (fun s => HT1.out (f s)))
    have hT2 := Lib.hid (calm_call0 (fun s => HT2.out (f s)))
    have hO := Lib.hid (calm_call hS1 hS2 (fun s => HO.out (f s)))
    have hC := Lib.hid (calm_call hS1 hS2 (fun s => HC.out (f s)))
    repeat (go_big_quiet_step (first | exact hT1.out _ | exact hT2.out _ | exact hO.out _ | exact hC.out _))
    refine wpQuiet_nil ?_
    rintro _ ⟨s, rfl⟩
    have b1 := hS1 s
    clear l0 l1 l2 hT1 hT2 hO hC
    generalize f s = u1 at b1 ⊢
    clear hS1 hS2
    replace p0 := cell_later b1 p0
    replace p1 := cell_later b1 p1
    replace p2 := cell_later b1 p2
    have B1 := Lib.hid (below_nx HB0.out b1)
    clear b1
    try dsimp only [Exit.then]
    go_wp2_with fail
    refine (HF.out _).mono ?_
    rintro e u2 ⟨rfl, b2⟩
    replace p0 := cell_later b2 p0
    replace p1 := cell_later b2 p1
    replace p2 := cell_later b2 p2
    have B2 := Lib.hid (below_nx B1.out b2)
    clear b2
    go_wp2_with fail
    refine (HO.out _).mono ?_
    rintro e u3 ⟨rfl, b3⟩
    replace p0 := cell_later b3 p0
    replace p1 := cell_later b3 p1
    replace p2 := cell_later b3 p2
    have B3 := Lib.hid (below_nx B2.out b3)
    clear b3
    go_wp2_with fail
    refine (HS.out _).mono ?_
    rintro e u4 ⟨v1, rfl, s1, b4⟩
    replace p0 := cell_later b4 p0
    replace p1 := cell_later b4 p1
    replace p2 := cell_later b4 p2
    have B4 := Lib.hid (below_nx B3.out b4)
    clear b4
    have s1e : EdsV u4 v1 sc := edsV_own s1
    have S1 := Lib.hid s1e
    clear s1
    obtain ⟨ao1, cap1, rfl, _, _⟩ := s1e
    go_wp2_with fail
    refine (HO.out _).mono ?_
    rintro e u5 ⟨rfl, b5⟩
    replace S1 := Lib.hid (S1.out.later b5)
    replace p0 := cell_later b5 p0
    replace p1 := cell_later b5 p1
    replace p2 := cell_later b5 p2
    have B5 := Lib.hid (below_nx B4.out b5)
    clear b5
    go_wp2_with fail
    refine (HH.out _).mono ?_
    rintro e u6 ⟨v2, rfl, s2, b6⟩
    replace S1 := Lib.hid (S1.out.later b6)
    replace p0 := cell_later b6 p0
    replace p1 := cell_later b6 p1
    replace p2 := cell_later b6 p2
    have B6 := Lib.hid (below_nx B5.out b6)
    clear b6
    have S2 := Lib.hid s2
    obtain ⟨ao2, cap2, rfl, _, _⟩ := s2
    go_wp2_with fail
    refine (HO.out _).mono ?_
    rintro e u7 ⟨rfl, b7⟩
    replace S1 := Lib.hid (S1.out.later b7)
    replace S2 := Lib.hid (S2.out.later b7)
    replace p0 := cell_later b7 p0
    replace p1 := cell_later b7 p1
    replace p2 := cell_later b7 p2
    have B7 := Lib.hid (below_nx B6.out b7)
    clear b7
    go_wp2_with fail
    refine (HCl.out _ _ S1.out).mono ?_
    rintro e u8 ⟨v3, rfl, s3, b8⟩
    replace S1 := Lib.hid (S1.out.later b8)
    replace S2 := Lib.hid (S2.out.later b8)
    replace p0 := cell_later b8 p0
    replace p1 := cell_later b8 p1
    replace p2 := cell_later b8 p2
    have B8 := Lib.hid (below_nx B7.out b8)
    clear b8
    have S3 := Lib.hid s3
    obtain ⟨ao3, cap3, rfl, _, _⟩ := s3
    go_wp2_with fail
    refine (HCk.out _ _ S3.out).mono ?_
    rintro e u9 ⟨rfl, b9⟩
    replace S1 := Lib.hid (S1.out.later b9)
    replace S2 := Lib.hid (S2.out.later b9)
    replace p0 := cell_later b9 p0
    replace p1 := cell_later b9 p1
    replace p2 := cell_later b9 p2
    have B9 := Lib.hid (below_nx B8.out b9)
    clear b9
    clear S3
    go_wp2_with fail
    refine (HO.out _).mono ?_
    rintro e u10 ⟨rfl, b10⟩
    replace S1 := Lib.hid (S1.out.later b10)
    replace S2 := Lib.hid (S2.out.later b10)
    replace p0 := cell_later b10 p0
    replace p1 := cell_later b10 p1
    replace p2 := cell_later b10 p2
    have B10 := Lib.hid (below_nx B9.out b10)
    clear b10
    go_wp2_with fail
    refine (HLs.out _ _ S2.out).mono ?_
    rintro e u11 ⟨v4, rfl, s4, b11⟩
    replace S1 := Lib.hid (S1.out.later b11)
    replace S2 := Lib.hid (S2.out.later b11)
    replace p0 := cell_later b11 p0
    replace p1 := cell_later b11 p1
    replace p2 := cell_later b11 p2
    have B11 := Lib.hid (below_nx B10.out b11)
    clear b11
    have S4 := Lib.hid s4
    obtain ⟨ao4, cap4, rfl, _, _⟩ := s4
    go_wp2_with fail
    refine (HCh.out _ _ S4.out).mono ?_
    rintro e u12 ⟨rfl, b12⟩
    replace S1 := Lib.hid (S1.out.later b12)
    replace S2 := Lib.hid (S2.out.later b12)
    replace p0 := cell_later b12 p0
    replace p1 := cell_later b12 p1
    replace p2 := cell_later b12 p2
    have B12 := Lib.hid (below_nx B11.out b12)
    clear b12
    clear S4
    go_wp2_with fail
    refine (HAp.out _ _ S1.out).mono ?_
    rintro e u13 ⟨rfl, b13⟩
    replace S1 := Lib.hid (S1.out.later b13)
    replace S2 := Lib.hid (S2.out.later b13)
    replace p0 := cell_later b13 p0
    replace p1 := cell_later b13 p1
    replace p2 := cell_later b13 p2
    have B13 := Lib.hid (below_nx B12.out b13)
    clear b13
    go_wp2_with fail
    refine (HAw.out _).mono ?_
    rintro e uz ⟨rfl, bz⟩
    go_wp2
    go_ret
    exact ⟨rfl, below_nx B13.out bz⟩
end Go.Proofs.Ytkpmkeklopfhdaa
