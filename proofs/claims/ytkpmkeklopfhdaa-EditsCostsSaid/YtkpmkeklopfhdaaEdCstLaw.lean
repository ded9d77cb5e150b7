/-
  The statement on costs and scripts: the walk.
-/
import Derived.Test.YtkpmkeklopfhdaaEdScrRun
import Derived.Test.YtkpmkeklopfhdaaEdRDoneW
import Derived.Test.YtkpmkeklopfhdaaEdOwn
import Derived.Test.YtkpmkeklopfhdaaEdRefC
import Derived.Test.YtkpmkeklopfhdaaCalmM
import Derived.Test.YtkpmkeklopfhdaaCalmR
namespace Go.Proofs.Ytkpmkeklopfhdaa
open Go.ChangeShapes Go.WideShapes Go.ChangeAt Go.RowKit
set_option linter.unusedVariables false
set_option maxRecDepth 100000

set_option maxHeartbeats 4000000 in
theorem EditsCosts_walk (a b : ByteArray) (pi po ps : Int) (ha : a.size ≤ maxLen) (hb : b.size ≤ maxLen) (_ : (Lit.int .i64 pi).wf = true) (_ : (Lit.int .i64 po).wf = true) (_ : (Lit.int .i64 ps).wf = true) (w : World) :
    Calls Try.prog 3 #[.string a, .string b, pv pi po ps] w fun e w' => e = .returned (.bool true) ∧ Below w.heap.size w w' := by
  have HAw := Lib.hid (fun W => awake_any W)
  have hmx : Try.prog.follows .mixedOrders = true := by kernel_rfl
  have hgt := good_text a b pi po ps
  have HF := Lib.hid (fun W => fine_any a b pi po ps W)
  rw [fine_good] at HF
  obtain ⟨W0, hW0⟩ : ∃ W0, w.alloc (.cells #[.int .i64 pi, .int .i64 po, .int .i64 ps] 23) = W0 := ⟨_, rfl⟩
  have hB0 : Below w.heap.size w W0 := by rw [← hW0]; exact bl_al (Below.refl _ w) _
  have p0 : W0.cell? ⟨w.heap.size, 0, none⟩ = some (.int .i64 pi) := by rw [← hW0]; simp
  have p1 : W0.cell? ⟨w.heap.size, 1, none⟩ = some (.int .i64 po) := by rw [← hW0]; simp
  have p2 : W0.cell? ⟨w.heap.size, 2, none⟩ = some (.int .i64 ps) := by rw [← hW0]; simp
  have HB0 := Lib.hid hB0
  clear hB0
  cases hg : goodB a b pi po ps
  · rw [hg] at hgt HF
    have HO := Lib.hid (fun W => Of_any pi po ps W)
    have HC := Lib.hid (fun W => Cost_bad _ _ pi po ps hgt W)
    have HS := Lib.hid (fun W => Script_bad _ _ pi po ps hgt W)
    clear hgt hg
    go_enter Try.func3, Try.ntmps3
    go_wp2_with fail
    try rw [hW0]
    refine region_calm hmx (by kernel_rfl) ?_
    intro S hSn f hS1 hS2
    have l0 := fun s => cell_later (hS1 s) p0
    have l1 := fun s => cell_later (hS1 s) p1
    have l2 := fun s => cell_later (hS1 s) p2
    have hT1 := Lib.hid (calm_call0 (fun s => text_any a (f s)))
    have hT2 := Lib.hid (calm_call0 (fun s => text_any b (f s)))
    have hO := Lib.hid (calm_call hS1 hS2 (fun s => HO.out (f s)))
    have hC := Lib.hid (calm_call hS1 hS2 (fun s => HC.out (f s)))
    repeat (go_big_quiet_step (first | exact hT1.out _ | exact hT2.out _ | exact hO.out _ | exact hC.out _))
    refine wpQuiet_nil ?_
    rintro _ ⟨s, rfl⟩
    have b1 := hS1 s
    clear l0 l1 l2 hT1 hT2 hO hC
    generalize f s = u1 at b1 ⊢
    clear hS1 hS2
    replace p0 := cell_later b1 p0
    replace p1 := cell_later b1 p1
    replace p2 := cell_later b1 p2
    have B1 := Lib.hid (below_nx HB0.out b1)
    clear b1
    try dsimp only [Exit.then]
    go_wp2_with fail
    refine region_calm hmx (by kernel_rfl) ?_
    intro S hSn f hS1 hS2
    have l0 := fun s => cell_later (hS1 s) p0
    have l1 := fun s => cell_later (hS1 s) p1
    have l2 := fun s => cell_later (hS1 s) p2
    have hT1 := Lib.hid (calm_call0 (fun s => text_any a (f s)))
    have hT2 := Lib.hid (calm_call0 (fun s => text_any b (f s)))
    have hO := Lib.hid (calm_call hS1 hS2 (fun s => HO.out (f s)))
    have hC := Lib.hid (calm_call hS1 hS2 (fun s => HS.out (f s)))
    repeat (go_big_quiet_step (first | exact hT1.out _ | exact hT2.out _ | exact hO.out _ | exact hC.out _))
    refine wpQuiet_nil ?_
    rintro _ ⟨s, rfl⟩
    have b2 := hS1 s
    clear l0 l1 l2 hT1 hT2 hO hC
    generalize f s = u2 at b2 ⊢
    clear hS1 hS2
    replace p0 := cell_later b2 p0
    replace p1 := cell_later b2 p1
    replace p2 := cell_later b2 p2
    have B2 := Lib.hid (below_nx B1.out b2)
    clear b2
    try dsimp only [Exit.then]
    go_wp2_with fail
    refine (HF.out _).mono ?_
    rintro e u3 ⟨rfl, b3⟩
    replace p0 := cell_later b3 p0
    replace p1 := cell_later b3 p1
    replace p2 := cell_later b3 p2
    have B3 := Lib.hid (below_nx B2.out b3)
    clear b3
    go_wp2_with fail
    refine (HAw.out _).mono ?_
    rintro e uz ⟨rfl, bz⟩
    go_wp2
    go_ret
    exact ⟨rfl, below_nx B3.out bz⟩
  · rw [hg] at hgt HF
    obtain ⟨g1, g2, g3⟩ := good_iff.1 hg
    obtain ⟨x, y, z, rfl, rfl, rfl, hp, _, _, _⟩ := priced_nat g1
    have HO := Lib.hid (fun W => Of_any x y z W)
    have HC := Lib.hid (fun W => Cost_ok a b x y z hg W)
    have HS := Lib.hid (fun W => Script_ok a b x y z hg W)
    have hsl := scrI_len a b x y z
    have ha12 : a.size ≤ 12 := of_decide_eq_true g2
    have hb12 : b.size ≤ 12 := of_decide_eq_true g3
    obtain ⟨hrn, hsum⟩ := scrI_run a b hp
    have HRC := Lib.hid (fun W => RCost_any a b x y z ha12 hb12 hp.i hp.o hp.s W)
    have HOw := Lib.hid (fun v W hV => own_any (scrI a b x y z) (by omega) v W hV)
    have HDn := Lib.hid (fun v W hV => Done_any a x y z (scrI a b x y z) ha (by omega) v W hV)
    rw [hrn] at HDn
    simp only [] at HDn
    have HCP := Lib.hid (fun (C : Int) (h : CP x y z (scrI a b x y z) (scrI a b x y z).length C) => show C = cst a b x y z by have e := h x y z hp.i hp.o hp.s rfl rfl rfl; rw [List.take_length] at e; rw [e, hsum])
    have HT1 := Lib.hid (fun W => text_any a W)
    have HT2 := Lib.hid (fun W => text_any b W)
    rw [text_id g2] at HT1
    rw [text_id g3] at HT2
    have hbb : (b.toList == b.toList) = true := by simp
    generalize scrI a b x y z = sc at *
    generalize cst a b x y z = C0 at *
    clear hgt hg g1 g2 g3 hp ha12 hb12 hsl hrn hsum
    go_enter Try.func3, Try.ntmps3
    go_wp2_with fail
    refine region_calm hmx (by kernel_rfl) ?_
    intro S hSn f hS1 hS2
    have l0 := fun s => cell_later (hS1 s) p0
    have l1 := fun s => cell_later (hS1 s) p1
    have l2 := fun s => cell_later (hS1 s) p2
    have hT1 := Lib.hid (calm_call0 (fun s => HT1.out (f s)))
    have hT2 := Lib.hid (calm_call0 (fun s => HT2.out (f s)))
    have hO := Lib.hid (calm_call hS1 hS2 (fun s => HO.out (f s)))
    have hC := Lib.hid (calm_call hS1 hS2 (fun s => HC.out (f s)))
    repeat (go_big_quiet_step (first | exact hT1.out _ | exact hT2.out _ | exact hO.out _ | exact hC.out _))
    refine wpQuiet_nil ?_
    rintro _ ⟨s, rfl⟩
    have b1 := hS1 s
    clear l0 l1 l2 hT1 hT2 hO hC
    generalize f s = u1 at b1 ⊢
    clear hS1 hS2
    replace p0 := cell_later b1 p0
    replace p1 := cell_later b1 p1
    replace p2 := cell_later b1 p2
    have B1 := Lib.hid (below_nx HB0.out b1)
    clear b1
    try dsimp only [Exit.then]
    go_wp2_with fail
    try rw [hW0]
    refine region_M hmx (fun hS => ?_)
    refine take_M (i := 0) (v := .string a) rfl (by kernel_rfl) (by kernel_rfl) (by kernel_rfl) (fun _ _ _ h => h) hS (.inl ⟨by rfl, fun W hW => by rfl⟩) ?_
    try dsimp only [Act.put, Array.setIfInBounds]
    refine take_M (i := 2) (v := .string b) rfl (by kernel_rfl) (by kernel_rfl) (by kernel_rfl) (fun _ _ _ h => h) hS (.inl ⟨by rfl, fun W hW => by rfl⟩) ?_
    try dsimp only [Act.put, Array.setIfInBounds]
    refine take_M (i := 4) (v := pv x y z) rfl (by kernel_rfl) (by kernel_rfl) (by kernel_rfl) (fun _ _ _ h => h) hS (.inl ⟨by rfl, fun W hW => by have k0 := cell_later hW p0; have k1 := cell_later hW p1; have k2 := cell_later hW p2; go_simp⟩) ?_
    try dsimp only [Act.put, Array.setIfInBounds]
    refine take_M (i := 1) (v := .string a) rfl (by kernel_rfl) (by kernel_rfl) (by kernel_rfl) (fun _ _ _ h => h) hS (.inr (.inl ⟨by rfl, 19, #[.string a], fun W hW => ⟨by go_simp, (HT1.out W).mono (fun e w' h => ⟨h.1, h.2 ▸ Below.refl _ _⟩)⟩⟩)) ?_
    try dsimp only [Act.put, Array.setIfInBounds]
    refine take_M (i := 3) (v := .string b) rfl (by kernel_rfl) (by kernel_rfl) (by kernel_rfl) (fun _ _ _ h => h) hS (.inr (.inl ⟨by rfl, 19, #[.string b], fun W hW => ⟨by go_simp, (HT2.out W).mono (fun e w' h => ⟨h.1, h.2 ▸ Below.refl _ _⟩)⟩⟩)) ?_
    try dsimp only [Act.put, Array.setIfInBounds]
    refine take_M (i := 5) (v := pv x y z) rfl (by kernel_rfl) (by kernel_rfl) (by kernel_rfl) (fun _ _ _ h => h) hS (.inr (.inl ⟨by rfl, 20, #[pv x y z], fun W hW => ⟨by go_simp, HO.out W⟩⟩)) ?_
    try dsimp only [Act.put, Array.setIfInBounds]
    refine step_M (i := 6) rfl (by kernel_rfl) (by rfl) (fun W1_6 hW1_6 K' hK => ?_)
    have hX := below_nx hS hW1_6
    have hXB := below_nx B1.out hX
    go_simp
    refine (HS.out _).mono ?_
    rintro e z1_6 ⟨v1, rfl, s1, d⟩
    have D1_6 := Lib.hid (below_nx hX d)
    refine hK.out _ _ D1_6.out ?_
    clear hK K' d hX hXB
    try dsimp only [Act.put, Array.setIfInBounds]
    have s1e : EdsV z1_6 v1 sc := edsV_own s1
    have S1 := Lib.hid s1e
    clear s1
    obtain ⟨ao1, cap1, rfl, _, _⟩ := s1e
    refine take_M (i := 7) (v := .tuple #[.slice ao1 sc.length cap1, .int .i64 0]) rfl (by kernel_rfl) (by kernel_rfl) (by kernel_rfl) (fun _ _ _ h => h) D1_6.out (.inl ⟨by rfl, fun W hW => by rfl⟩) ?_
    try dsimp only [Act.put, Array.setIfInBounds]
    refine take_M (i := 8) (v := .slice ao1 sc.length cap1) rfl (by kernel_rfl) (by kernel_rfl) (by kernel_rfl) (fun _ _ _ h => h) D1_6.out (.inl ⟨by rfl, fun W hW => by rfl⟩) ?_
    try dsimp only [Act.put, Array.setIfInBounds]
    refine take_M (i := 9) (v := .int .i64 0) rfl (by kernel_rfl) (by kernel_rfl) (by kernel_rfl) (fun _ _ _ h => h) D1_6.out (.inl ⟨by rfl, fun W hW => by rfl⟩) ?_
    try dsimp only [Act.put, Array.setIfInBounds]
    refine take_M (i := 10) (v := .slice ao1 sc.length cap1) rfl (by kernel_rfl) (by kernel_rfl) (by kernel_rfl) (fun _ _ _ h => h) D1_6.out (.inl ⟨by rfl, fun W hW => by rfl⟩) ?_
    try dsimp only [Act.put, Array.setIfInBounds]
    refine take_M (i := 11) (v := .int .i64 0) rfl (by kernel_rfl) (by kernel_rfl) (by kernel_rfl) (fun _ _ _ h => h) D1_6.out (.inl ⟨by rfl, fun W hW => by rfl⟩) ?_
    try dsimp only [Act.put, Array.setIfInBounds]
    refine done_M (by kernel_rfl) (fun u2 hu2 => ?_) _
    dsimp only [OnlyN, Exit.then]
    have hv2 := hu2
    have b2 := below_nx D1_6.out hu2
    replace p0 := cell_later b2 p0
    replace p1 := cell_later b2 p1
    replace p2 := cell_later b2 p2
    have B2 := Lib.hid (below_nx B1.out b2)
    clear b2 hS hu2 
    have S2 := Lib.hid (S1.out.later hv2)
    go_wp2_with fail
    refine (HF.out _).mono ?_
    rintro e u3 ⟨rfl, b3⟩
    replace p0 := cell_later b3 p0
    replace p1 := cell_later b3 p1
    replace p2 := cell_later b3 p2
    have S3 := Lib.hid (S2.out.later b3)
    have B3 := Lib.hid (below_nx B2.out b3)
    clear b3 S1 S2
    go_wp2_with fail
    try rw [hW0]
    refine region_M hmx (fun hS => ?_)
    refine take_M (i := 0) (v := .string a) rfl (by kernel_rfl) (by kernel_rfl) (by kernel_rfl) (fun _ _ _ h => h) hS (.inl ⟨by rfl, fun W hW => by rfl⟩) ?_
    try dsimp only [Act.put, Array.setIfInBounds]
    refine take_M (i := 1) (v := pv x y z) rfl (by kernel_rfl) (by kernel_rfl) (by kernel_rfl) (fun _ _ _ h => h) hS (.inl ⟨by rfl, fun W hW => by have k0 := cell_later hW p0; have k1 := cell_later hW p1; have k2 := cell_later hW p2; go_simp⟩) ?_
    try dsimp only [Act.put, Array.setIfInBounds]
    refine take_M (i := 2) (v := .slice ao1 sc.length cap1) rfl (by kernel_rfl) (by kernel_rfl) (by kernel_rfl) (fun _ _ _ h => h) hS (.inl ⟨by rfl, fun W hW => by rfl⟩) ?_
    try dsimp only [Act.put, Array.setIfInBounds]
    refine step_M (i := 3) rfl (by kernel_rfl) (by rfl) (fun W2_3 hW2_3 K' hK => ?_)
    have hX := below_nx hS hW2_3
    have hXB := below_nx B3.out hX
    go_simp
    refine (HOw.out _ _ (S3.out.later hX)).mono ?_
    rintro e z2_3 ⟨v2, rfl, s2, d⟩
    have D2_3 := Lib.hid (below_nx hX d)
    refine hK.out _ _ D2_3.out ?_
    clear hK K' d hX hXB
    try dsimp only [Act.put, Array.setIfInBounds]
    have S4 := Lib.hid s2
    obtain ⟨ao2, cap2, rfl, _, _⟩ := s2
    refine step_M (i := 4) rfl (by kernel_rfl) (by rfl) (fun W2_4 hW2_4 K' hK => ?_)
    have hX := below_nx D2_3.out hW2_4
    have hXB := below_nx B3.out hX
    go_simp
    refine (HDn.out _ _ (S4.out.later hW2_4)).mono ?_
    rintro e z2_4 ⟨C, rfl, hC, d⟩
    have D2_4 := Lib.hid (below_nx hX d)
    refine hK.out _ _ D2_4.out ?_
    clear hK K' d hX hXB
    try dsimp only [Act.put, Array.setIfInBounds]
    obtain rfl := HCP.out C (hC (by trivial))
    clear hC
    refine take_M (i := 5) (v := .tuple #[.string b, .int .i64 C, .bool true]) rfl (by kernel_rfl) (by kernel_rfl) (by kernel_rfl) (fun _ _ _ h => h) D2_4.out (.inl ⟨by rfl, fun W hW => by rfl⟩) ?_
    try dsimp only [Act.put, Array.setIfInBounds]
    refine take_M (i := 6) (v := .string b) rfl (by kernel_rfl) (by kernel_rfl) (by kernel_rfl) (fun _ _ _ h => h) D2_4.out (.inl ⟨by rfl, fun W hW => by rfl⟩) ?_
    try dsimp only [Act.put, Array.setIfInBounds]
    refine take_M (i := 7) (v := .int .i64 C) rfl (by kernel_rfl) (by kernel_rfl) (by kernel_rfl) (fun _ _ _ h => h) D2_4.out (.inl ⟨by rfl, fun W hW => by rfl⟩) ?_
    try dsimp only [Act.put, Array.setIfInBounds]
    refine take_M (i := 8) (v := .bool true) rfl (by kernel_rfl) (by kernel_rfl) (by kernel_rfl) (fun _ _ _ h => h) D2_4.out (.inl ⟨by rfl, fun W hW => by rfl⟩) ?_
    try dsimp only [Act.put, Array.setIfInBounds]
    refine take_M (i := 9) (v := .string b) rfl (by kernel_rfl) (by kernel_rfl) (by kernel_rfl) (fun _ _ _ h => h) D2_4.out (.inl ⟨by rfl, fun W hW => by rfl⟩) ?_
    try dsimp only [Act.put, Array.setIfInBounds]
    refine take_M (i := 10) (v := .int .i64 C) rfl (by kernel_rfl) (by kernel_rfl) (by kernel_rfl) (fun _ _ _ h => h) D2_4.out (.inl ⟨by rfl, fun W hW => by rfl⟩) ?_
    try dsimp only [Act.put, Array.setIfInBounds]
    refine take_M (i := 11) (v := .bool true) rfl (by kernel_rfl) (by kernel_rfl) (by kernel_rfl) (fun _ _ _ h => h) D2_4.out (.inl ⟨by rfl, fun W hW => by rfl⟩) ?_
    try dsimp only [Act.put, Array.setIfInBounds]
    refine done_M (by kernel_rfl) (fun u4 hu4 => ?_) _
    dsimp only [OnlyN, Exit.then]
    have hv4 := hu4
    have b4 := below_nx D2_4.out hu4
    replace p0 := cell_later b4 p0
    replace p1 := cell_later b4 p1
    replace p2 := cell_later b4 p2
    have B4 := Lib.hid (below_nx B3.out b4)
    clear b4 hS hu4 
    go_wp2_with fail
    refine (HRC.out _).mono ?_
    rintro e u5 ⟨rfl, b5⟩
    replace p0 := cell_later b5 p0
    replace p1 := cell_later b5 p1
    replace p2 := cell_later b5 p2
    have B5 := Lib.hid (below_nx B4.out b5)
    clear b5
    go_wp2_with fail
    refine (HAw.out _).mono ?_
    rintro e uz ⟨rfl, bz⟩
    go_wp2
    go_ret
    exact ⟨rfl, below_nx B5.out bz⟩
end Go.Proofs.Ytkpmkeklopfhdaa
