/-
  The walk of the statement on the images.
-/
import Derived.Test.YtmpoigbgcafmoaaDoorImgMath
namespace Go.Proofs.YtmpoigbgcafmoaaDoor
open Go.RowKit Go.Shelf
attribute [local go_sem] Oper.semAt_some
set_option maxRecDepth 100000

set_option maxHeartbeats 4000000 in
theorem ChordsImages_walk (n c k : Int) (b : Bool) (_w0 : (Lit.int .i64 n).wf = true) (_w1 : (Lit.int .i64 c).wf = true) (_w2 : (Lit.int .i64 k).wf = true) (w : World) (hT : Tab w) :
    Calls Tryd.prog 9 #[.int .i64 n, .int .i64 c, .int .i64 k, .bool b] w fun e w' => e = .returned (.bool true) ∧ Below w.heap.size w w' := by
  have HVa := Lib.hid (Valid_any n c)
  obtain ⟨p, hv⟩ : ∃ p, vldB n c = p := ⟨_, rfl⟩
  rw [hv] at HVa
  cases p
  · have H1 := Lib.hid (Vector_bad n c hv)
    clear hv hT
    go_enter Tryd.func9, Tryd.ntmps9
    go_wp2_with fail
    refine (HVa.out _).mono ?_
    rintro e w4 ⟨rfl, rfl⟩
    go_wp2_with fail
    refine (H1.out _).mono ?_
    rintro e w1 ⟨rfl, bl1⟩
    go_wp2_with fail
    refine (awake_any _).mono ?_
    rintro e w5 ⟨rfl, b5⟩
    go_wp2
    go_ret
    exact ⟨rfl, below_next bl1 b5⟩
  obtain ⟨n, c, rfl, rfl, h1, h2, h3⟩ := vldB_nat hv
  have hk0 : 0 ≤ k % n := Int.emod_nonneg _ (by omega)
  have hk1 : k % n < n := Int.emod_lt_of_pos _ (by omega)
  obtain ⟨y, hy, hyb⟩ : ∃ y, (y = c ∨ y = mulN n c (-1)) ∧ y = if b then mulN n c (-1) else c := ⟨_, by cases b <;> simp, rfl⟩
  have hyl : y < 2 ^ n := by rcases hy with rfl | rfl; exact h3; exact turn_lt h1
  obtain ⟨z, hz⟩ : ∃ z, z = mvN n y (k % n).toNat := ⟨_, rfl⟩
  have hzl : z < 2 ^ n := by rw [hz]; exact mv_lt
  obtain ⟨s1, s2, s3, s4, s5, s6⟩ := image_shares h1 (by omega) h3 y (k % n).toNat hy (by omega) hz
  have htimes := cls_times h1 (by omega) h3
  have hfirst := cls_first h1 h3
  have hlen0 := clsN_some (n := n) (c := c) h1
  have hlen1 := clsN_length n c
  have hn2 : 2 ^ n ≤ 2 ^ 16 := Nat.pow_le_pow_right (by omega) h2
  have HTu := Lib.hid (Turn_ok n c h1 h2 h3)
  have HMo := Lib.hid (Move_ok n y k h1 h2 hyl)
  rw [← hz] at HMo
  have HVc := Lib.hid (Vector_ok n c h1 h2 h3)
  have HVz := Lib.hid (Vector_ok n z h1 h2 hzl)
  have HPc := Lib.hid (Prime_ok n c h1 h2 h3)
  have HPz := Lib.hid (Prime_ok n z h1 h2 hzl)
  have HSc := Lib.hid (Still_ok n c h1 h2 h3)
  have HSz := Lib.hid (Still_ok n z h1 h2 hzl)
  have HC := Lib.hid (Class_ok n c h1 h2 h3)
  have HW := Lib.hid (Way_ok n c z h1 h2 h3 hzl)
  rw [s1] at HVz
  rw [s2] at HPz
  rw [s3, s4] at HSz
  rw [s6] at HW
  have lv := vecN_length n c
  generalize vecN n c = V at HVc HVz lv
  generalize primeN n c = pr at HPc HPz hfirst
  generalize wayK (waysTo n c z n) (waysTo n (mulN n c (-1)) z n) = wk at HW
  generalize wayT (waysTo n c z n) (waysTo n (mulN n c (-1)) z n) = wt at HW
  have hu16 := waysTo_length n c c n
  have hv16 := waysTo_length n (mulN n c (-1)) c n
  generalize (waysTo n c c n).length = u at HSc HSz htimes hu16
  generalize (waysTo n (mulN n c (-1)) c n).length = v at HSc HSz htimes hv16
  generalize mulN n c (-1) = t at HTu hyb
  generalize clsN n c = K at HC hfirst hlen0 hlen1 s5 htimes
  have Hlv := Lib.hid lv
  have HE := Lib.hid (fun b1 b2 c1 c2 W r1 r2 => EqualInts_same V b1 b2 c1 c2 W (by rw [Hlv.out]; omega) r1 r2)
  have HCo := Lib.hid (fun (g cap : Nat) (W : World) hcells => Tryd.slices_Contains_int g 0 K.length cap (K.map fun (x : Nat) => (x : Int)) (z : Int) W (by simp) (by omega) hcells)
  have hin : ((K.map fun (x : Nat) => (x : Int)).take K.length).contains (z : Int) = true := by
    rw [List.take_of_length_le (by simp), List.contains_iff_mem, List.mem_map]
    exact ⟨z, s5, rfl⟩
  have hLb : K.length ≤ 65536 := by omega
  have hprod : (K.length : Int) * ((u : Int) + (v : Int)) = 2 * (n : Int) := by
    rw [← Int.natCast_add, ← Int.natCast_mul, htimes]; simp
  have htest : ((K.length : Int) * ((u : Int) + (v : Int)) == 2 * (n : Int)) = true := by rw [beq_iff_eq]; exact hprod
  clear hv hlen1 hn2 htimes hk0 hk1 s1 s2 s3 s4 s5 s6 hz h3 hzl lv
  cases b
  · obtain rfl : y = c := by simpa using hyb
    clear hy hyb hyl
    go_enter Tryd.func9, Tryd.ntmps9
    go_wp2_with fail
    refine (HVa.out _).mono ?_
    rintro e w0 ⟨rfl, rfl⟩
    have d0 := Below.refl w.heap.size w
    go_wp2_with fail
    refine (HMo.out _).mono ?_
    rintro e w1 ⟨rfl, bl1⟩
    have d1 := below_next d0 bl1
    have t1 := hT.same d1
    clear bl1 d0
    go_wp2_with fail
    refine (HVc.out _ t1).mono ?_
    rintro e wa ⟨ba, rfl, hba, ra, bla⟩
    have d2 := below_next d1 bla
    have t2 := hT.same d2
    clear bla d1 t1
    go_wp2_with fail
    refine (HVz.out _ t2).mono ?_
    rintro e wb ⟨bb, rfl, hbb, rb, blb⟩
    have d3 := below_next d2 blb
    have t3 := hT.same d3
    have ra' := ra.later blb
    clear blb d2 t2 ra
    go_wp2_with fail
    refine (HPc.out _ t3).mono ?_
    rintro e w4 ⟨rfl, bl4⟩
    have d4 := below_next d3 bl4
    have t4 := hT.same d4
    have ra4 := ra'.later bl4
    have rb4 := rb.later bl4
    clear bl4 d3 t3 ra' rb
    go_wp2_with fail
    refine (HPz.out _ t4).mono ?_
    rintro e w5 ⟨rfl, bl5⟩
    have d5 := below_next d4 bl5
    have t5 := hT.same d5
    have ra5 := ra4.later bl5
    have rb5 := rb4.later bl5
    clear bl5 d4 t4 ra4 rb4
    go_wp2_with fail
    refine (HSc.out _ t5).mono ?_
    rintro e w6 ⟨rfl, bl6⟩
    have d6 := below_next d5 bl6
    have t6 := hT.same d6
    have ra6 := ra5.later bl6
    have rb6 := rb5.later bl6
    clear bl6 d5 t5 ra5 rb5
    go_wp2_with fail
    refine (HSz.out _ t6).mono ?_
    rintro e w7 ⟨rfl, bl7⟩
    have d7 := below_next d6 bl7
    have t7 := hT.same d7
    have ra7 := ra6.later bl7
    have rb7 := rb6.later bl7
    clear bl7 d6 t6 ra6 rb6
    go_wp2_with fail
    refine (HC.out _ t7).mono ?_
    rintro e w8 ⟨g, cap, rfl, hg, hcl, bl8⟩
    have d8 := below_next d7 bl8
    have t8 := hT.same d8
    have ra8 := ra7.later bl8
    have rb8 := rb7.later bl8
    have hcl8 := Lib.hid hcl
    clear bl8 d7 t7 ra7 rb7 hcl
    go_wp2_with fail
    refine (HW.out _ t8).mono ?_
    rintro e w9 ⟨rfl, bl9⟩
    have d9 := below_next d8 bl9
    have ra9 := ra8.later bl9
    have rb9 := rb8.later bl9
    have hcl9 := Lib.hid (fun i (hi : i < K.length) => cell_later bl9 (hcl8.out i hi))
    have HE1 : Calls Tryd.prog 26 #[.slice (some ⟨ba, 0, none⟩) (n / 2) (n / 2), .slice (some ⟨bb, 0, none⟩) (n / 2) (n / 2)] w9 fun e w' => e = .returned (.bool true) ∧ ∃ m, w' = w9.drewN m := by
      have := HE.out ba bb (n / 2) (n / 2) w9 (rows_cells ra9) (rows_cells rb9)
      rwa [Hlv.out] at this
    have HE2 := Lib.hid HE1
    clear bl9 d8 t8 ra8 rb8 HE1 ra9 rb9 hcl8
    have hc0 : ∀ m, (w9.drewN m).cell? ⟨g, 0, none⟩ = some (.int .i64 (pr : Int)) := fun m => by
      have := hcl9.out 0 hlen0
      rw [hfirst] at this
      exact this
    have HCo1 := Lib.hid (fun m => HCo.out g cap (w9.drewN m) (fun j hj => by
      have hj' : j < K.length := by simpa using hj
      have := hcl9.out j hj'
      rw [Nat.zero_add]
      refine (show (w9.drewN m).cell? _ = w9.cell? _ from rfl).trans (this.trans ?_)
      rw [List.getD_eq_getElem?_getD, List.getElem?_map, List.getElem?_eq_getElem hj']
      rfl))
    rw [hin] at HCo1
    clear hcl9
    generalize K.length = L at hlen0 hLb hprod htest HCo1
    go_wp2_with fail
    refine HE2.out.mono ?_
    rintro e w10 ⟨rfl, m, rfl⟩
    have d10 := below_drewN d9 m
    have c00 := hc0 m
    go_wp2_with fail
    refine (HCo1.out m).mono ?_
    rintro e w11 ⟨rfl, rfl⟩
    go_wp2_with fail
    refine (awake_any _).mono ?_
    rintro e w12 ⟨rfl, bl12⟩
    have d12 := below_next d10 bl12
    go_wp2
    go_ret
    exact ⟨rfl, d12⟩
  · obtain rfl : y = t := by simpa using hyb
    clear hy hyb hyl
    go_enter Tryd.func9, Tryd.ntmps9
    go_wp2_with fail
    refine (HVa.out _).mono ?_
    rintro e w0 ⟨rfl, rfl⟩
    go_wp2_with fail
    refine (HTu.out _ hT).mono ?_
    rintro e w0 ⟨rfl, d0⟩
    go_wp2_with fail
    refine (HMo.out _).mono ?_
    rintro e w1 ⟨rfl, bl1⟩
    have d1 := below_next d0 bl1
    have t1 := hT.same d1
    clear bl1 d0
    go_wp2_with fail
    refine (HVc.out _ t1).mono ?_
    rintro e wa ⟨ba, rfl, hba, ra, bla⟩
    have d2 := below_next d1 bla
    have t2 := hT.same d2
    clear bla d1 t1
    go_wp2_with fail
    refine (HVz.out _ t2).mono ?_
    rintro e wb ⟨bb, rfl, hbb, rb, blb⟩
    have d3 := below_next d2 blb
    have t3 := hT.same d3
    have ra' := ra.later blb
    clear blb d2 t2 ra
    go_wp2_with fail
    refine (HPc.out _ t3).mono ?_
    rintro e w4 ⟨rfl, bl4⟩
    have d4 := below_next d3 bl4
    have t4 := hT.same d4
    have ra4 := ra'.later bl4
    have rb4 := rb.later bl4
    clear bl4 d3 t3 ra' rb
    go_wp2_with fail
    refine (HPz.out _ t4).mono ?_
    rintro e w5 ⟨rfl, bl5⟩
    have d5 := below_next d4 bl5
    have t5 := hT.same d5
    have ra5 := ra4.later bl5
    have rb5 := rb4.later bl5
    clear bl5 d4 t4 ra4 rb4
    go_wp2_with fail
    refine (HSc.out _ t5).mono ?_
    rintro e w6 ⟨rfl, bl6⟩
    have d6 := below_next d5 bl6
    have t6 := hT.same d6
    have ra6 := ra5.later bl6
    have rb6 := rb5.later bl6
    clear bl6 d5 t5 ra5 rb5
    go_wp2_with fail
    refine (HSz.out _ t6).mono ?_
    rintro e w7 ⟨rfl, bl7⟩
    have d7 := below_next d6 bl7
    have t7 := hT.same d7
    have ra7 := ra6.later bl7
    have rb7 := rb6.later bl7
    clear bl7 d6 t6 ra6 rb6
    go_wp2_with fail
    refine (HC.out _ t7).mono ?_
    rintro e w8 ⟨g, cap, rfl, hg, hcl, bl8⟩
    have d8 := below_next d7 bl8
    have t8 := hT.same d8
    have ra8 := ra7.later bl8
    have rb8 := rb7.later bl8
    have hcl8 := Lib.hid hcl
    clear bl8 d7 t7 ra7 rb7 hcl
    go_wp2_with fail
    refine (HW.out _ t8).mono ?_
    rintro e w9 ⟨rfl, bl9⟩
    have d9 := below_next d8 bl9
    have ra9 := ra8.later bl9
    have rb9 := rb8.later bl9
    have hcl9 := Lib.hid (fun i (hi : i < K.length) => cell_later bl9 (hcl8.out i hi))
    have HE1 : Calls Tryd.prog 26 #[.slice (some ⟨ba, 0, none⟩) (n / 2) (n / 2), .slice (some ⟨bb, 0, none⟩) (n / 2) (n / 2)] w9 fun e w' => e = .returned (.bool true) ∧ ∃ m, w' = w9.drewN m := by
      have := HE.out ba bb (n / 2) (n / 2) w9 (rows_cells ra9) (rows_cells rb9)
      rwa [Hlv.out] at this
    have HE2 := Lib.hid HE1
    clear bl9 d8 t8 ra8 rb8 HE1 ra9 rb9 hcl8
    have hc0 : ∀ m, (w9.drewN m).cell? ⟨g, 0, none⟩ = some (.int .i64 (pr : Int)) := fun m => by
      have := hcl9.out 0 hlen0
      rw [hfirst] at this
      exact this
    have HCo1 := Lib.hid (fun m => HCo.out g cap (w9.drewN m) (fun j hj => by
      have hj' : j < K.length := by simpa using hj
      have := hcl9.out j hj'
      rw [Nat.zero_add]
      refine (show (w9.drewN m).cell? _ = w9.cell? _ from rfl).trans (this.trans ?_)
      rw [List.getD_eq_getElem?_getD, List.getElem?_map, List.getElem?_eq_getElem hj']
      rfl))
    rw [hin] at HCo1
    clear hcl9
    generalize K.length = L at hlen0 hLb hprod htest HCo1
    go_wp2_with fail
    refine HE2.out.mono ?_
    rintro e w10 ⟨rfl, m, rfl⟩
    have d10 := below_drewN d9 m
    have c00 := hc0 m
    go_wp2_with fail
    refine (HCo1.out m).mono ?_
    rintro e w11 ⟨rfl, rfl⟩
    go_wp2_with fail
    refine (awake_any _).mono ?_
    rintro e w12 ⟨rfl, bl12⟩
    have d12 := below_next d10 bl12
    go_wp2
    go_ret
    exact ⟨rfl, d12⟩

end Go.Proofs.YtmpoigbgcafmoaaDoor
