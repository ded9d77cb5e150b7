/-
  The statement on wheels moved and turned.
-/
import Derived.Test.YtcgaaebogkhefaaWhSpectraLaw
namespace Go.Proofs.Ytcgaaebogkhefaa
open Go.ChangeShapes Go.WideShapes Go.ChangeAt Go.RowKit
set_option maxRecDepth 100000

theorem move_ex {n x : Nat} (hn : 0 < n) (k : Int) : (((x : Int) + k.tmod (n : Int)).tmod (n : Int) + (n : Int)) % (n : Int) = (((x + (k % (n : Int)).toNat) % n : Nat) : Int) := by
  rw [mod_fix]
  have h0 := Int.emod_nonneg k (show (n : Int) ≠ 0 by omega)
  have e : ((((x + (k % (n : Int)).toNat) % n : Nat)) : Int) = ((x : Int) + k % (n : Int)) % (n : Int) := by
    rw [Int.natCast_emod, Int.natCast_add, Int.toNat_of_nonneg h0]
  rw [e]
  have e2 : k.tmod (n : Int) = k - (n : Int) * (k.tdiv (n : Int)) := by have := Int.mul_tdiv_add_tmod k n; omega
  rw [e2, show (x : Int) + (k - (n : Int) * (k.tdiv (n : Int))) = ((x : Int) + k) - (n : Int) * (k.tdiv (n : Int)) by omega, Int.sub_mul_emod_self_left, Int.add_emod_emod]

set_option maxHeartbeats 1000000 in
theorem RMove_any (n : Nat) (h : Circ n) (f : Nat → Nat) (k : Int) (t : Nat) (hkt : (k % (n : Int)).toNat = t) (ht : t < n) (v : Value) (w : World) (hv : IntsV w v (natI (tabN n f))) :
    Calls Try.prog 47 #[.int .i64 (n : Int), v, .int .i64 k] w fun r w' => ∃ g, r = .returned (.slice (some ⟨g, 0, none⟩) n n) ∧ w.heap.size ≤ g ∧ Out w g n (mvF n t f) w' := by
  have hmx : Try.prog.follows .mixedOrders = true := by kernel_rfl
  have hn17 := h.2
  have hn0 := h.pos
  obtain ⟨fb, fo, fc, rfl, hfc, hfd⟩ := cells_of hv hn0
  have HFd := Lib.hid hfd
  have HEx := Lib.hid (fun x => by have := move_ex (x := x) hn0 k; rw [hkt] at this; exact this)
  have HAll := Lib.hid (mvpF_all n t f)
  have HMs := Lib.hid (fun j (hj : j < n) => mvpF_succ ht hj f)
  have HM0 := Lib.hid (mvpF_zero n t f)
  have hmk := fun W => run_make_zero n (by omega) W
  have t1 : k.tmod (n : Int) < n := Int.tmod_lt_of_pos _ (by omega)
  have t2 : -(n : Int) < k.tmod (n : Int) := Int.lt_tmod_of_pos _ (by omega)
  have hn0' : ((n : Int) == 0) = false := by rw [beq_eq_false_iff_ne]; omega
  obtain ⟨B, hB⟩ : ∃ B, w.heap.size = B := ⟨_, rfl⟩
  have HO0 := Lib.hid (Out.new n (Below.refl w.heap.size w) hB)
  clear hfd hv hkt h
  go_enter Try.func47, Try.ntmps47
  go_wp2_with fail
  go_loopw [14] (fun i wr => ∃ x : Nat, x ≤ n ∧ i = .int .i64 (x : Int) ∧ Out w B n (mvpF n t x f) wr) (fun i _ => n - (intOf i).toNat)
  case atStart => exact ⟨0, Nat.zero_le _, rfl, by rw [HM0.out]; exact HO0.out⟩
  case round =>
    obtain ⟨x, hx, rfl, hO⟩ := hrel
    have HO := Lib.hid hO
    clear hO
    by_cases hlt : x < n
    · have c1 := cell_later (show Below w.heap.size w wr from HO.out.hb) (HFd.out x hlt)
      have hex := HEx.out x
      have hto := Nat.mod_lt (x + t) hn0
      have t3 : ((x : Int) + k.tmod (n : Int)).tmod (n : Int) < n := Int.tmod_lt_of_pos _ (by omega)
      have t4 : -(n : Int) < ((x : Int) + k.tmod (n : Int)).tmod (n : Int) := Int.lt_tmod_of_pos _ (by omega)
      have HNx := Lib.hid (fun W (hO : Out w B n (mvpF n t x f) W) => show Out w B n (mvpF n t (x + 1) f) (W.setCell ⟨B, (x + t) % n, none⟩ (.int .i64 ((f x : Nat) : Int))) from by
        have := hO.set (by omega) hto (f x)
        rw [HMs.out x hlt] at this
        exact this)
      generalize (x + t) % n = u at *
      generalize f x = y at *
      have HO5 := Lib.hid (HNx.out _ HO.out)
      have e1 := HO.out.at hto
      have e2 := HO.out.row.frozen u
      go_wp2
      go_roundw
      case rel => exact ⟨x + 1, by omega, by go_num, HO5.out⟩
      case measure => simp only [intOf]; omega
    · obtain rfl : x = n := by omega
      rw [HAll.out] at HO
      go_wp2
      go_ret
      exact ⟨B, rfl, by omega, HO.out⟩

set_option maxHeartbeats 1000000 in
theorem RTurn_any (n : Nat) (h : Circ n) (f : Nat → Nat) (v : Value) (w : World) (hv : IntsV w v (natI (tabN n f))) :
    Calls Try.prog 48 #[.int .i64 (n : Int), v] w fun r w' => ∃ g, r = .returned (.slice (some ⟨g, 0, none⟩) n n) ∧ w.heap.size ≤ g ∧ Out w g n (tuF n f) w' := by
  have hmx : Try.prog.follows .mixedOrders = true := by kernel_rfl
  have hn17 := h.2
  have hn0 := h.pos
  obtain ⟨fb, fo, fc, rfl, hfc, hfd⟩ := cells_of hv hn0
  have HFd := Lib.hid hfd
  have HAll := Lib.hid (tupF_all n f)
  have HMs := Lib.hid (fun j (hj : j < n) => tupF_succ hj f)
  have HM0 := Lib.hid (tupF_zero n f)
  have hmk := fun W => run_make_zero n (by omega) W
  have hn0' : ((n : Int) == 0) = false := by rw [beq_eq_false_iff_ne]; omega
  obtain ⟨B, hB⟩ : ∃ B, w.heap.size = B := ⟨_, rfl⟩
  have HO0 := Lib.hid (Out.new n (Below.refl w.heap.size w) hB)
  clear hfd hv h
  go_enter Try.func48, Try.ntmps48
  go_wp2_with fail
  go_loopw [12] (fun i wr => ∃ x : Nat, x ≤ n ∧ i = .int .i64 (x : Int) ∧ Out w B n (tupF n x f) wr) (fun i _ => n - (intOf i).toNat)
  case atStart => exact ⟨0, Nat.zero_le _, rfl, by rw [HM0.out]; exact HO0.out⟩
  case round =>
    obtain ⟨x, hx, rfl, hO⟩ := hrel
    have HO := Lib.hid hO
    clear hO
    by_cases hlt : x < n
    · have c1 := cell_later (show Below w.heap.size w wr from HO.out.hb) (HFd.out x hlt)
      have hex : ((n : Int) - (x : Int)) % (n : Int) = (((n - x) % n : Nat) : Int) := by
        rw [show ((n : Int) - (x : Int)) = ((n - x : Nat) : Int) by omega]; simp
      have hto := Nat.mod_lt (n - x) hn0
      have HNx := Lib.hid (fun W (hO : Out w B n (tupF n x f) W) => show Out w B n (tupF n (x + 1) f) (W.setCell ⟨B, (n - x) % n, none⟩ (.int .i64 ((f x : Nat) : Int))) from by
        have := hO.set (by omega) hto (f x)
        rw [HMs.out x hlt] at this
        exact this)
      generalize (n - x) % n = u at *
      generalize f x = y at *
      have HO5 := Lib.hid (HNx.out _ HO.out)
      have e1 := HO.out.at hto
      have e2 := HO.out.row.frozen u
      go_wp2
      go_roundw
      case rel => exact ⟨x + 1, by omega, by go_num, HO5.out⟩
      case measure => simp only [intOf]; omega
    · obtain rfl : x = n := by omega
      rw [HAll.out] at HO
      go_wp2
      go_ret
      exact ⟨B, rfl, by omega, HO.out⟩

set_option maxHeartbeats 2000000 in
theorem WheelsMoves_walk (n : Int) (xs : List Int) (k : Int) (v : Value) (w : World) (_wf : (Lit.int .i64 n).wf = true) (hl : xs.length ≤ maxLen) (h : IntsV w v xs) (_wk : (Lit.int .i64 k).wf = true) :
    Calls Try.prog 8 #[.int .i64 n, v, .int .i64 k] w fun e w' => e = .returned (.bool true) ∧ Below w.heap.size w w' := by
  have HAw := Lib.hid (fun W => wawake_any W)
  have HLi := Lib.hid (fun W (h : IntsV W v xs) => wlist_any xs v W hl h)
  have HRW := Lib.hid (fun W (h : IntsV W v xs) => RWheel_any n xs v W hl h)
  have HV := Lib.hid h
  cases hb : (circB n && wheelB n.toNat xs)
  · rw [hb] at HRW
    have HM := Lib.hid (fun u W (h : IntsV W u (xs.take 19)) => Move_bad n (xs.take 19) k u W take19 h (bad1 hb))
    have HT := Lib.hid (fun u W (h : IntsV W u (xs.take 19)) => Turn_bad n (xs.take 19) u W take19 h (bad1 hb))
    obtain ⟨ao, cap, rfl, _, _⟩ := h
    clear hb hl
    go_enter Try.func8, Try.ntmps8
    go_wp2_with fail
    refine (HLi.out _ HV.out).mono ?_
    rintro e w1 ⟨v1, rfl, i1, b1⟩
    have I1 := Lib.hid i1
    have B1 := Lib.hid b1
    clear i1 b1
    go_wp2_with fail
    refine (HM.out _ _ I1.out).mono ?_
    rintro e w2 ⟨rfl, b2⟩
    have B2 := Lib.hid (below_nx B1.out b2)
    clear b2
    go_wp2_with fail
    refine (HLi.out _ (HV.out.later B2.out)).mono ?_
    rintro e w3 ⟨v3, rfl, i3, b3⟩
    have I3 := Lib.hid i3
    have B3 := Lib.hid (below_nx B2.out b3)
    clear i3 b3
    go_wp2_with fail
    refine (HT.out _ _ I3.out).mono ?_
    rintro e w4 ⟨rfl, b4⟩
    have B4 := Lib.hid (below_nx B3.out b4)
    clear b4
    go_wp2_with fail
    refine (HRW.out _ (HV.out.later B4.out)).mono ?_
    rintro e w7 ⟨rfl, rfl⟩
    go_wp2_with fail
    refine (HAw.out _).mono ?_
    rintro e w8 ⟨rfl, b8⟩
    go_wp2
    go_ret
    exact ⟨rfl, below_nx B4.out b8⟩
  · rw [hb] at HRW
    obtain ⟨m, l, rfl, rfl, hm, hw⟩ := good1 hb
    rw [hw.take hm] at HLi
    have hm0 := hm.pos
    have k0 := Int.emod_nonneg k (show (m : Int) ≠ 0 by omega)
    have k1 := Int.emod_lt_of_pos k (show (0 : Int) < m by omega)
    obtain ⟨t, ht⟩ := Int.eq_ofNat_of_zero_le k0
    have htm : t < m := by omega
    have htn : (k % (m : Int)).toNat = t := by rw [ht]; rfl
    have HM := Lib.hid (fun u W (h : IntsV W u (natI l)) => Move_ok m hm l hw k t ht htm u W h)
    have HT := Lib.hid (fun u W (h : IntsV W u (natI l)) => Turn_ok m hm l hw u W h)
    have HRM := Lib.hid (fun W (h : IntsV W v (natI l)) => RMove_any m hm (ofL l) k t htn htm v W (by rw [hw.taf]; exact h))
    have HRT := Lib.hid (fun W (h : IntsV W v (natI l)) => RTurn_any m hm (ofL l) v W (by rw [hw.taf]; exact h))
    have HE := Lib.hid (fun f a b W ha hb => by have := Equal_any (natI (tabN m f)) (natI (tabN m f)) a b W (tab_max hm f) (tab_max hm f) ha hb; rwa [show (natI (tabN m f) == natI (tabN m f)) = true from beq_self_eq_true _] at this)
    obtain ⟨ao, cap, rfl, _, _⟩ := h
    clear hb hl hm hw k0 k1 ht htn htm
    generalize mvF m t (ofL l) = mf at *
    generalize tuF m (ofL l) = tf at *
    generalize natI l = xs at *
    go_enter Try.func8, Try.ntmps8
    go_wp2_with fail
    refine (HLi.out _ HV.out).mono ?_
    rintro e w1 ⟨v1, rfl, i1, b1⟩
    have I1 := Lib.hid i1
    have B1 := Lib.hid b1
    clear i1 b1
    go_wp2_with fail
    refine (HM.out _ _ I1.out).mono ?_
    rintro e w2 ⟨va, rfl, ia, b2⟩
    have B2 := Lib.hid (below_nx B1.out b2)
    have IA2 := Lib.hid ia
    clear b2 ia
    go_wp2_with fail
    refine (HLi.out _ (HV.out.later B2.out)).mono ?_
    rintro e w3 ⟨v3, rfl, i3, b3⟩
    have I3 := Lib.hid i3
    have B3 := Lib.hid (below_nx B2.out b3)
    have IA3 := Lib.hid (IA2.out.later b3)
    clear i3 b3
    go_wp2_with fail
    refine (HT.out _ _ I3.out).mono ?_
    rintro e w4 ⟨vb, rfl, ib, b4⟩
    have B4 := Lib.hid (below_nx B3.out b4)
    have IA4 := Lib.hid (IA3.out.later b4)
    have IB4 := Lib.hid ib
    clear b4 ib
    go_wp2_with fail
    refine (HRW.out _ (HV.out.later B4.out)).mono ?_
    rintro e w7 ⟨rfl, rfl⟩
    go_wp2_with fail
    refine (HRM.out _ (HV.out.later B4.out)).mono ?_
    rintro e w7 ⟨g7, rfl, _, o7⟩
    have B7 := Lib.hid (B4.out.trans (o7.hb.mono B4.out.size))
    have IB7 := Lib.hid (IB4.out.later o7.hb)
    have E7 := Lib.hid (HE.out mf _ _ w7 (IA4.out.later o7.hb) o7.list)
    clear o7
    go_wp2_with fail
    refine E7.out.mono ?_
    rintro e w8 ⟨rfl, q8, rfl⟩
    have B8 := Lib.hid (bl_drewN B7.out q8)
    have IB8 := Lib.hid (IB7.out.later (below_drewN w7 q8))
    generalize w7.drewN q8 = w8 at *
    go_wp2_with fail
    refine (HRT.out _ (HV.out.later B8.out)).mono ?_
    rintro e w9 ⟨g9, rfl, _, o9⟩
    have B9 := Lib.hid (B8.out.trans (o9.hb.mono B8.out.size))
    have E9 := Lib.hid (HE.out tf _ _ w9 (IB8.out.later o9.hb) o9.list)
    clear o9
    go_wp2_with fail
    refine E9.out.mono ?_
    rintro e w10 ⟨rfl, q10, rfl⟩
    have B10 := Lib.hid (bl_drewN B9.out q10)
    generalize w9.drewN q10 = w10 at *
    go_wp2_with fail
    refine (HAw.out _).mono ?_
    rintro e w13 ⟨rfl, b13⟩
    go_wp2
    go_ret
    exact ⟨rfl, below_nx B10.out b13⟩
end Go.Proofs.Ytcgaaebogkhefaa
