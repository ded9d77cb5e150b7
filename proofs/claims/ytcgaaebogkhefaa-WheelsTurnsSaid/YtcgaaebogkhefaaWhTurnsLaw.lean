/-
  The statement on spectra and powers of wheels moved and turned.
-/
import Derived.Test.YtcgaaebogkhefaaWhProdLaw
namespace Go.Proofs.Ytcgaaebogkhefaa
open Go.ChangeShapes Go.WideShapes Go.ChangeAt Go.RowKit
set_option maxRecDepth 100000

theorem umodW (x : Int) {n : Nat} (h : 0 < n) (hn : n < 17) : ∃ u : Nat, (IntKind.u64.wrap x).tmod (n : Int) = (u : Int) ∧ u < n ∧ IntKind.u64.wrap (n : Int) = (n : Int) := by
  have e : IntKind.u64.wrap x = x % 18446744073709551616 := IntKind.wrap_u64 x
  have e2 : IntKind.u64.wrap (n : Int) = (n : Int) % 18446744073709551616 := IntKind.wrap_u64 _
  obtain ⟨U, hU⟩ : ∃ U : Nat, x % 18446744073709551616 = (U : Int) := Int.eq_ofNat_of_zero_le (by omega)
  exact ⟨U % n, by rw [e, hU, Int.tmod_eq_emod_of_nonneg (by omega)]; simp, Nat.mod_lt _ h, by rw [e2]; omega⟩

/-- A place of the spectrum times a power of the root. -/
def pwF (n : Nat) (a : Nat → Nat) (k i : Nat) : Nat := (a k * wN n ^ i) % qN n
theorem pw_zero {n : Nat} {a : Nat → Nat} (ha : ∀ x, a x < qN n) (k : Nat) : pwF n a k 0 = a k := by
  unfold pwF; rw [Nat.pow_zero, Nat.mul_one, Nat.mod_eq_of_lt (ha k)]
theorem pw_succ (n : Nat) (a : Nat → Nat) (k i : Nat) : pwF n a k (i + 1) = pwF n a k i * wN n % qN n := by
  unfold pwF; rw [Nat.pow_succ, ← Nat.mul_assoc, Nat.mod_mul_mod]
theorem turn_facts {n j r : Nat} (hj : j < n) (hr : r = (n - j) % n) : r < n ∧ ((n : Int) - (j : Int)).tmod (n : Int) = (r : Int) ∧ ((n : Int) - (j : Int)) % (n : Int) = (r : Int) := by
  have e : ((n : Int) - (j : Int)) % (n : Int) = (r : Int) := by rw [hr, Int.natCast_emod, Int.natCast_sub (by omega)]
  exact ⟨by rw [hr]; exact Nat.mod_lt _ (by omega), by rw [Int.tmod_eq_emod_of_nonneg (by omega)]; exact e, e⟩
theorem pw_facts {q a w p : Nat} (hq : q ≤ 97) (l1 : a < q) (l2 : w < q) (hp : p = a * w % q) :
    (0 ≤ (a : Int) * (w : Int) ∧ (a : Int) * (w : Int) ≤ 10000000000) ∧ ((a : Int) * (w : Int)) % (q : Int) = (p : Int) ∧ ((a : Int) * (w : Int)).tmod (q : Int) = (p : Int) ∧
    IntKind.i64.wrap ((a : Int) * (w : Int)) = (a : Int) * (w : Int) ∧ wrap64 ((a : Int) * (w : Int)) = (a : Int) * (w : Int) ∧ p < q ∧ ¬ q = 0 := by
  obtain ⟨h1, h2, h3, _, _, h4, h5, h6, _, h7, _⟩ := prod_facts hq l1 l2 hp (rfl : (a + w) % q = (a + w) % q)
  exact ⟨h1, h2, h3, h4, h5, h6, h7⟩
theorem jm_facts {j m t : Nat} (hj : j < 17) (ht : t < m) (hm : m < 17) : ∃ E : Nat, E = j * t ∧ (j : Int) * (t : Int) = (E : Int) ∧ E ≤ 289 := by
  exact ⟨j * t, rfl, by simp, by have := Nat.mul_le_mul (show j ≤ 17 by omega) (show t ≤ 17 by omega); omega⟩

set_option maxHeartbeats 4000000 in
theorem WheelsTurns_walk (n : Int) (xs : List Int) (x : Int) (v : Value) (w : World) (_wf : (Lit.int .i64 n).wf = true) (hl : xs.length ≤ maxLen) (h : IntsV w v xs) (_wx : (Lit.int .i64 x).wf = true) :
    Calls Try.prog 11 #[.int .i64 n, v, .int .i64 x] w fun e w' => e = .returned (.bool true) ∧ Below w.heap.size w w' := by
  have hmx : Try.prog.follows .mixedOrders = true := by kernel_rfl
  have HAw := Lib.hid (fun W => wawake_any W)
  have HLf := Lib.hid (fun W (h : IntsV W v xs) => wlist_any xs v W hl h)
  have HRf := Lib.hid (fun W (h : IntsV W v xs) => RWheel_any n xs v W hl h)
  have HV := Lib.hid h
  cases hb : (circB n && wheelB n.toNat xs)
  · rw [hb] at HRf
    have HTb := Lib.hid (fun a W (ha : IntsV W a (xs.take 19)) => Turn_bad n (xs.take 19) a W take19 ha (bad1 hb))
    obtain ⟨ao, cap, rfl, _, _⟩ := h
    clear hb hl
    generalize xs.take 19 = us at *
    go_enter Try.func11, Try.ntmps11
    go_wp2_with fail
    refine (HRf.out _ HV.out).mono ?_
    rintro e w1 ⟨rfl, rfl⟩
    go_wp2_with fail
    refine (HLf.out _ HV.out).mono ?_
    rintro e w1 ⟨v1, rfl, i1, b1⟩
    have I1 := Lib.hid i1
    have B1 := Lib.hid b1
    clear i1 b1
    go_wp2_with fail
    refine (HTb.out _ _ I1.out).mono ?_
    rintro e w3 ⟨rfl, b3⟩
    have B3 := Lib.hid (below_nx B1.out b3)
    clear b3
    go_wp2_with fail
    refine (HAw.out _).mono ?_
    rintro e w4 ⟨rfl, b4⟩
    go_wp2
    go_ret
    exact ⟨rfl, below_nx B3.out b4⟩
  · rw [hb] at HRf
    obtain ⟨m, l, rfl, rfl, hm, hw⟩ := good1 hb
    rw [hw.take hm] at HLf
    have hm0 := hm.pos
    have hm17 := hm.2
    have hq := hm.q_le
    have hqn := hm.n_lt
    have hw2 := hm.w_ge
    have hwq := hm.w_lt
    have hf := hw.wh hm
    obtain ⟨t, ht1, ht2, hwn⟩ := umodW x hm0 hm17
    have htm : ((t : Nat) : Int) % ((m : Nat) : Int) = ((t : Nat) : Int) := Int.emod_eq_of_lt (by omega) (by omega)
    have HPr := Lib.hid (fun W => Prime_ok m hm W)
    have HRo := Lib.hid (fun W => Root_ok m hm W)
    have HMv := Lib.hid (fun a W (h : IntsV W a (natI l)) => Move_ok m hm l hw (t : Int) t htm ht2 a W h)
    have HTu := Lib.hid (fun a W (h : IntsV W a (natI l)) => Turn_ok m hm l hw a W h)
    have HSf := Lib.hid (fun a W (h : IntsV W a (natI l)) => Spectrum_ok m hm l hw a W h)
    have HPf := Lib.hid (fun a W (h : IntsV W a (natI l)) => Power_ok m hm l hw a W h)
    have hmw := mv_wh hm t hf
    have htw := tu_wh hm hf
    have HSm := Lib.hid (fun a W (h : IntsV W a (natI (tabN m (mvF m t (ofL l))))) => by
      have := Spectrum_ok m hm _ (WhL.tab hmw) a W h
      rw [ofL_tab hmw] at this
      exact this)
    have HSu := Lib.hid (fun a W (h : IntsV W a (natI (tabN m (tuF m (ofL l))))) => by
      have := Spectrum_ok m hm _ (WhL.tab htw) a W h
      rw [ofL_tab htw] at this
      exact this)
    have HPm := Lib.hid (fun a W (h : IntsV W a (natI (tabN m (mvF m t (ofL l))))) => by
      have := Power_ok m hm _ (WhL.tab hmw) a W h
      rw [ofL_tab hmw, po_move hm ht2] at this
      exact this)
    have HPu := Lib.hid (fun a W (h : IntsV W a (natI (tabN m (tuF m (ofL l))))) => by
      have := Power_ok m hm _ (WhL.tab htw) a W h
      rw [ofL_tab htw, po_turn hm] at this
      exact this)
    have HCl := Lib.hid (fun f a W (h : IntsV W a (natI (tabN m f))) => Clone_any (natI (tabN m f)) a W (by rw [natI_len, tabN_length]; omega) h)
    have HE := Lib.hid (fun (zs : List Int) (hz : zs.length ≤ maxLen) a b W ha hb => by have := Equal_any zs zs a b W hz hz ha hb; rwa [show (zs == zs) = true from beq_self_eq_true _] at this)
    have HZ := Lib.hid (tab_max hm (poF m (ofL l)))
    have HSl := Lib.hid (sp_wh hm (ofL l)).lt
    have HP0 := Lib.hid (fun j => pw_zero (sp_wh hm (ofL l)).lt j)
    have HPs := Lib.hid (fun j i => pw_succ m (spF m (ofL l)) j i)
    have HPl := Lib.hid (fun j i => (show pwF m (spF m (ofL l)) j i < qN m from Nat.mod_lt _ hm.q_pos))
    have HB := Lib.hid (fun j (hj : j < m) => (show spF m (mvF m t (ofL l)) j = pwF m (spF m (ofL l)) j (j * t) from Md.eq ((sp_move hm hj ht2 (ofL l)).trans (Md.mod _ _).symm) ((sp_wh hm _).lt _) (Nat.mod_lt _ hm.q_pos)))
    have HU := Lib.hid (fun j (hj : j < m) => sp_turn hm hj (ofL l))
    obtain ⟨ao, cap, rfl, _, _⟩ := h
    clear hb hl hm hw hf hmw htw htm
    generalize pwF m (spF m (ofL l)) = pw at *
    generalize spF m (mvF m t (ofL l)) = sb at *
    generalize spF m (tuF m (ofL l)) = sc at *
    generalize spF m (ofL l) = sa at *
    generalize poF m (ofL l) = po at *
    generalize mvF m t (ofL l) = mf at *
    generalize tuF m (ofL l) = uf at *
    generalize natI l = xs at *
    generalize wN m = wr at *
    generalize qN m = q at *
    have g1 : (decide ((q : Int) < 2)) = false := by rw [decide_eq_false_iff_not]; omega
    have g2 : (decide ((1000 : Int) < (q : Int))) = false := by rw [decide_eq_false_iff_not]; omega
    have g3 : (decide ((wr : Int) < 2)) = false := by rw [decide_eq_false_iff_not]; omega
    have g4 : (decide ((q : Int) ≤ (wr : Int))) = false := by rw [decide_eq_false_iff_not]; omega
    go_enter Try.func11, Try.ntmps11
    go_wp2_with fail
    refine (HRf.out _ HV.out).mono ?_
    rintro e w1 ⟨rfl, rfl⟩
    go_wp2_with fail
    refine (HPr.out _).mono ?_
    rintro e w1 ⟨rfl, b1⟩
    have B1 := Lib.hid b1
    clear b1
    go_wp2_with fail
    refine (HRo.out _).mono ?_
    rintro e w2 ⟨rfl, b2⟩
    have B0 := Lib.hid (below_nx B1.out b2)
    clear b2
    go_wp2_with fail
    refine (HLf.out _ (HV.out.later B0.out)).mono ?_
    rintro e u3 ⟨v3, rfl, i3, b3⟩
    have I3 := Lib.hid i3
    have Bn3 := Lib.hid (below_nx B0.out b3)
    clear i3 b3
    go_wp2_with fail
    refine (HMv.out _ _ I3.out).mono ?_
    rintro e u4 ⟨v4, rfl, i4, b4⟩
    have I34 := Lib.hid (I3.out.later b4)
    have M := Lib.hid i4
    have Bn4 := Lib.hid (below_nx Bn3.out b4)
    clear i4 b4
    go_wp2_with fail
    refine (HLf.out _ (HV.out.later Bn4.out)).mono ?_
    rintro e u5 ⟨v5, rfl, i5, b5⟩
    have M5 := Lib.hid (M.out.later b5)
    have I5 := Lib.hid i5
    have Bn5 := Lib.hid (below_nx Bn4.out b5)
    clear i5 b5
    go_wp2_with fail
    refine (HTu.out _ _ I5.out).mono ?_
    rintro e u6 ⟨v6, rfl, i6, b6⟩
    have M6 := Lib.hid (M5.out.later b6)
    have I56 := Lib.hid (I5.out.later b6)
    have U := Lib.hid i6
    have Bn6 := Lib.hid (below_nx Bn5.out b6)
    clear i6 b6
    go_wp2_with fail
    refine (HLf.out _ (HV.out.later Bn6.out)).mono ?_
    rintro e u7 ⟨v7, rfl, i7, b7⟩
    have M7 := Lib.hid (M6.out.later b7)
    have U7 := Lib.hid (U.out.later b7)
    have I7 := Lib.hid i7
    have Bn7 := Lib.hid (below_nx Bn6.out b7)
    clear i7 b7
    go_wp2_with fail
    refine (HSf.out _ _ I7.out).mono ?_
    rintro e u8 ⟨v8, rfl, i8, b8⟩
    have M8 := Lib.hid (M7.out.later b8)
    have U8 := Lib.hid (U7.out.later b8)
    have I78 := Lib.hid (I7.out.later b8)
    have A := Lib.hid i8
    have Bn8 := Lib.hid (below_nx Bn7.out b8)
    clear i8 b8
    go_wp2_with fail
    refine (HCl.out _ _ _ M8.out).mono ?_
    rintro e u9 ⟨v9, rfl, i9, b9⟩
    have M9 := Lib.hid (M8.out.later b9)
    have U9 := Lib.hid (U8.out.later b9)
    have A9 := Lib.hid (A.out.later b9)
    have K := Lib.hid i9
    have Bn9 := Lib.hid (below_nx Bn8.out b9)
    clear i9 b9
    go_wp2_with fail
    refine (HSm.out _ _ K.out).mono ?_
    rintro e u10 ⟨v10, rfl, i10, b10⟩
    have M10 := Lib.hid (M9.out.later b10)
    have U10 := Lib.hid (U9.out.later b10)
    have A10 := Lib.hid (A9.out.later b10)
    have K10 := Lib.hid (K.out.later b10)
    have D := Lib.hid i10
    have Bn10 := Lib.hid (below_nx Bn9.out b10)
    clear i10 b10
    go_wp2_with fail
    refine (HCl.out _ _ _ U10.out).mono ?_
    rintro e u11 ⟨v11, rfl, i11, b11⟩
    have M11 := Lib.hid (M10.out.later b11)
    have U11 := Lib.hid (U10.out.later b11)
    have A11 := Lib.hid (A10.out.later b11)
    have D11 := Lib.hid (D.out.later b11)
    have K := Lib.hid i11
    have Bn11 := Lib.hid (below_nx Bn10.out b11)
    clear i11 b11
    go_wp2_with fail
    refine (HSu.out _ _ K.out).mono ?_
    rintro e u12 ⟨v12, rfl, i12, b12⟩
    have M12 := Lib.hid (M11.out.later b12)
    have U12 := Lib.hid (U11.out.later b12)
    have A12 := Lib.hid (A11.out.later b12)
    have D12 := Lib.hid (D11.out.later b12)
    have K12 := Lib.hid (K.out.later b12)
    have C := Lib.hid i12
    have Bn12 := Lib.hid (below_nx Bn11.out b12)
    clear i12 b12
    go_wp2_with fail
    refine (HLf.out _ (HV.out.later Bn12.out)).mono ?_
    rintro e u13 ⟨v13, rfl, i13, b13⟩
    have M13 := Lib.hid (M12.out.later b13)
    have U13 := Lib.hid (U12.out.later b13)
    have A13 := Lib.hid (A12.out.later b13)
    have D13 := Lib.hid (D12.out.later b13)
    have C13 := Lib.hid (C.out.later b13)
    have I13 := Lib.hid i13
    have Bn13 := Lib.hid (below_nx Bn12.out b13)
    clear i13 b13
    go_wp2_with fail
    refine (HPf.out _ _ I13.out).mono ?_
    rintro e u14 ⟨v14, rfl, i14, b14⟩
    have M14 := Lib.hid (M13.out.later b14)
    have U14 := Lib.hid (U13.out.later b14)
    have A14 := Lib.hid (A13.out.later b14)
    have D14 := Lib.hid (D13.out.later b14)
    have C14 := Lib.hid (C13.out.later b14)
    have I1314 := Lib.hid (I13.out.later b14)
    have X := Lib.hid i14
    have Bn14 := Lib.hid (below_nx Bn13.out b14)
    clear i14 b14
    go_wp2_with fail
    refine (HCl.out _ _ _ M14.out).mono ?_
    rintro e u15 ⟨v15, rfl, i15, b15⟩
    have M15 := Lib.hid (M14.out.later b15)
    have U15 := Lib.hid (U14.out.later b15)
    have A15 := Lib.hid (A14.out.later b15)
    have D15 := Lib.hid (D14.out.later b15)
    have C15 := Lib.hid (C14.out.later b15)
    have X15 := Lib.hid (X.out.later b15)
    have K := Lib.hid i15
    have Bn15 := Lib.hid (below_nx Bn14.out b15)
    clear i15 b15
    go_wp2_with fail
    refine (HPm.out _ _ K.out).mono ?_
    rintro e u16 ⟨v16, rfl, i16, b16⟩
    have U16 := Lib.hid (U15.out.later b16)
    have A16 := Lib.hid (A15.out.later b16)
    have D16 := Lib.hid (D15.out.later b16)
    have C16 := Lib.hid (C15.out.later b16)
    have X16 := Lib.hid (X15.out.later b16)
    have K16 := Lib.hid (K.out.later b16)
    have Y := Lib.hid i16
    have Bn16 := Lib.hid (below_nx Bn15.out b16)
    clear i16 b16
    go_wp2_with fail
    refine (HCl.out _ _ _ U16.out).mono ?_
    rintro e u17 ⟨v17, rfl, i17, b17⟩
    have U17 := Lib.hid (U16.out.later b17)
    have A17 := Lib.hid (A16.out.later b17)
    have D17 := Lib.hid (D16.out.later b17)
    have C17 := Lib.hid (C16.out.later b17)
    have X17 := Lib.hid (X16.out.later b17)
    have Y17 := Lib.hid (Y.out.later b17)
    have K := Lib.hid i17
    have Bn17 := Lib.hid (below_nx Bn16.out b17)
    clear i17 b17
    go_wp2_with fail
    refine (HPu.out _ _ K.out).mono ?_
    rintro e u18 ⟨v18, rfl, i18, b18⟩
    have A18 := Lib.hid (A17.out.later b18)
    have D18 := Lib.hid (D17.out.later b18)
    have C18 := Lib.hid (C17.out.later b18)
    have X18 := Lib.hid (X17.out.later b18)
    have Y18 := Lib.hid (Y17.out.later b18)
    have K18 := Lib.hid (K.out.later b18)
    have Z := Lib.hid i18
    have Bn18 := Lib.hid (below_nx Bn17.out b18)
    clear i18 b18
    have Az := A18
    have Dz := D18
    have Cz := C18
    have Xz := X18
    have Yz := Y18
    have Zz := Z
    have Bz := Bn18
    obtain ⟨ab, ao2, ac, ea, hac, had⟩ := tab_cells Az.out hm0
    obtain ⟨db, dO, dc, ed, hdc, hdd⟩ := tab_cells Dz.out hm0
    obtain ⟨cb, co, cc, ec, hcc, hcd⟩ := tab_cells Cz.out hm0
    have HE1 := Lib.hid (HE.out _ HZ.out _ _ _ Xz.out Yz.out)
    have HE2 := Lib.hid (fun q => HE.out _ HZ.out _ _ _ (Xz.out.later (below_drewN u18 q)) (Zz.out.later (below_drewN u18 q)))
    have HAd := Lib.hid had
    have HDd := Lib.hid hdd
    have HCd := Lib.hid hcd
    clear had hdd hcd Xz Yz Zz Az Dz Cz
    subst ea ed ec
    go_wp2_with fail
    refine HE1.out.mono ?_
    rintro e x1 ⟨rfl, r1, rfl⟩
    go_wp2_with fail
    refine (HE2.out r1).mono ?_
    rintro e x2 ⟨rfl, r2, rfl⟩
    have hd2 : Below u18.heap.size u18 ((u18.drewN r1).drewN r2) := below_drewN' u18 r1 r2
    have HX := Lib.hid (below_nx Bz.out hd2)
    have AX := Lib.hid (fun i (hi : i < m) => cell_later hd2 (HAd.out i hi))
    have DX := Lib.hid (fun i (hi : i < m) => cell_later hd2 (HDd.out i hi))
    have CX := Lib.hid (fun i (hi : i < m) => cell_later hd2 (HCd.out i hi))
    clear hd2 HAd HDd HCd HE1 HE2 Bz
    generalize (u18.drewN r1).drewN r2 = X at *
    go_wp2_with fail
    go_loopw [206] (fun i xr => ∃ j : Nat, j ≤ m ∧ i = .int .i64 (j : Int) ∧ Below X.heap.size X xr) (fun i _ => m - (intOf i).toNat)
    case atStart => exact ⟨0, Nat.zero_le _, rfl, Below.refl _ _⟩
    case round =>
      obtain ⟨j, hj, rfl, hbx⟩ := hrel
      have HBX := Lib.hid hbx
      clear hbx
      by_cases hlt : j < m
      · have e1 := cell_later HBX.out (AX.out j hlt)
        obtain ⟨E, hE0, hE, hEb⟩ := jm_facts (show j < 17 by omega) ht2 hm17
        have HE0 := Lib.hid hE0
        have HQ0 := Lib.hid (HP0.out j)
        have HQs := Lib.hid (fun i => HPs.out j i)
        have HQl := Lib.hid (fun i => HPl.out j i)
        have hbe := HB.out j hlt
        rw [← hE0] at hbe
        have HBe := Lib.hid hbe
        have HUe := Lib.hid (HU.out j hlt)
        clear hE0 hbe
        generalize sa j = y at *
        generalize hpj : pw j = pj at *
        clear hpj
        go_wp2_with fail
        go_loopw [30, 216] (fun v i yr => ∃ c : Nat, c ≤ E ∧ v = .int .i64 ((pj c : Nat) : Int) ∧ i = .int .i64 (c : Int) ∧ Below X.heap.size X yr) (fun _ i _ => E - (intOf i).toNat)
        case atStart => exact ⟨0, Nat.zero_le _, by rw [HQ0.out], rfl, HBX.out⟩
        case round =>
          obtain ⟨c, hc, rfl, rfl, hby⟩ := hrel
          have HBY := Lib.hid hby
          clear hby
          by_cases hlc : c < E
          · obtain ⟨f1, f2, f3, f4, f5, f6, f7⟩ := pw_facts hq (HQl.out c) hwq (HQs.out c)
            have HP1 := Lib.hid (show ∃ p1, p1 = pj (c + 1) from ⟨_, rfl⟩)
            obtain ⟨p1, hp1⟩ := HP1.out
            have HP2 := Lib.hid hp1
            rw [← hp1] at f2 f3 f6
            clear hp1 HP1
            generalize pj c = p0 at *
            go_wp2
            go_roundw
            case rel => exact ⟨c + 1, by omega, by rw [← HP2.out], by go_num, HBY.out⟩
            case measure => simp only [intOf]; omega
          · obtain rfl : c = E := by omega
            obtain ⟨hr, t1, t2⟩ := turn_facts (r := (m - j) % m) hlt rfl
            have e4 := cell_later HBY.out (DX.out j hlt)
            rw [HBe.out] at e4
            have e5 := cell_later HBY.out (CX.out j hlt)
            rw [HUe.out] at e5
            have e6 := cell_later HBY.out (AX.out _ hr)
            generalize (m - j) % m = r at *
            generalize sa r = z at *
            clear HBe HUe
            generalize pj c = p at *
            have n1 : (((p : Nat) : Int) == ((p : Nat) : Int)) = true := beq_self_eq_true _
            have n2 : (((z : Nat) : Int) == ((z : Nat) : Int)) = true := beq_self_eq_true _
            have hmn : ¬ m = 0 := by omega
            go_upto_region 25 with fail
            go_quiet (fail)
            go_wp2
            go_roundw
            case rel => exact ⟨j + 1, by omega, by go_num, by first | exact HBY.out | exact bl_drewN HBY.out _⟩
            case measure => simp only [intOf]; omega
      · obtain rfl : j = m := by omega
        go_wp2_with fail
        refine (HAw.out _).mono ?_
        rintro e y1 ⟨rfl, by1⟩
        go_wp2
        go_ret
        exact ⟨rfl, below_nx (below_nx HX.out HBX.out) by1⟩
end Go.Proofs.Ytcgaaebogkhefaa
