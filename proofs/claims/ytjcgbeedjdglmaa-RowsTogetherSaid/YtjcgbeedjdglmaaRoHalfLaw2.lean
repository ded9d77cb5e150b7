/-
  The statement on rows with every step: their ends, their halves, their multiples.
-/
import Derived.Test.YtjcgbeedjdglmaaRoHalfLaw
namespace Go.Proofs.Ytjcgbeedjdglmaa
open Go.ChangeShapes Go.WideShapes Go.ChangeAt Go.RowKit
set_option maxRecDepth 100000

theorem ends_dist {n a z : Nat} (hn : n % 2 = 0) (ha : a < n) (h : (a + n / 2) % n = z) : ((z : Int) - a = (n : Int) / 2 ∨ (z : Int) - a = -((n : Int) / 2)) := by
  by_cases hc : a + n / 2 < n
  · rw [Nat.mod_eq_of_lt hc] at h; left; omega
  · rw [Nat.mod_eq_sub_mod (by omega), Nat.mod_eq_of_lt (by omega)] at h; right; omega

theorem times_int {n m x : Nat} : ((1 + (m : Int)) * (x : Int)).tmod (n : Int) = (((m + 1) * x % n : Nat) : Int) := by
  have e : (1 + (m : Int)) * (x : Int) = (((m + 1) * x : Nat) : Int) := by rw [Int.natCast_mul, Int.natCast_add]; congr 1; omega
  rw [e, Int.tmod_eq_emod_of_nonneg (by omega)]; simp

theorem timesL_take {n m : Nat} {ys : List Nat} {k : Nat} (hk : k < ys.length) : (timesL n m ys).take (k + 1) = (timesL n m ys).take k ++ [m * (ys[k]?.getD 0) % n] := by
  have hl : k < (timesL n m ys).length := by unfold timesL; rw [List.length_map]; exact hk
  rw [List.take_succ_eq_append_getElem hl, ← times_at (n := n) (m := m) hk, List.getElem?_eq_getElem hl]; rfl

set_option maxHeartbeats 4000000 in
theorem RowsHalf_walk (xs : List Int) (m : Int) (v : Value) (w : World) (hl : xs.length ≤ maxLen) (h : IntsV w v xs) (wm : (Lit.int .i64 m).wf = true) :
    Calls Try.prog 14 #[v, .int .i64 m] w fun e w' => e = .returned (.bool true) ∧ Below w.heap.size w w' := by
  have HAw := Lib.hid (fun W => awake_any W)
  have HL := Lib.hid (fun W hW => list_any xs v W hl hW)
  have HRo := Lib.hid (fun W hW => RRow_any xs v W hl hW)
  have H := Lib.hid h
  obtain ⟨ao, cap, hv, _⟩ := h
  cases hr : rowB xs
  · have HF := Lib.hid (fun u W hu => Halves_bad (xs.take 13) (take_len xs) (by rw [row_take]; exact hr) u W hu)
    have HE := Lib.hid (fun u W hu => Every_bad (xs.take 13) (take_len xs) (by rw [row_take]; exact hr) u W hu)
    clear hr
    subst hv
    go_enter Try.func14, Try.ntmps14
    go_wp2_with fail
    refine (HL.out _ H.out).mono ?_
    rintro e w1 ⟨v1, rfl, i1, b1⟩
    have J1 := Lib.hid (HF.out v1 w1 i1)
    clear i1
    go_wp2_with fail
    refine J1.out.mono ?_
    rintro e w2 ⟨rfl, b2⟩
    have B2 := Lib.hid (below_nx b1 b2)
    have K2 := Lib.hid (H.out.later B2.out)
    clear b1 b2
    go_wp2_with fail
    refine (HL.out _ K2.out).mono ?_
    rintro e w3 ⟨v3, rfl, i3, b3⟩
    have J3 := Lib.hid (HE.out v3 w3 i3)
    have B3 := Lib.hid (below_nx B2.out b3)
    clear i3 b3
    go_wp2_with fail
    refine J3.out.mono ?_
    rintro e w4 ⟨rfl, rfl⟩
    go_wp2_with fail
    refine (HAw.out _).mono ?_
    rintro e w5 ⟨rfl, b5⟩
    go_wp2
    go_ret
    exact ⟨rfl, below_nx B3.out b5⟩
  · obtain ⟨ys, rfl, hR⟩ := row_nat hr
    rw [row_take13 hR] at HL
    rw [hr] at HRo
    rw [natI_length] at hv
    have HE := Lib.hid (fun u W hu => Every_ok _ ys hR u W hu)
    cases he : everyB ys.length ys
    · have HF := Lib.hid (fun u W hu => Halves_state _ ys hR he u W hu)
      rw [he] at HE
      clear hr hl hR he
      generalize natI ys = xs at *
      generalize ys.length = n at *
      subst hv
      go_enter Try.func14, Try.ntmps14
      go_wp2_with fail
      refine (HL.out _ H.out).mono ?_
      rintro e w1 ⟨v1, rfl, i1, b1⟩
      have J1 := Lib.hid (HF.out v1 w1 i1)
      clear i1
      go_wp2_with fail
      refine J1.out.mono ?_
      rintro e w2 ⟨rfl, b2⟩
      have B2 := Lib.hid (below_nx b1 b2)
      have K2 := Lib.hid (H.out.later B2.out)
      clear b1 b2
      go_wp2_with fail
      refine (HL.out _ K2.out).mono ?_
      rintro e w3 ⟨v3, rfl, i3, b3⟩
      have J3 := Lib.hid (HE.out v3 w3 i3)
      have B3 := Lib.hid (below_nx B2.out b3)
      clear i3 b3
      go_wp2_with fail
      refine J3.out.mono ?_
      rintro e w4 ⟨rfl, b4⟩
      have B4 := Lib.hid (below_nx B3.out b4)
      clear b4
      go_wp2_with fail
      refine (HAw.out _).mono ?_
      rintro e w5 ⟨rfl, b5⟩
      go_wp2
      go_ret
      exact ⟨rfl, below_nx B4.out b5⟩
    · have HF := Lib.hid (fun u W hu => Halves_ok _ ys hR he u W hu)
      have hH := halves_row hR
      have hHe := halves_every hR he
      have HF2 := Lib.hid (fun u W hu => Halves_ok _ _ hH hHe u W hu)
      rw [halves_twice hR he] at HF2
      have HE2 := Lib.hid (fun u W hu => Every_ok _ _ hH u W hu)
      rw [hHe] at HE2
      rw [he] at HE
      have hlx := row_len hR
      have hlh := row_len hH
      have HCl := Lib.hid (fun u W hu => Clone_any (natI (halvesL ys.length ys)) u W (by rw [natI_length, hH.len]; have := hH.hi; omega) hu)
      have HEq := Lib.hid (fun a b W ha hb => Equal_any (natI ys) (natI ys) a b W hlx hlx ha hb)
      rw [show (natI ys == natI ys) = true from beq_self_eq_true _] at HEq
      have HT := Lib.hid (fun m (hg : Nat.gcd m ys.length = 1) u W hu => Every_ok _ _ (times_row hR hg) u W hu)
      have HTe := Lib.hid (fun m (hg : Nat.gcd m ys.length = 1) => times_every hR hg he)
      obtain ⟨hev, hen⟩ := every_ends hR he
      have hY := fun i => getD_lt hR.lt hR.pos i
      have hdist := ends_dist hev (hY 0) hen
      have HYs := Lib.hid hY
      have hlo := hR.lo
      have hhi := hR.hi
      have HTk := Lib.hid (fun m k hk => timesL_take (n := ys.length) (m := m) (ys := ys) (k := k) hk)
      have HTl := Lib.hid (fun m => show (timesL ys.length m ys).length = ys.length from List.length_map _)
      clear hr hl he hH hHe hlx hlh hen hY
      obtain ⟨ao', cap', hv', _, hc'⟩ := H.out
      rw [natI_length] at hv' hc'
      obtain ⟨b, off, hao, hd⟩ := hc' (by omega)
      rw [hv] at hv'
      cases hv'
      subst hao
      have HC := Lib.hid (fun i hi => (hd i hi).trans (by rw [natI_at]))
      clear hc' hd hR
      generalize natI (halvesL ys.length ys) = hs at *
      generalize hn : ys.length = n at *
      subst hv
      have HN := Lib.hid hn
      clear hn
      go_enter Try.func14, Try.ntmps14
      go_wp2_with fail
      refine (HL.out _ H.out).mono ?_
      rintro e w1 ⟨v1, rfl, i1, b1⟩
      have J1 := Lib.hid (HF.out v1 w1 i1)
      clear i1
      go_wp2_with fail
      refine J1.out.mono ?_
      rintro e w2 ⟨v2, rfl, i2, b2⟩
      have B2 := Lib.hid (below_nx b1 b2)
      have I2 := Lib.hid i2
      have K2 := Lib.hid (H.out.later B2.out)
      clear b1 b2 i2
      go_wp2_with fail
      refine (HL.out _ K2.out).mono ?_
      rintro e w3 ⟨v3, rfl, i3, b3⟩
      have J3 := Lib.hid (HE.out v3 w3 i3)
      have B3 := Lib.hid (below_nx B2.out b3)
      have I3 := Lib.hid (I2.out.later b3)
      clear i3 b3
      go_wp2_with fail
      refine J3.out.mono ?_
      rintro e w4 ⟨rfl, b4⟩
      have B4 := Lib.hid (below_nx B3.out b4)
      have I4 := Lib.hid (I3.out.later b4)
      have K4 := Lib.hid (H.out.later B4.out)
      clear b4
      go_wp2_with fail
      refine (HRo.out _ K4.out).mono ?_
      rintro e w5 ⟨rfl, rfl⟩
      go_wp2_with fail
      refine (HCl.out _ _ I4.out).mono ?_
      rintro e w6 ⟨v6, rfl, i6, b6⟩
      have J6 := Lib.hid (HF2.out v6 w6 i6)
      have B6 := Lib.hid (below_nx B4.out b6)
      have I6 := Lib.hid (I4.out.later b6)
      clear i6 b6
      go_wp2_with fail
      refine J6.out.mono ?_
      rintro e w7 ⟨v7, rfl, i7, b7⟩
      have B7 := Lib.hid (below_nx B6.out b7)
      have I7 := Lib.hid (I6.out.later b7)
      have R7 := Lib.hid i7
      clear i7 b7
      go_wp2_with fail
      refine (HCl.out _ _ I7.out).mono ?_
      rintro e w8 ⟨v8, rfl, i8, b8⟩
      have J8 := Lib.hid (HE2.out v8 w8 i8)
      have B8 := Lib.hid (below_nx B7.out b8)
      have R8 := Lib.hid (R7.out.later b8)
      clear i8 b8
      go_wp2_with fail
      refine J8.out.mono ?_
      rintro e w9 ⟨rfl, b9⟩
      have B9 := Lib.hid (below_nx B8.out b9)
      have R9 := Lib.hid (R8.out.later b9)
      clear b9
      have c0 := cell_later B9.out (HC.out 0 (by omega))
      have c1 := cell_later B9.out (HC.out (n - 1) (by omega))
      have y0 := HYs.out 0
      have y1 := HYs.out (n - 1)
      generalize ys[0]?.getD 0 = a at c0 y0 hdist
      generalize ys[n - 1]?.getD 0 = z at c1 y1 hdist
      obtain ⟨p, hp⟩ : ∃ p, n - 1 = p := ⟨_, rfl⟩
      have hat : (n : Int) - 1 = (p : Int) := by omega
      have h0n : 0 < n := by omega
      have hpn' : p < n := by omega
      have hpn : (p : Int) < n := by omega
      have hp0 : (0 : Int) ≤ (p : Int) := by omega
      have hwn : IntKind.i64.wrap (p : Int) = (p : Int) := IntWalk.i64_in _ (by omega)
      rw [hp] at c1
      clear hp
      have hwz : IntKind.i64.wrap ((z : Int) - (a : Int)) = (z : Int) - (a : Int) := IntWalk.i64_in _ (by omega)
      rw [Nat.add_zero] at c0
      go_wp2_with fail
      go_region_held3 (fun w' => w'.cell? ⟨b, off, none⟩ = some (.int .i64 (a : Int)) ∧ w'.cell? ⟨b, off + p, none⟩ = some (.int .i64 (z : Int)) ∧ w' = w9.drew) (first | exact ⟨c0, c1, rfl⟩ | assumption) (fail)
      have B10 := Lib.hid B9.out.drew
      have R10 := Lib.hid (R9.out.later (Below.refl _ w9).drew)
      obtain ⟨d, hd⟩ : ∃ d : Int, (z : Int) - (a : Int) = d := ⟨_, rfl⟩
      rw [hd] at hdist ⊢
      clear hd c0 c1 y0 y1 hwz hwn hat hpn hpn'
      have hdb1 : -10 ≤ d := by omega
      have hdb2 : d ≤ 10 := by omega
      have q : (2 * max d (-d) != (n : Int)) = false := by rw [bne_eq_false_iff_eq]; omega
      clear hdist hev
      generalize w9.drew = w10 at B10 R10
      have K10 := Lib.hid (H.out.later B10.out)
      have J10 := Lib.hid (HEq.out _ _ _ R10.out K10.out)
      go_wp2_with fail
      refine J10.out.mono ?_
      rintro e w11 ⟨rfl, nq, rfl⟩
      have B11 := Lib.hid (below_drewN B10.out nq)
      have K11 := Lib.hid (H.out.later B11.out)
      generalize w10.drewN nq = w11 at B11 K11
      obtain ⟨μ, hμ1, hμ2⟩ : ∃ μ : Nat, (IntKind.u64.wrap m).tmod (n : Int) = (μ : Int) ∧ μ < n := by
        obtain ⟨U, hU⟩ : ∃ U : Nat, IntKind.u64.wrap m = (U : Int) := Int.eq_ofNat_of_zero_le (wrap_u64_nonneg m)
        exact ⟨U % n, by rw [hU, Int.tmod_eq_emod_of_nonneg (by omega)]; simp, Nat.mod_lt _ (by omega)⟩
      go_wp2
      have hg0 : Nat.gcd (μ + 1) n = Nat.gcd (μ + 1) n := rfl
      go_loopw [15, 16] (fun p q wr => ∃ u v : Nat, p = .int .i64 u ∧ q = .int .i64 v ∧ u ≤ 24 ∧ v ≤ 24 ∧ Nat.gcd u v = Nat.gcd (μ + 1) n ∧ Below w.heap.size w wr) (fun _ q _ => (intOf q).toNat)
      case atStart => exact ⟨μ + 1, n, by simp [Int.add_comm], rfl, by omega, by omega, rfl, B11.out⟩
      case round =>
        obtain ⟨u, v, rfl, rfl, hu, hv, hg, hBr⟩ := hrel
        have HBr := Lib.hid hBr
        clear hBr
        by_cases hv0 : v = 0
        · subst hv0
          rw [Nat.gcd_zero_right] at hg
          by_cases hu1 : u = 1
          · subst hu1
            have HG := Lib.hid hg.symm
            clear hg hg0
            have HEv := Lib.hid (HT.out (μ + 1) HG.out)
            rw [HTe.out (μ + 1) HG.out] at HEv
            have HTk2 := Lib.hid (fun k hk => HTk.out (μ + 1) k hk)
            have HTl2 := Lib.hid (HTl.out (μ + 1))
            have HTi := Lib.hid (fun x : Nat => times_int (n := n) (m := μ) (x := x))
            obtain ⟨i0, hi, hz0, hz1, hz2⟩ := info_parts info_intV
            obtain ⟨Hs, hHs⟩ : ∃ Hs, w.heap.size = Hs := ⟨_, rfl⟩
            have HH := Lib.hid hHs
            rw [hHs] at HBr
            have HC2 := Lib.hid (fun i hi W hW => cell_later (w := w) (wx := W) hW (HC.out i hi))
            rw [hHs] at HC2
            generalize timesL n (μ + 1) ys = ts at *
            clear hHs hμ1
            have h11 : ((1 : Nat) : Int) = 1 := rfl
            rw [h11, show ((0 : Nat) : Int) = 0 from rfl]
            clear h11
            go_wp2
            go_loopw [17, 19, 137] (fun o _ i w2 => ∃ k : Nat, k ≤ n ∧ i = .int .i64 k ∧ w2.ownsRow Hs 3 1 o k (ivals (natI (ts.take k))) ∧ Below Hs w w2) (fun _ _ i _ => n - (intOf i).toNat)
            case atStart => exact ⟨0, Nat.zero_le _, rfl, World.ownsRow_nil _ _ _ _, HBr.out⟩
            case round =>
              obtain ⟨k, hk, rfl, hown, hB⟩ := hrel
              have hs2 := hB.size
              have hle : Hs ≤ wr.heap.size := by have := HH.out; omega
              have HO := Lib.hid hown
              have HB := Lib.hid hB
              by_cases hkn : k < n
              · have ck := HC2.out k hkn wr hB
                have yk := HYs.out k
                have HTs := Lib.hid (HTk2.out k hkn)
                have HTx := Lib.hid (HTi.out (ys[k]?.getD 0))
                generalize ys[k]?.getD 0 = x at ck yk HTs HTx
                have hbm : (1 + (μ : Int)) * (x : Int) ≤ 200 := by
                  have h1 : (1 + (μ : Int)) * (x : Int) ≤ 10 * (x : Int) := Int.mul_le_mul_of_nonneg_right (by omega) (by omega)
                  omega
                have hbm0 : 0 ≤ (1 + (μ : Int)) * (x : Int) := Int.mul_nonneg (by omega) (by omega)
                have htx := HTx.out
                have hnz : ((n : Int) == 0) = false := by rw [beq_eq_false_iff_ne]; omega
                generalize (μ + 1) * x % n = tx at HTs HTx htx
                clear hown hB
                go_wp2_with (at_builtin; refine wpList_append_own _ rfl _ _ 22 rfl Hs 3 i0 (.int .i64 0) 1 8 Try.underlying22 hi hz0 hz1 hz2 rfl (by decide) _ _ _ rfl (HO.out.alloc _) ⟨wr.heap.size, 0, none⟩ 1 1 [.int .i64 tx] rfl rfl (cell_one_new _ _ _) (by simp [Value.oneCell']) (by unfold maxLen; omega) (by omega) (by simp; omega) ?_; intro v' w4 hown1 hgrow1 hnil1)
                go_roundw
                case rel => exact ⟨k + 1, by omega, by go_num, by rw [HTs.out]; unfold ivals natI at hown1 ⊢; rw [List.map_append, List.map_append]; exact hown1, (HB.out.alloc (by omega) _).grown hgrow1 (by simp; omega) (fun q e => (HO.out.lt q e).1)⟩
                case measure => simp only [intOf]; omega
              · obtain rfl : k = n := by omega
                have hts : ts.take k = ts := List.take_of_length_le (by have := HTl2.out; omega)
                rw [hts] at HO
                have HEw := Lib.hid (HEv.out _ wr (IntsV.of_vals HO.out))
                clear hown hB hts
                go_wp2_with fail
                refine HEw.out.mono ?_
                rintro e w5 ⟨rfl, b5⟩
                have HB5 := Lib.hid (below_nx (show Below w.heap.size w wr by rw [HH.out]; exact HB.out) b5)
                clear b5
                go_wp2_with fail
                refine (HAw.out _).mono ?_
                rintro e w6 ⟨rfl, b6⟩
                go_wp2
                go_ret
                exact ⟨rfl, below_nx HB5.out b6⟩
          · have hu2 : ((u : Int) != 1) = true := by rw [bne_iff_ne]; omega
            clear hg hg0
            go_wp2_with fail
            refine (HAw.out _).mono ?_
            rintro e w6 ⟨rfl, b6⟩
            go_wp2
            go_ret
            exact ⟨rfl, below_nx HBr.out b6⟩
        · have hg2 : Nat.gcd v (u % v) = Nat.gcd (μ + 1) n := by rw [← hg, Nat.gcd_comm u v, Nat.gcd_rec v u, Nat.gcd_comm]
          have hm1 : u % v < v := Nat.mod_lt _ (by omega)
          have hmod : (u : Int).tmod (v : Int) = ((u % v : Nat) : Int) := by rw [Int.tmod_eq_emod_of_nonneg (by omega)]; simp
          have hvz : ((v : Int) == 0) = false := by rw [beq_eq_false_iff_ne]; omega
          have HG := Lib.hid hg2
          clear hg hg2 hg0
          generalize u % v = r at hm1 hmod HG
          go_wp2
          go_quiet (fail)
          go_wp2
          go_roundw
          case rel => exact ⟨v, r, rfl, rfl, hv, by omega, HG.out, below_drewN HBr.out _⟩
          case measure => simp only [intOf]; omega
end Go.Proofs.Ytjcgbeedjdglmaa
