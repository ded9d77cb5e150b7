/-
  The statement on rotations.
-/
import Derived.Test.YtfglmdlmjcfleaaVoRot2
import Derived.Test.YtfglmdlmjcfleaaVoMovedLaw
namespace Go.Proofs.Ytfglmdlmjcfleaa
open Go.ChangeShapes Go.WideShapes Go.ChangeAt Go.RowKit
set_option maxRecDepth 100000

theorem rotN_take {k r q : Nat} (h : q < k) : (rotN k r).take (q + 1) = (rotN k r).take q ++ [(q + r) % k] := by
  have hl : q < (rotN k r).length := by rw [rotN_length]; exact h
  rw [List.take_succ_eq_append_getElem hl, ← rotN_at (r := r) h, List.getElem?_eq_getElem hl]; rfl
theorem leastZ_next {l : List Nat} {p : Nat} {z : Int} (h : z = leastZ (minS l)) : (z < 0 → (p : Int) = leastZ (minS (l ++ [p]))) ∧ ((p : Int) < z → (p : Int) = leastZ (minS (l ++ [p]))) ∧ (¬ z < 0 → ¬ (p : Int) < z → z = leastZ (minS (l ++ [p]))) := by
  rw [minS_snoc]
  cases e : minS l with
  | none =>
    rw [e] at h
    have h' : z = -1 := h
    exact ⟨fun _ => rfl, fun _ => rfl, fun a => by omega⟩
  | some m =>
    rw [e] at h
    have h' : z = (m : Int) := h
    by_cases hp : p < m
    · simp only [hp, if_true]
      exact ⟨fun _ => rfl, fun _ => rfl, fun _ b => by omega⟩
    · simp only [hp, if_false]
      exact ⟨fun a => by omega, fun a => by omega, fun _ _ => h'⟩
theorem rot_tmod {k q r : Nat} : ((q : Int) + (r : Int)).tmod (k : Int) = (((q + r) % k : Nat) : Int) := by
  rw [← Int.natCast_add, Int.tmod_eq_emod_of_nonneg (by omega)]; simp
theorem IntsV.form {W : World} {v : Value} {xs : List Int} (h : IntsV W v xs) : ∃ ao cap, v = .slice ao xs.length cap := by
  obtain ⟨ao, cap, e, _⟩ := h
  exact ⟨ao, cap, e⟩

set_option maxHeartbeats 2000000 in
theorem VoicesRotates_walk (n : Int) (xs zs : List Int) (v u : Value) (w : World) (_wf : (Lit.int .i64 n).wf = true) (hl : xs.length ≤ maxLen) (h : IntsV w v xs) (hm : zs.length ≤ maxLen) (k : IntsV w u zs) :
    Calls Try.prog 13 #[.int .i64 n, v, u] w fun e w' => e = .returned (.bool true) ∧ Below w.heap.size w w' := by
  have HAw := Lib.hid (fun W => vawake_any W)
  have HLx := Lib.hid (fun W hW => vlist_any xs v W hl hW)
  have HLz := Lib.hid (fun W hW => vlist_any zs u W hm hW)
  have HTw := Lib.hid (fun W a b => RTwo_any n xs zs v u W hl hm a b)
  have H := Lib.hid h
  have K := Lib.hid k
  obtain ⟨ao, cap, hv, _⟩ := h
  obtain ⟨bo, cap', hu, _⟩ := k
  by_cases h2 : twoB n xs zs = true
  · rw [h2] at HTw
    obtain ⟨m, us, bs, rfl, rfl, rfl, hvc⟩ := two_nat h2
    rw [(hvc.take).1] at HLx
    rw [(hvc.take).2] at HLz
    have HC := Lib.hid (fun a b W ha hb => Cost_ok m us bs hvc a b W ha hb)
    have hvr := (vc_rise (vc_rise hvc).symm).symm
    have hmin := rot_min hvr (riseT_sorted _) (riseT_sorted _)
    rw [costN_perm m hvr.len (riseT_perm us) (riseT_perm bs)] at hmin
    have HP := Lib.hid (fun r a b c W ha hb hc => Price_ok m (riseT us) (riseT bs) (rotN (riseT us).length r) hvr (rotN_length _ _) rotN_fits a b c W ha hb hc)
    have HRx := Lib.hid (fun W a => RRising_any us (by have := hvc.l6; omega) (fun y hy => by have := hvc.la y hy; have := hvc.hi; omega) v W a)
    have HRz := Lib.hid (fun W a => RRising_any bs (by have := hvc.symm.l6; omega) (fun y hy => by have := hvc.lb y hy; have := hvc.hi; omega) u W a)
    have HCx := Lib.hid (fun t W a => Clone_any (natI (riseT us)) t W (by rw [natI_length]; have := hvr.l6; omega) a)
    have HCz := Lib.hid (fun t W a => Clone_any (natI (riseT bs)) t W (by rw [natI_length]; have := hvr.symm.l6; omega) a)
    have HS := Lib.hid (fun j => rotP_succ m (riseT bs) (riseT us) j)
    have hpm := fun (r : Nat) => prT_100 hvr (riseT us).length (rotN (riseT us).length r)
    have HPm := Lib.hid (fun r => by have := hpm r; rwa [List.take_length] at this : ∀ r, prT m (riseT bs) (riseT us) (rotN (riseT us).length r) ≤ 96)
    have hk1 := hvr.l1
    have hk6 := hvr.l6
    have hlz : (riseT bs).length = (riseT us).length := hvr.len.symm
    have HM := Lib.hid hmin
    clear h2 hvc hl hm hmin hvr hpm
    generalize costN m us bs = c at *
    obtain ⟨P, hP⟩ : ∃ P : Nat → Nat, P = fun r => prT m (riseT bs) (riseT us) (rotN (riseT us).length r) := ⟨_, rfl⟩
    have HPQ := Lib.hid (fun r => by rw [hP]; exact HP.out r : ∀ r a b c W, IntsV W a (natI (riseT us)) → IntsV W b (natI (riseT bs)) → IntsV W c (natI (rotN (riseT us).length r)) → Calls Try.prog 28 #[.int .i64 m, a, b, c] W fun e w' => e = .returned (.tuple #[.int .i64 (P r : Nat), .int .i64 0]) ∧ Below W.heap.size W w')
    have HSQ := Lib.hid (fun j => by rw [hP]; exact HS.out j : ∀ j, rotP m (riseT bs) (riseT us) (j + 1) = rotP m (riseT bs) (riseT us) j ++ [P j])
    have HPmQ := Lib.hid (fun r => by rw [hP]; exact HPm.out r : ∀ r, P r ≤ 96)
    have HR0 := Lib.hid (show rotP m (riseT bs) (riseT us) 0 = [] from rfl)
    clear hP HP HS HPm
    generalize rotP m (riseT bs) (riseT us) = R at *
    have HF := Lib.hid (fun W t (a : IntsV W t (natI (riseT us))) => show ∃ ao cap, t = .slice ao (riseT us).length cap by have := a.form; rwa [natI_length] at this)
    generalize natI (riseT bs) = rz at *
    generalize hrx : natI (riseT us) = rx at *
    clear hlz hrx
    generalize (riseT us).length = kk at *
    generalize natI us = xs at *
    generalize natI bs = zs at *
    obtain ⟨i0, hi, hz0, hz1, hz2⟩ := info_parts info_intV
    subst hv hu
    go_enter Try.func13, Try.ntmps13
    go_wp2_with fail
    refine (HLx.out _ H.out).mono ?_
    rintro e w1 ⟨v1, rfl, i1, b1⟩
    have B1 := Lib.hid b1
    have I1 := Lib.hid i1
    clear i1 b1
    go_wp2_with fail
    refine (HLz.out _ (K.out.later B1.out)).mono ?_
    rintro e w2 ⟨v2, rfl, i2, b2⟩
    have B2 := Lib.hid (below_nx B1.out b2)
    have C2 := Lib.hid (HC.out v1 v2 w2 (I1.out.later b2) i2)
    clear i2 b2
    go_wp2_with fail
    refine C2.out.mono ?_
    rintro e w3 ⟨rfl, b3⟩
    have B3 := Lib.hid (below_nx B2.out b3)
    clear b3
    go_wp2_with fail
    refine (HTw.out _ (H.out.later B3.out) (K.out.later B3.out)).mono ?_
    rintro e w4 ⟨rfl, rfl⟩
    go_wp2_with fail
    refine (HRx.out _ (H.out.later B3.out)).mono ?_
    rintro e w5 ⟨v5, rfl, i5, b5⟩
    have B5 := Lib.hid (below_nx B3.out b5)
    have I5 := Lib.hid i5
    clear i5 b5
    go_wp2_with fail
    refine (HRz.out _ (K.out.later B5.out)).mono ?_
    rintro e w6 ⟨v6, rfl, i6, b6⟩
    have B6 := Lib.hid (below_nx B5.out b6)
    have I6x := Lib.hid (I5.out.later b6)
    have I6z := Lib.hid i6
    clear i6 b6
    obtain ⟨xo, xc, rfl⟩ := HF.out _ _ I6x.out
    obtain ⟨Hs, hHs⟩ : ∃ Hs, w6.heap.size = Hs := ⟨_, rfl⟩
    have HH := Lib.hid hHs
    clear hHs
    go_wp2
    go_loopw [11, 46] (fun o i wr => ∃ (j : Nat) (z : Int), j ≤ kk ∧ i = .int .i64 j ∧ o = .int .i64 z ∧ -1 ≤ z ∧ z ≤ 96 ∧ z = leastZ (minS (R j)) ∧ Below Hs w6 wr) (fun _ i _ => kk - (intOf i).toNat)
    case atStart => exact ⟨0, -1, Nat.zero_le _, rfl, rfl, by omega, by omega, by rw [HR0.out]; rfl, by rw [← HH.out]; exact Below.refl _ _⟩
    case round =>
      obtain ⟨j, z, hj, rfl, rfl, hz1', hz2', hzz, hb⟩ := hrel
      have HZ := Lib.hid hzz
      have HB := Lib.hid hb
      have hle : Hs ≤ wr.heap.size := by have := HH.out; have := hb.size; omega
      clear hzz hb
      by_cases hjk : j < kk
      · have HTk := Lib.hid (fun q hq => rotN_take (k := kk) (r := j) (q := q) hq)
        have HTl := Lib.hid (show (rotN kk j).take kk = rotN kk j from List.take_of_length_le (by rw [rotN_length]; exact Nat.le_refl _))
        have HTi := Lib.hid (fun q : Nat => rot_tmod (k := kk) (q := q) (r := j))
        have HPj := Lib.hid (fun a b c W ha hb hc => HPQ.out j a b c W ha hb hc)
        have HSj := Lib.hid (HSQ.out j)
        have hpj := HPmQ.out j
        generalize rotN kk j = L at *
        generalize P j = p at HPj HSj hpj
        have hnz : ((kk : Int) == 0) = false := by rw [beq_eq_false_iff_ne]; omega
        go_wp2
        go_loopw [13, 51] (fun o i wq => ∃ q : Nat, q ≤ kk ∧ i = .int .i64 q ∧ wq.ownsRow Hs 3 1 o q (ivals (natI (L.take q))) ∧ Below Hs w6 wq) (fun _ i _ => kk - (intOf i).toNat)
        case atStart => exact ⟨0, Nat.zero_le _, rfl, World.ownsRow_nil _ _ _ _, HB.out⟩
        case round =>
          obtain ⟨q, hq, rfl, hown, hB⟩ := hrel
          have hle : Hs ≤ wr.heap.size := by have := HH.out; have := hB.size; omega
          have HO := Lib.hid hown
          have HB := Lib.hid hB
          clear hown hB
          by_cases hqk : q < kk
          · have HTs := Lib.hid (HTk.out q hqk)
            have htx := HTi.out q
            generalize (q + j) % kk = tx at HTs htx
            go_wp2_with (at_builtin; refine wpList_append_own _ rfl _ _ 22 rfl Hs 3 i0 (.int .i64 0) 1 8 Try.underlying22 hi hz0 hz1 hz2 rfl (by decide) _ _ _ rfl (HO.out.alloc _) ⟨wr.heap.size, 0, none⟩ 1 1 [.int .i64 tx] rfl rfl (cell_one_new _ _ _) (by simp [Value.oneCell']) (by unfold maxLen; omega) (by omega) (by simp; omega) ?_; intro v' w4 hown1 hgrow1 hnil1)
            go_roundw
            case rel => exact ⟨q + 1, by omega, by go_num, by rw [HTs.out]; unfold ivals natI at hown1 ⊢; rw [List.map_append, List.map_append]; exact hown1, (HB.out.alloc (by omega) _).grown hgrow1 (by simp; omega) (fun q e => (HO.out.lt q e).1)⟩
            case measure => simp only [intOf]; omega
          · obtain rfl : q = kk := by omega
            rw [HTl.out] at HO
            have hBb : Below w6.heap.size w6 wr := by rw [HH.out]; exact HB.out
            have JL := Lib.hid (IntsV.of_vals HO.out)
            have JX := Lib.hid (HCx.out _ wr (I6x.out.later hBb))
            have JZ := Lib.hid (I6z.out.later hBb)
            have BB := Lib.hid hBb
            clear hBb
            go_wp2_with fail
            refine JX.out.mono ?_
            rintro e wa ⟨va, rfl, ia, ba⟩
            have BA := Lib.hid (below_nx BB.out ba)
            have LA := Lib.hid (JL.out.later ba)
            have XA := Lib.hid ia
            have ZA := Lib.hid (HCz.out _ wa (JZ.out.later ba))
            clear ia ba
            go_wp2_with fail
            refine ZA.out.mono ?_
            rintro e wb ⟨vb, rfl, ib, bb⟩
            have B7 := Lib.hid (below_nx BA.out bb)
            have P7 := Lib.hid (HPj.out va vb _ wb (XA.out.later bb) ib (LA.out.later bb))
            clear ib bb
            go_wp2_with fail
            refine P7.out.mono ?_
            rintro e wc ⟨rfl, bc⟩
            have B8 := Lib.hid (show Below Hs w6 wc by rw [← HH.out]; exact below_nx B7.out bc)
            clear bc
            have HN := Lib.hid (leastZ_next (p := p) HZ.out)
            rw [← HSj.out] at HN
            by_cases hz0' : z < 0
            · go_wp2
              go_roundw
              case rel => exact ⟨j + 1, p, by omega, by go_num, rfl, by omega, by omega, HN.out.1 hz0', B8.out⟩
              case measure => simp only [intOf]; omega
            · by_cases hpz : (p : Int) < z
              · go_wp2
                go_roundw
                case rel => exact ⟨j + 1, p, by omega, by go_num, rfl, by omega, by omega, HN.out.2.1 hpz, B8.out⟩
                case measure => simp only [intOf]; omega
              · go_wp2
                go_roundw
                case rel => exact ⟨j + 1, z, by omega, by go_num, rfl, by omega, by omega, HN.out.2.2 hz0' hpz, B8.out⟩
                case measure => simp only [intOf]; omega
      · obtain rfl : j = kk := by omega
        rw [HM.out] at HZ
        obtain rfl : z = (c : Int) := HZ.out
        have hBb : Below w6.heap.size w6 wr := by rw [HH.out]; exact HB.out
        have BB := Lib.hid (below_nx B6.out hBb)
        clear hBb
        go_wp2_with fail
        refine (HAw.out _).mono ?_
        rintro e w13 ⟨rfl, b13⟩
        go_wp2
        go_ret
        exact ⟨rfl, below_nx BB.out b13⟩
  · have h2' : twoB n xs zs = false := by simpa using h2
    have HC := Lib.hid (fun a b W ha hb => Cost_bad n (xs.take 9) (zs.take 9) take9 take9 (by rw [two_take]; exact h2') a b W ha hb)
    clear h2 h2' hl hm
    subst hv hu
    go_enter Try.func13, Try.ntmps13
    go_wp2_with fail
    refine (HLx.out _ H.out).mono ?_
    rintro e w1 ⟨v1, rfl, i1, b1⟩
    have B1 := Lib.hid b1
    have I1 := Lib.hid i1
    clear i1 b1
    go_wp2_with fail
    refine (HLz.out _ (K.out.later B1.out)).mono ?_
    rintro e w2 ⟨v2, rfl, i2, b2⟩
    have B2 := Lib.hid (below_nx B1.out b2)
    have C2 := Lib.hid (HC.out v1 v2 w2 (I1.out.later b2) i2)
    clear i2 b2
    go_wp2_with fail
    refine C2.out.mono ?_
    rintro e w3 ⟨rfl, b3⟩
    have B3 := Lib.hid (below_nx B2.out b3)
    clear b3
    go_wp2_with fail
    refine (HAw.out _).mono ?_
    rintro e w13 ⟨rfl, b13⟩
    go_wp2
    go_ret
    exact ⟨rfl, below_nx B3.out b13⟩
end Go.Proofs.Ytfglmdlmjcfleaa
