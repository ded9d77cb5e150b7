/-
  The statement on the other tones of a chord.
-/
import Derived.Test.YtcgaaebogkhefaaWhOthMath
namespace Go.Proofs.Ytcgaaebogkhefaa
open Go.ChangeShapes Go.WideShapes Go.ChangeAt Go.RowKit
set_option maxRecDepth 100000

theorem oth_facts {q a b : Nat} (hq : q ≤ 97) (l1 : a < q) (l2 : b < q) (h : (a + b) % q = 0) :
    ((a : Int) + (b : Int)) % (q : Int) = 0 ∧ ((a : Int) + (b : Int)).tmod (q : Int) = 0 ∧ IntKind.i64.wrap ((a : Int) + (b : Int)) = (a : Int) + (b : Int) ∧ wrap64 ((a : Int) + (b : Int)) = (a : Int) + (b : Int) ∧ ¬ q = 0 := by
  have e : ((a : Int) + (b : Int)) % (q : Int) = 0 := by have h2 : (((a + b) % q : Nat) : Int) = 0 := by rw [h]; rfl
                                                         simpa using h2
  exact ⟨e, by rw [Int.tmod_eq_emod_of_nonneg (Int.add_nonneg (Int.natCast_nonneg _) (Int.natCast_nonneg _))]; exact e, wrap_mul (by omega), wrap_mul2 (by omega), by omega⟩

theorem beq0 {a : Nat} (h : ¬ a = 0) : (((a : Nat) : Int) == 0) = false := by rw [beq_eq_false_iff_ne]; omega
theorem wrap_circ {m : Nat} (h : m < 17) : IntKind.i64.wrap (m : Int) = (m : Int) := wrap_mul (by omega)

set_option maxHeartbeats 4000000 in
theorem WheelsOthers_walk (n c : Int) (w : World) (_wf : (Lit.int .i64 n).wf = true) (_wc : (Lit.int .i64 c).wf = true) :
    Calls Try.prog 14 #[.int .i64 n, .int .i64 c] w fun e w' => e = .returned (.bool true) ∧ Below w.heap.size w w' := by
  have hmx : Try.prog.follows .mixedOrders = true := by kernel_rfl
  have HAw := Lib.hid (fun W => wawake_any W)
  have HRV := Lib.hid (fun W => RValid_any n c W)
  cases hb : (circB n && chordsB n.toNat [c])
  · rw [hb] at HRV
    have HC := Lib.hid (fun W => Chord_bad n c hb W)
    clear hb
    go_enter Try.func14, Try.ntmps14
    go_wp2_with fail
    refine (HC.out _).mono ?_
    rintro e w1 ⟨rfl, b1⟩
    have B1 := Lib.hid b1
    clear b1
    go_wp2_with fail
    refine (HAw.out _).mono ?_
    rintro e w5 ⟨rfl, b5⟩
    go_wp2
    go_ret
    exact ⟨rfl, below_nx B1.out b5⟩
  · rw [hb] at HRV
    obtain ⟨m, k, rfl, rfl, hm, hk⟩ := goodC hb
    have hk' : 2 ^ m - 1 - k < 2 ^ m := by omega
    have hm0 := hm.pos
    have hm2 := hm.1
    have hm17 := hm.2
    have hq := hm.q_le
    have hqn := hm.n_lt
    have h16 : 2 ^ m ≤ 2 ^ 16 := Nat.pow_le_pow_right (by omega) (by omega)
    have hpw := w64_pow17 hm17
    have HC := Lib.hid (fun W => Chord_ok m hm k hk W)
    have HC2 := Lib.hid (fun W => Chord_ok m hm (2 ^ m - 1 - k) hk' W)
    have HPr := Lib.hid (fun W => Prime_ok m hm W)
    have hcw := ch_wh hm k
    have hcw2 := ch_wh hm (2 ^ m - 1 - k)
    have HSa := Lib.hid (fun a W (h : IntsV W a (natI (tabN m (chF m k)))) => by
      have := Spectrum_ok m hm _ (WhL.tab hcw) a W h
      rw [ofL_tab hcw] at this
      exact this)
    have HSb := Lib.hid (fun a W (h : IntsV W a (natI (tabN m (chF m (2 ^ m - 1 - k))))) => by
      have := Spectrum_ok m hm _ (WhL.tab hcw2) a W h
      rw [ofL_tab hcw2] at this
      exact this)
    have HZa := Lib.hid (fun W => Silent_ok m hm k hk W)
    have HZb := Lib.hid (fun W => Silent_ok m hm (2 ^ m - 1 - k) hk' W)
    have HSi := Lib.hid (fun W => by have := SizeW_any k (by omega) W; rw [← oth_card hm hk] at this; exact this)
    have hz := oth_zero hm hk
    have HSm := Lib.hid (fun j (hj : j < m) (h0 : 0 < j) => oth_sum hm hk hj h0)
    have HNo := Lib.hid (oth_none hm hk)
    have HSame := Lib.hid (oth_same hm hk)
    have HZe := Lib.hid (fun j (hj : j < m) => ze_and hm (spF m (chF m k)) hj)
    have HAl := Lib.hid (sp_wh hm (chF m k)).lt
    have HBl := Lib.hid (sp_wh hm (chF m (2 ^ m - 1 - k))).lt
    have hzl := zeN_lt (spF m (chF m k)) m
    have hzl2 := zeN_lt (spF m (chF m (2 ^ m - 1 - k))) m
    generalize hc2 : 2 ^ m - 1 - k = c2 at *
    generalize hP : 2 ^ m = P at *
    have hcc : (P : Int) - 1 - (k : Int) = (c2 : Int) := by omega
    clear hb hm hcw hcw2 hc2 hP
    generalize zeN (spF m (chF m k)) m = za at *
    generalize zeN (spF m (chF m c2)) m = zb at *
    generalize spF m (chF m k) = sa at *
    generalize spF m (chF m c2) = sb at *
    generalize chF m k = fa at *
    generalize chF m c2 = fb at *
    generalize qN m = q at *
    have hl0 := HAl.out 0
    have hl1 := HBl.out 0
    go_enter Try.func14, Try.ntmps14
    go_wp2_with fail
    refine (HC.out _).mono ?_
    rintro e w1 ⟨v1, rfl, i1, b1⟩
    have B1 := Lib.hid b1
    have I1 := Lib.hid i1
    clear b1 i1
    go_wp2_with fail
    refine (HRV.out _).mono ?_
    rintro e w2 ⟨rfl, rfl⟩
    go_wp2_with fail
    refine (HC2.out _).mono ?_
    rintro e w2 ⟨v2, rfl, i2, b2⟩
    have B2 := Lib.hid (below_nx B1.out b2)
    have J1 := Lib.hid (I1.out.later b2)
    have I2 := Lib.hid i2
    clear b2 i2
    go_wp2_with fail
    refine (HSa.out _ _ J1.out).mono ?_
    rintro e w3 ⟨v3, rfl, i3, b3⟩
    have B3 := Lib.hid (below_nx B2.out b3)
    have J2 := Lib.hid (I2.out.later b3)
    have I3 := Lib.hid i3
    clear b3 i3
    go_wp2_with fail
    refine (HSb.out _ _ J2.out).mono ?_
    rintro e w4 ⟨v4, rfl, i4, b4⟩
    have B4 := Lib.hid (below_nx B3.out b4)
    have J3 := Lib.hid (I3.out.later b4)
    have I4 := Lib.hid i4
    clear b4 i4
    go_wp2_with fail
    refine (HPr.out _).mono ?_
    rintro e w5 ⟨rfl, b5⟩
    have B5 := Lib.hid (below_nx B4.out b5)
    have A5 := Lib.hid (J3.out.later b5)
    have D5 := Lib.hid (I4.out.later b5)
    clear b5
    go_wp2_with fail
    refine (HZa.out _).mono ?_
    rintro e w6 ⟨rfl, b6⟩
    have B6 := Lib.hid (below_nx B5.out b6)
    have A6 := Lib.hid (A5.out.later b6)
    have D6 := Lib.hid (D5.out.later b6)
    clear b6
    go_wp2_with fail
    refine (HZb.out _).mono ?_
    rintro e w7 ⟨rfl, b7⟩
    have B7 := Lib.hid (below_nx B6.out b7)
    have A7 := Lib.hid (A6.out.later b7)
    have D7 := Lib.hid (D6.out.later b7)
    clear b7
    obtain ⟨ab, ao, ac, rfl, hac, had⟩ := tab_cells A7.out hm0
    obtain ⟨db, dO, dc, rfl, hdc, hdd⟩ := tab_cells D7.out hm0
    have HAd := Lib.hid had
    have HDd := Lib.hid hdd
    have a0 := had 0 hm0
    have d0 := hdd 0 hm0
    rw [Nat.add_zero] at a0 d0
    clear had hdd A7 D7
    have hz2 : ((sa 0 : Nat) : Int) + ((sb 0 : Nat) : Int) = (m : Int) := by omega
    have g1 : (decide ((q : Int) < 2)) = false := by rw [decide_eq_false_iff_not]; omega
    have n1 : (((sa 0 : Nat) : Int) == ((sa 0 : Nat) : Int)) = true := beq_self_eq_true _
    have n2 : (((sa 0 : Nat) : Int) + ((sb 0 : Nat) : Int) == (m : Int)) = true := by rw [beq_iff_eq]; exact hz2
    have hw0 : IntKind.i64.wrap (((sa 0 : Nat) : Int) + ((sb 0 : Nat) : Int)) = (m : Int) := by rw [hz2]; exact wrap_mul (by omega)
    have n5 : (((m : Nat) : Int) == ((m : Nat) : Int)) = true := beq_self_eq_true _
    have hw9 : wrap64 (((sa 0 : Nat) : Int) + ((sb 0 : Nat) : Int)) = (m : Int) := by rw [hz2]; exact wrap_mul2 (by omega)
    have hwm := wrap_circ hm17
    go_upto_region 10 with fail
    go_quiet ((go_at_call 53; exact Calls.quiet_of_same ((HSi.out _).mono fun e w' h => ⟨h.1, h.2.symm⟩)))
    have HX := Lib.hid (below_nx B7.out (below_drewN w7 nq))
    have AX := Lib.hid (fun i (hi : i < m) => cell_later (below_drewN w7 nq) (HAd.out i hi))
    have DX := Lib.hid (fun i (hi : i < m) => cell_later (below_drewN w7 nq) (HDd.out i hi))
    have HB0 := Lib.hid (show bits .and .i64 ((za : Nat) : Int) 1 = if sa 0 = 0 then 1 else 0 by have h := HZe.out 0 hm0; simpa using h)
    have hsm : (bits .andNot .i64 ((za : Nat) : Int) 1 == bits .andNot .i64 ((zb : Nat) : Int) 1) = true := by rw [HSame.out]; exact beq_self_eq_true _
    clear a0 d0 HAd HDd hz2 hw0 hw9 hwm n1 n2 n5
    generalize w7.drewN nq = X at *
    go_wp2
    go_loopw [19] (fun i xr => ∃ j : Nat, 1 ≤ j ∧ j ≤ m ∧ i = .int .i64 (j : Int) ∧ Below X.heap.size X xr) (fun i _ => m - (intOf i).toNat)
    case atStart => exact ⟨1, by omega, by omega, rfl, Below.refl _ _⟩
    case round =>
      obtain ⟨j, hj1, hj, rfl, hbx⟩ := hrel
      have HBX := Lib.hid hbx
      clear hbx
      by_cases hlt : j < m
      · have e1 := cell_later HBX.out (AX.out j hlt)
        have e2 := cell_later HBX.out (DX.out j hlt)
        obtain ⟨f1, f2, f3, f4, f5⟩ := oth_facts hq (HAl.out j) (HBl.out j) (HSm.out j hlt hj1)
        have hbt := HZe.out j hlt
        have hla := HAl.out j
        have hlb := HBl.out j
        by_cases hz0 : sa j = 0
        · rw [if_pos hz0] at hbt
          have n3 : (((sa j : Nat) : Int) == 0) = true := by rw [hz0]; rfl
          clear hz0
          generalize sa j = y at *
          generalize sb j = z at *
          go_upto_region 15 with fail
          go_quiet (fail)
          go_wp2
          go_roundw
          case rel => exact ⟨j + 1, by omega, by omega, by go_num, by first | exact HBX.out | exact bl_drewN HBX.out _⟩
          case measure => simp only [intOf]; omega
        · rw [if_neg hz0] at hbt
          have n3 := beq0 hz0
          generalize sa j = y at *
          generalize sb j = z at *
          go_upto_region 15 with fail
          go_quiet (fail)
          go_wp2
          go_roundw
          case rel => exact ⟨j + 1, by omega, by omega, by go_num, by first | exact HBX.out | exact bl_drewN HBX.out _⟩
          case measure => simp only [intOf]; omega
      · obtain rfl : j = m := by omega
        have hb0 := HB0.out
        by_cases hk0 : k = 0
        · rw [if_pos (HNo.out.2 hk0)] at hb0
          have n4 : (((k : Nat) : Int) == 0) = true := by rw [hk0]; rfl
          clear hk0
          go_wp2_with fail
          refine (HAw.out _).mono ?_
          rintro e y1 ⟨rfl, by1⟩
          go_wp2
          go_ret
          exact ⟨rfl, below_nx (below_nx HX.out HBX.out) by1⟩
        · rw [if_neg (mt HNo.out.1 hk0)] at hb0
          have n4 := beq0 hk0
          go_wp2_with fail
          refine (HAw.out _).mono ?_
          rintro e y1 ⟨rfl, by1⟩
          go_wp2
          go_ret
          exact ⟨rfl, below_nx (below_nx HX.out HBX.out) by1⟩
end Go.Proofs.Ytcgaaebogkhefaa
