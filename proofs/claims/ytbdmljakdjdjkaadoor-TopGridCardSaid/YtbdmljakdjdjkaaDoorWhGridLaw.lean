/-
  The statement on strokes whose number divides the beats: the walk.
-/
import Derived.Test.YtbdmljakdjdjkaaDoorWhGridMath
import Derived.Test.YtbdmljakdjdjkaaDoorZaCaSorted
import Derived.Test.YtbdmljakdjdjkaaDoorZaCaPeriod
import Derived.Test.YtbdmljakdjdjkaaDoorZeEsSpread
import Derived.Test.YtbdmljakdjdjkaaDoorFrame
namespace Go.Proofs.YtbdmljakdjdjkaaDoor
open Go.ChangeShapes Go.WideShapes Go.ChangeAt Go.RowKit
attribute [local go_sem] Oper.semAt_some
set_option linter.unusedVariables false
set_option maxRecDepth 100000

theorem intsR {W : World} {b : Nat} {xs : List Nat} (h : Row W b 3 (ints xs)) : IntsV W (.slice (some ⟨b, 0, none⟩) xs.length xs.length) (natI xs) := by
  refine ⟨_, xs.length, by rw [natI_len], by rw [natI_len]; exact Nat.le_refl _, fun _ => ⟨b, 0, rfl, fun i hi => ?_⟩⟩
  rw [natI_len] at hi
  rw [Nat.zero_add, h.cell i, ints_at hi]
  unfold natI
  rw [List.getElem?_map]
  cases e : xs[i]? with
  | none => rw [List.getElem?_eq_none_iff] at e; omega
  | some x => rfl
theorem turns_any (w : World) : Calls Tryd.prog 5 #[] w fun e w' => e = .returned (.bool true) ∧ Below w.heap.size w w' := by
  have hc4 : Circ 4 := ⟨by omega, by omega⟩
  have hq4 : qN 4 = 13 := rfl
  have HS := Lib.hid (fun W => Spectrum_ok 4 hc4 [0, 1, 0, 0] ⟨rfl, by rw [hq4]; decide⟩ (.slice (some ⟨w.heap.size, 0, none⟩) 4 4) W)
  rw [show tabN 4 (spF 4 (ofL [0, 1, 0, 0])) = [1, 5, 12, 8] by decide +kernel] at HS
  have HE := Lib.hid (fun a b W ha hb => by have := Equal_any (natI [1, 5, 12, 8]) (natI [1, 5, 12, 8]) a b W (by unfold maxLen; simp [natI]) (by unfold maxLen; simp [natI]) ha hb; rwa [show (natI [1, 5, 12, 8] == natI [1, 5, 12, 8]) = true from beq_self_eq_true _] at this)
  have I0 := Lib.hid (intsR (Row.new w 3 (ints [0, 1, 0, 0])))
  have HN := Lib.hid (fun W => intsR (Row.new W 3 (ints [1, 5, 12, 8])))
  have B0 := Lib.hid ((Below.refl w.heap.size w).alloc (Nat.le_refl _) (.cells (ints [0, 1, 0, 0]).toArray 3))
  have HNb := Lib.hid (fun (W : World) => (Below.refl W.heap.size W).alloc (Nat.le_refl _) (.cells (ints [1, 5, 12, 8]).toArray 3))
  go_enter Tryd.func5, Tryd.ntmps5
  go_wp2_with fail
  refine (HS.out _ I0.out).mono ?_
  rintro e w1 ⟨v1, rfl, i1, b1⟩
  have B1 := Lib.hid (below_nx B0.out b1)
  have I1 := Lib.hid i1
  clear i1 b1
  go_wp2_with fail
  have J1 := Lib.hid (I1.out.later (HNb.out w1))
  refine (HE.out _ _ _ J1.out (HN.out w1)).mono ?_
  rintro e w2 ⟨rfl, q, rfl⟩
  go_wp2
  go_ret
  exact ⟨rfl, bl_drewN (below_nx B1.out (HNb.out w1)) q⟩

theorem umul0 {j d n : Nat} (hj : j < 17) (hd : d < 17) (hn : 0 < n) : (IntKind.i64.wrap ((j : Int) * (d : Int))).tmod (n : Int) = ((j * d % n : Nat) : Int) := by
  have h : j * d ≤ 16 * 16 := Nat.mul_le_mul (by omega) (by omega)
  have e : ((j : Int) * (d : Int)) = ((j * d : Nat) : Int) := by simp
  rw [e, IntWalk.i64_in _ (by omega), Int.tmod_eq_emod_of_nonneg (by omega)]
  simp

set_option maxHeartbeats 4000000 in
theorem TopGrid_walk (n k : Int) (_w0 : (Lit.int .i64 n).wf = true) (_w1 : (Lit.int .i64 k).wf = true) (w : World) (hT : Tab w) :
    Calls Tryd.prog 3 #[.int .i64 n, .int .i64 k] w fun e w' => e = .returned (.bool true) ∧ Below w.heap.size w w' := by
  have HAw := Lib.hid (fun W => turns_any W)
  have HPt := Lib.hid (fun W => Ze.Part_any n k W)
  cases hb : Ze.vldK n k
  · rw [hb] at HPt
    clear hb hT
    go_enter Tryd.func3, Tryd.ntmps3
    go_wp2_with fail
    refine (HPt.out _).mono ?_
    rintro e u1 ⟨rfl, rfl⟩
    go_wp2_with fail
    refine (HAw.out _).mono ?_
    rintro e uz ⟨rfl, bz⟩
    go_wp2
    go_ret
    exact ⟨rfl, bz⟩
  · rw [hb] at HPt
    obtain ⟨n, k, rfl, rfl, h0, h1, h2, h3⟩ := Ze.vldK_nat hb
    by_cases hz : n % k = 0
    · have hI := gridI h0 h1 h2 h3 hz
      have q0 : ((n : Int) % (k : Int) == 0) = true := by rw [beq_iff_eq]; omega
      have q00 : (n : Int) % (k : Int) = 0 := by omega
      have hc : Circ n := ⟨h0, by omega⟩
      have hs : sprN n k 0 < 2 ^ n := Ze.sprTo_lt (n := n) (k := k) (m := 0) (by omega) k
      have hd1 : 1 ≤ n / k := Nat.div_pos h3 h2
      have hd2 : n / k ≤ n := Nat.div_le_self _ _
      have hq1 : (n : Int) / (k : Int) = ((n / k : Nat) : Int) := by simp
      have hzl : zeN (spF n (chF n (sprN n k 0))) n < 2 ^ n := zeN_lt _ _
      have hp16 : 2 ^ n ≤ 2 ^ 16 := Nat.pow_le_pow_right (by omega) h1
      have hns := grid_some h0 h1 hd1 hd2 hs hI.odd hI.tile
      have hle := fun b => grid_part (b := b) h0 h1 hd1 hd2 hs hI.odd hI.tile
      have HSp := Lib.hid (fun W => (show Calls Tryd.prog 6 #[.int .i64 n, .int .i64 k, .int .i64 0] W _ from Ze.Spread_ok n k 0 h0 h1 h2 h3 (by omega) W))
      have HRh := Lib.hid (fun W => by have := Za.Rhythm_any (n : Int) (sprN n k 0 : Nat) W; rwa [Za.vldB_of_nat h0 (by omega) hs hI.odd] at this)
      have HPe := Lib.hid (fun W => by have := Za.Period_ok n (sprN n k 0) h0 (by omega) hs hI.odd W; rwa [hI.per] at this)
      have he : (2 : Int) ^ (n / k) - 1 = ((2 ^ (n / k) - 1 : Nat) : Int) := by have := Nat.two_pow_pos (n / k); simp [Int.ofNat_sub this]
      have hpd : 2 ^ (n / k) ≤ 2 ^ n := Nat.pow_le_pow_right (by omega) hd2
      have hpe : 2 ^ (n / k) % 2 = 0 := by
        obtain ⟨e, hee⟩ : ∃ e, n / k = e + 1 := ⟨n / k - 1, by omega⟩
        rw [hee, Nat.pow_succ]; omega
      have hp0 := Nat.two_pow_pos (n / k)
      have HTi := Lib.hid (fun W (hT : Tab W) => by
        have := Za.Tiles_ok n (sprN n k 0) (2 ^ (n / k) - 1) h0 (by omega) hs (by omega) hI.odd (by omega) W hT
        rwa [hI.tile, ← he] at this)
      have HPa := Lib.hid (fun W (hT : Tab W) => Za.Partner_ok n (sprN n k 0) h0 (by omega) hs hI.odd W hT)
      have HSi := Lib.hid (fun W => Silent_ok n hc (sprN n k 0) hs W)
      have HB := Lib.hid (fun j => Za.bit_int (zeN (spF n (chF n (sprN n k 0))) n) j (by omega))
      have HZ := Lib.hid (fun j (hj : j < n) => hI.zero j hj)
      have HT := Lib.hid hT
      have Hns := Lib.hid hns
      have Hle := Lib.hid (fun b (hb : ∀ x ∈ partners n (sprN n k 0), b ≤ x) => show (b : Int) ≤ (2 : Int) ^ (n / k) - 1 by have := hle b hb; rw [he]; omega)
      have hpw := Ze.pow_bd ((n / k : Nat) : Int) (by omega) (by omega)
      simp only [Int.toNat_natCast] at hpw
      have hu := fun j (hj : j < 17) => umul0 (j := j) (d := n / k) (n := n) hj (by omega) (by omega)
      have HU := Lib.hid hu
      have Hzl := Lib.hid (show zeN (spF n (chF n (sprN n k 0))) n < 65536 by omega)
      clear hb hI hT hns hle he hpe hp0 hs hzl hpd hp16 hc hu
      generalize zeN (spF n (chF n (sprN n k 0))) n = z at *
      generalize partners n (sprN n k 0) = ps at *
      generalize sprN n k 0 = s at *
      generalize n / k = d at *
      go_enter Tryd.func3, Tryd.ntmps3
      go_wp2_with fail
      refine (HPt.out _).mono ?_
      rintro e u1 ⟨rfl, rfl⟩
      go_wp2_with fail
      refine (HSp.out _).mono ?_
      rintro e u2 ⟨rfl, m2, rfl⟩
      have B2 := Lib.hid (bl_drewN (Below.refl w.heap.size w) m2)
      go_wp2_with fail
      refine (HRh.out _).mono ?_
      rintro e u3 ⟨rfl, rfl⟩
      go_wp2_with fail
      refine (HPe.out _).mono ?_
      rintro e u4 ⟨rfl, b4⟩
      have B4 := Lib.hid (below_nx B2.out b4)
      clear b4
      go_wp2_with fail
      refine (HTi.out _ (HT.out.same B4.out)).mono ?_
      rintro e u5 ⟨rfl, b5⟩
      have B5 := Lib.hid (below_nx B4.out b5)
      clear b5
      go_wp2_with fail
      refine (HPa.out _ (HT.out.same B5.out)).mono ?_
      rintro e u6 ⟨hp, b6⟩
      have B6 := Lib.hid (below_nx B5.out b6)
      clear b6
      rcases hp with ⟨h, _⟩ | ⟨b, hb1, hb2, rfl⟩
      · exact absurd h Hns.out
      have hbl := Hle.out b hb2
      have hb0 : (0 : Int) ≤ (b : Int) := Int.natCast_nonneg _
      clear hb1 hb2
      go_wp2_with fail
      refine (HSi.out _).mono ?_
      rintro e u7 ⟨rfl, b7⟩
      have B7 := Lib.hid (below_nx B6.out b7)
      clear b7
      have hgt : decide ((2 : Int) ^ d - 1 < (b : Int)) = false := decide_eq_false (by omega)
      go_wp2
      go_loopw [15, 105] (fun _ i wr => ∃ j m : Nat, j ≤ n ∧ i = .int .i64 (j : Int) ∧ wr = u7.drewN m) (fun _ i _ => n - (intOf i).toNat)
      case atStart => exact ⟨0, 0, Nat.zero_le _, rfl, rfl⟩
      case round =>
        obtain ⟨j, m, hj, rfl, rfl⟩ := hrel
        by_cases hlt : j < n
        · have hbj := HB.out j
          have hzj := HZ.out j hlt
          have huj := HU.out j (by omega)
          have hzl := Hzl.out
          have hjd : j * d ≤ 16 * 16 := Nat.mul_le_mul (by omega) (by omega)
          have hjd0 : 0 ≤ (j : Int) * (d : Int) := Int.mul_nonneg (by omega) (by omega)
          have hjd1 : (j : Int) * (d : Int) ≤ 256 := by have e : ((j : Int) * (d : Int)) = ((j * d : Nat) : Int) := by simp
                                                        omega
          have hm0 : ((j : Int) * (d : Int)) % (n : Int) = ((j * d % n : Nat) : Int) := by simp
          by_cases hzz : j * d % n = 0
          · have hbz : bits .and .i64 ((z : Int) / 2 ^ j) 1 = 0 := by
              rw [hbj, if_neg (by rw [Nat.testBit_eq_decide_div_mod_eq]; have := hzj.2 hzz; simp [this])]
            have hm1 : ((j : Int) * (d : Int) % (n : Int) == 0) = true := by rw [hm0, hzz]; rfl
            clear hbj hzj huj hzz hm0 hjd HB HZ HU Hzl hzl
            go_wp2_with fail
            go_quiet (fail)
            go_wp2
            refine ⟨⟨j + 1, m + nq, by omega, by go_num, rfl⟩, ?_⟩
            simp only [intOf]
            omega
          · have hbz : bits .and .i64 ((z : Int) / 2 ^ j) 1 = 1 := by
              rw [hbj, if_pos (by rw [Nat.testBit_eq_decide_div_mod_eq]; have := mt hzj.1 hzz; simp; omega)]
            have hm1 : ((j : Int) * (d : Int) % (n : Int) == 0) = false := by rw [hm0, beq_eq_false_iff_ne]; omega
            clear hbj hzj huj hzz hm0 hjd HB HZ HU Hzl hzl
            go_wp2_with fail
            go_quiet (fail)
            go_wp2
            refine ⟨⟨j + 1, m + nq, by omega, by go_num, rfl⟩, ?_⟩
            simp only [intOf]
            omega
        · go_wp2_with fail
          refine (HAw.out _).mono ?_
          rintro e uz ⟨rfl, bz⟩
          go_wp2
          go_ret
          exact ⟨rfl, below_nx (bl_drewN B7.out m) bz⟩
    · have q0 : ((n : Int) % (k : Int) == 0) = false := by rw [beq_eq_false_iff_ne]; omega
      clear hb hT
      go_enter Tryd.func3, Tryd.ntmps3
      go_wp2_with fail
      refine (HPt.out _).mono ?_
      rintro e u1 ⟨rfl, rfl⟩
      go_wp2_with fail
      refine (HAw.out _).mono ?_
      rintro e uz ⟨rfl, bz⟩
      go_wp2
      go_ret
      exact ⟨rfl, bz⟩

end Go.Proofs.YtbdmljakdjdjkaaDoor
