/-
  The statement on roots and silence: the walk.
-/
import Derived.Test.YthnenhfdojpobaaDoorWhSilMath
import Derived.Test.YthnenhfdojpobaaDoorWhFns2
import Derived.Test.YthnenhfdojpobaaDoorZaCaRootsOnly
import Derived.Test.YthnenhfdojpobaaDoorZaCaTilesLaw
import Derived.Test.YthnenhfdojpobaaDoorFrame
namespace Go.Proofs.YthnenhfdojpobaaDoor
open Go.ChangeShapes Go.WideShapes Go.ChangeAt Go.RowKit
attribute [local go_sem] Oper.semAt_some
set_option linter.unusedVariables false
set_option maxRecDepth 100000

theorem intsR {W : World} {b : Nat} {xs : List Nat} (h : Row W b 3 (ints xs)) : IntsV W (.slice (some ⟨b, 0, none⟩) xs.length xs.length) (natI xs) := by
  refine ⟨_, xs.length, by rw [natI_len], by rw [natI_len]; exact Nat.le_refl _, fun _ => ⟨b, 0, rfl, fun i hi => ?_⟩⟩
  rw [natI_len] at hi
  rw [Nat.zero_add, h.cell i, ints_at hi]
  unfold natI
  rw [List.getElem?_map]
  cases e : xs[i]? with
  | none => rw [List.getElem?_eq_none_iff] at e; omega
  | some x => rfl
theorem turns_any (w : World) : Calls Tryd.prog 5 #[] w fun e w' => e = .returned (.bool true) ∧ Below w.heap.size w w' := by
  have hc4 : Circ 4 := ⟨by omega, by omega⟩
  have hq4 : qN 4 = 13 := rfl
  have HS := Lib.hid (fun W => Spectrum_ok 4 hc4 [0, 1, 0, 0] ⟨rfl, by rw [hq4]; decide⟩ (.slice (some ⟨w.heap.size, 0, none⟩) 4 4) W)
  rw [show tabN 4 (spF 4 (ofL [0, 1, 0, 0])) = [1, 5, 12, 8] by decide +kernel] at HS
  have HE := Lib.hid (fun a b W ha hb => by have := Equal_any (natI [1, 5, 12, 8]) (natI [1, 5, 12, 8]) a b W (by unfold maxLen; simp [natI]) (by unfold maxLen; simp [natI]) ha hb; rwa [show (natI [1, 5, 12, 8] == natI [1, 5, 12, 8]) = true from beq_self_eq_true _] at this)
  have I0 := Lib.hid (intsR (Row.new w 3 (ints [0, 1, 0, 0])))
  have HN := Lib.hid (fun W => intsR (Row.new W 3 (ints [1, 5, 12, 8])))
  have B0 := Lib.hid ((Below.refl w.heap.size w).alloc (Nat.le_refl _) (.cells (ints [0, 1, 0, 0]).toArray 3))
  have HNb := Lib.hid (fun (W : World) => (Below.refl W.heap.size W).alloc (Nat.le_refl _) (.cells (ints [1, 5, 12, 8]).toArray 3))
  go_enter Tryd.func5, Tryd.ntmps5
  go_wp2_with fail
  refine (HS.out _ I0.out).mono ?_
  rintro e w1 ⟨v1, rfl, i1, b1⟩
  have B1 := Lib.hid (below_nx B0.out b1)
  have I1 := Lib.hid i1
  clear i1 b1
  go_wp2_with fail
  have J1 := Lib.hid (I1.out.later (HNb.out w1))
  refine (HE.out _ _ _ J1.out (HN.out w1)).mono ?_
  rintro e w2 ⟨rfl, q, rfl⟩
  go_wp2
  go_ret
  exact ⟨rfl, bl_drewN (below_nx B1.out (HNb.out w1)) q⟩

theorem topgcd_any (a b : Nat) (ha : a < 2 ^ 62) (hb : b < 2 ^ 62) (w : World) :
    Calls Tryd.prog 8 #[.int .i64 a, .int .i64 b] w fun e w' => e = .returned (.int .i64 (Nat.gcd a b : Nat)) ∧ ∃ m, w' = w.drewN m := by
  go_enter Tryd.func8, Tryd.ntmps8
  go_wp2
  go_loopw [0, 1] (fun u v wr => ∃ x y m : Nat, x < 2 ^ 62 ∧ y < 2 ^ 62 ∧ u = .int .i64 x ∧ v = .int .i64 y ∧ Nat.gcd x y = Nat.gcd a b ∧ wr = w.drewN m) (fun _ v _ => (intOf v).toNat)
  case atStart => exact ⟨a, b, 0, ha, hb, rfl, rfl, rfl, rfl⟩
  case round =>
    obtain ⟨x, y, m, hx, hy, rfl, rfl, hg, rfl⟩ := hrel
    have Hg := Lib.hid hg; clear hg
    by_cases h : y = 0
    · subst h
      have h' : ((0 : Nat) : Int) = 0 := rfl
      rw [h']
      go_wp2
      go_ret
      exact ⟨ret_int (by rw [← Hg.out, Nat.gcd_zero_right]), m, rfl⟩
    · have h1 : ((y : Int) != 0) = true := by rw [bne_iff_ne]; omega
      have h2 : ((y : Int) == 0) = false := by rw [beq_eq_false_iff_ne]; omega
      have hz : x % y < y := Nat.mod_lt _ (by omega)
      go_wp2
      go_quiet (fail)
      go_wp2
      go_roundw
      case rel => exact ⟨y, x % y, m + nq, hy, by omega, rfl, rfl, by rw [show Nat.gcd y (x % y) = Nat.gcd x y by rw [Nat.gcd_comm x y, Nat.gcd_rec y x, Nat.gcd_comm], Hg.out], World.drewN_drewN _ _ _⟩
      case measure => simp only [intOf]; omega

theorem ze_both {n : Nat} (h : Circ n) (f g : Nat → Nat) (hs : ∀ k, k < n → ((f k = 0 ∨ g k = 0) ↔ k ≠ 0)) : zeN f n ||| zeN g n = 2 ^ n - 2 := by
  obtain ⟨m, rfl⟩ : ∃ m, n = m + 1 := ⟨n - 1, by have := h.1; omega⟩
  have e : 2 ^ (m + 1) - 2 = 2 * (2 ^ m - 1) := by rw [Nat.pow_succ]; have := Nat.two_pow_pos m; omega
  refine Nat.eq_of_testBit_eq fun i => ?_
  rw [Nat.testBit_or, zeN_bit, zeN_bit, e]
  by_cases hi : i < m + 1
  · have := hs i hi
    cases i with
    | zero =>
      rw [Nat.testBit_zero]
      have h1 : ¬ (f 0 = 0 ∨ g 0 = 0) := fun x => (this.1 x) rfl
      have h2 : f 0 ≠ 0 := fun x => h1 (.inl x)
      have h3 : g 0 ≠ 0 := fun x => h1 (.inr x)
      simp [h2, h3]
    | succ i =>
      rw [Nat.testBit_succ, Nat.mul_div_cancel_left _ (by omega), Nat.testBit_two_pow_sub_one]
      have h1 : f (i + 1) = 0 ∨ g (i + 1) = 0 := this.2 (by omega)
      rcases h1 with h1 | h1 <;> simp [h1] <;> omega
  · rw [show decide (i < m + 1) = false from decide_eq_false hi]
    cases i with
    | zero => omega
    | succ i =>
      rw [Nat.testBit_succ, Nat.mul_div_cancel_left _ (by omega), Nat.testBit_two_pow_sub_one]
      simp; omega
theorem mem_roots {n a r : Nat} (h : r ∈ Za.rootsL n a) : 2 ≤ r ∧ r ≤ n ∧ n % r = 0 ∧ rootB a r = true := by
  unfold Za.rootsL Za.rootsTo at h
  obtain ⟨h1, h2⟩ := List.mem_filter.1 h
  have h3 := List.mem_range.1 h1
  rw [Bool.and_eq_true, Bool.and_eq_true, decide_eq_true_eq, beq_iff_eq] at h2
  exact ⟨h2.1, by omega, h2.2.1, h2.2.2⟩

set_option maxHeartbeats 4000000 in
theorem sil1 (n a : Nat) (b : Int) (hn : 2 ≤ n) (hn2 : n ≤ 24) (ha : a < 2 ^ n) (ha1 : a % 2 = 1) (hb16 : n ≤ 16) (hvb : Za.vldB (n : Int) b = false) (w : World) (hT : Tab w) :
    Calls Tryd.prog 3 #[.int .i64 n, .int .i64 a, .int .i64 b] w fun e w' => e = .returned (.bool true) ∧ Below w.heap.size w w' := by
  have HAw := Lib.hid (fun W => turns_any W)
  have HRa := Lib.hid (fun W => by have := Za.Rhythm_any (n : Int) (a : Int) W; rwa [Za.vldB_of_nat hn hn2 ha ha1] at this)
  have hc : Circ n := ⟨hn, by omega⟩
  have HRo := Lib.hid (fun W (hT : Tab W) => Za.Roots_ok n a hn hn2 ha ha1 W hT)
  have HSi := Lib.hid (fun W => Silent_ok n hc a ha W)
  have hzl : zeN (spF n (chF n a)) n < 2 ^ n := zeN_lt _ _
  have hp16 : 2 ^ n ≤ 2 ^ 16 := Nat.pow_le_pow_right (by omega) hb16
  have HB := Lib.hid (fun k => Za.bit_int (zeN (spF n (chF n a)) n) k (by omega))
  have HBz := Lib.hid (fun k (hk : k < n) (hk1 : 1 ≤ k) (hr : n / Nat.gcd n k ∈ Za.rootsL n a) => show (zeN (spF n (chF n a)) n).testBit k = true by
    rw [zeN_bit, root_silent hc ha hk hk1 (mem_roots hr).2.2.2, decide_eq_true hk]; rfl)
  have HMr := Lib.hid (fun r (h : r ∈ Za.rootsL n a) => mem_roots h)
  have HLr := Lib.hid (show (Za.rootsL n a).length ≤ n by
    unfold Za.rootsL Za.rootsTo
    rw [List.range_succ_eq_map, List.filter_cons_of_neg (by simp)]
    exact Nat.le_trans (List.length_filter_le _ _) (by simp))
  have HG := Lib.hid (fun k (hk : k < n) W => topgcd_any n k (by omega) (by omega) W)
  have HTb := Lib.hid (Za.Tiles_bad (n : Int) (a : Int) b)
  have HRb := Lib.hid (fun W => Za.Rhythm_any (n : Int) b W)
  have HT := Lib.hid hT
  have Hzl := Lib.hid (show zeN (spF n (chF n a)) n < 65536 by omega)
  have hg16 : decide ((16 : Int) < (n : Int)) = false := decide_eq_false (by omega)
  clear hT
  have hbad : (Za.vldB (n : Int) (a : Int) && Za.vldB (n : Int) b) = false := by rw [hvb, Bool.and_false]
  clear hvb hzl hp16 ha ha1
  generalize zeN (spF n (chF n a)) n = z at *
  generalize Za.rootsL n a = rs at *
  go_enter Tryd.func3, Tryd.ntmps3
  go_wp2_with fail
  refine (HRa.out _).mono ?_
  rintro e u1 ⟨rfl, rfl⟩
  go_wp2_with fail
  refine (HRo.out _ HT.out).mono ?_
  rintro e u2 ⟨v2, rfl, i2, b2⟩
  have I2 := Lib.hid i2
  have B2 := Lib.hid b2
  clear i2 b2
  go_wp2_with fail
  refine (HSi.out _).mono ?_
  rintro e u3 ⟨rfl, b3⟩
  have I3 := Lib.hid (I2.out.later b3)
  have B3 := Lib.hid (below_nx B2.out b3)
  clear b3
  obtain ⟨P, cap, rfl, hcell⟩ := I3.out.as
  clear hcell
  have HCl := Lib.hid (fun (m i : Nat) (hi : i < rs.length) => show ∃ g, P = some ⟨g, 0, none⟩ ∧ (u3.drewN m).cell? ⟨g, i, none⟩ = some (.int .i64 ((rs[i]?.getD 0 : Nat) : Int)) by
    obtain ⟨P', cap', e, hc⟩ := (I3.out.later (bl_drewN (Below.refl _ u3) m)).as
    have := Value.slice.inj e
    obtain ⟨g, h1, _, h3⟩ := hc i hi
    exact ⟨g, this.1.trans h1, h3⟩)
  have HLn := Lib.hid (show rs.length ≤ n from HLr.out)
  go_wp2
  go_loopw [45] (fun i wr => ∃ j m : Nat, j ≤ rs.length ∧ i = .int .i64 (j : Int) ∧ wr = u3.drewN m) (fun i _ => rs.length - (intOf i).toNat)
  case atStart => exact ⟨0, 0, Nat.zero_le _, rfl, rfl⟩
  case round =>
    obtain ⟨j, m, hj, rfl, rfl⟩ := hrel
    have hln := HLn.out
    by_cases hlt : j < rs.length
    · obtain ⟨g, rfl, hcl⟩ := HCl.out m j hlt
      obtain ⟨r, hr⟩ : ∃ r, rs[j]?.getD 0 = r := ⟨_, rfl⟩
      have hmem : r ∈ rs := by rw [← hr, List.getElem?_eq_getElem hlt]; exact List.getElem_mem hlt
      rw [hr] at hcl
      obtain ⟨r2, rn, rm, _⟩ := HMr.out r hmem
      have q0 : ((n : Int) % (r : Int) == 0) = true := by rw [beq_iff_eq]; omega
      have q1 : ((n : Int) % (r : Int) != 0) = false := by rw [bne_eq_false_iff_eq]; omega
      have hr2 : decide ((r : Int) < 2) = false := decide_eq_false (by omega)
      have hr3 : ¬ ((r : Int) < 2) := by omega
      have Hmem := Lib.hid hmem
      clear hmem hr rm
      go_wp2
      go_loopw [13] (fun i wr => ∃ x m' : Nat, 1 ≤ x ∧ x ≤ n ∧ i = .int .i64 (x : Int) ∧ wr = u3.drewN m') (fun i _ => n - (intOf i).toNat)
      case atStart => exact ⟨1, m, Nat.le_refl _, by omega, rfl, rfl⟩
      case round =>
        obtain ⟨x, m', hx1, hx2, rfl, rfl⟩ := hrel
        by_cases hxl : x < n
        · have hg := HG.out x hxl
          have hg0 : 0 < Nat.gcd n x := Nat.gcd_pos_of_pos_left _ (by omega)
          have hgn : Nat.gcd n x ≤ n := Nat.gcd_le_left _ (by omega)
          have hbz := HBz.out x hxl hx1
          have hbx := HB.out x
          have hzl := Hzl.out
          generalize Nat.gcd n x = y at *
          have hg := Lib.hid hg
          have hdv : (n : Int) / (y : Int) = ((n / y : Nat) : Int) := by simp
          have hdn : n / y ≤ n := Nat.div_le_self _ _
          generalize n / y = d at *
          by_cases hyr : d = r
          · have hq : ((d : Int) == (r : Int)) = true := by rw [beq_iff_eq, hyr]
            have hbv : bits .and .i64 ((z : Int) / 2 ^ x) 1 = 1 := by rw [hbx, if_pos (hbz (hyr ▸ Hmem.out))]
            clear hyr hbz hbx
            go_wp2_with fail
            refine (hg.out _).mono ?_
            rintro e u4 ⟨rfl, m4, rfl⟩
            go_wp2
            all_goals exact ⟨⟨x + 1, m' + m4, by omega, by omega, by go_num, rfl⟩, by simp only [intOf]; omega⟩
          · have hq : ((d : Int) == (r : Int)) = false := by rw [beq_eq_false_iff_ne]; omega
            clear hyr hbz hbx
            go_wp2_with fail
            refine (hg.out _).mono ?_
            rintro e u4 ⟨rfl, m4, rfl⟩
            go_wp2
            all_goals exact ⟨⟨x + 1, m' + m4, by omega, by omega, by go_num, rfl⟩, by simp only [intOf]; omega⟩
        · go_wp2
          exact ⟨⟨j + 1, m', by omega, by go_num, rfl⟩, by simp only [intOf]; omega⟩
    · have B4 := Lib.hid (below_nx B3.out (bl_drewN (Below.refl _ u3) m))
      generalize u3.drewN m = u4 at *
      go_wp2_with fail
      refine (HTb.out hbad _).mono ?_
      rintro e u5 ⟨rfl, b5⟩
      have B5 := Lib.hid (below_nx B4.out b5)
      clear b5
      go_wp2_with fail
      refine (HAw.out _).mono ?_
      rintro e uz ⟨rfl, bz⟩
      go_wp2
      go_ret
      exact ⟨rfl, below_nx B5.out bz⟩

set_option maxHeartbeats 4000000 in
theorem sil2 (n a : Nat) (b : Nat) (hn : 2 ≤ n) (hn2 : n ≤ 24) (ha : a < 2 ^ n) (ha1 : a % 2 = 1) (hb16 : n ≤ 16) (hvb : Za.vldB (n : Int) b = true) (hb : b < 2 ^ n) (hb1 : b % 2 = 1) (ht : tileB n a b = false) (w : World) (hT : Tab w) :
    Calls Tryd.prog 3 #[.int .i64 n, .int .i64 a, .int .i64 b] w fun e w' => e = .returned (.bool true) ∧ Below w.heap.size w w' := by
  have HAw := Lib.hid (fun W => turns_any W)
  have HRa := Lib.hid (fun W => by have := Za.Rhythm_any (n : Int) (a : Int) W; rwa [Za.vldB_of_nat hn hn2 ha ha1] at this)
  have hc : Circ n := ⟨hn, by omega⟩
  have HRo := Lib.hid (fun W (hT : Tab W) => Za.Roots_ok n a hn hn2 ha ha1 W hT)
  have HSi := Lib.hid (fun W => Silent_ok n hc a ha W)
  have hzl : zeN (spF n (chF n a)) n < 2 ^ n := zeN_lt _ _
  have hp16 : 2 ^ n ≤ 2 ^ 16 := Nat.pow_le_pow_right (by omega) hb16
  have HB := Lib.hid (fun k => Za.bit_int (zeN (spF n (chF n a)) n) k (by omega))
  have HBz := Lib.hid (fun k (hk : k < n) (hk1 : 1 ≤ k) (hr : n / Nat.gcd n k ∈ Za.rootsL n a) => show (zeN (spF n (chF n a)) n).testBit k = true by
    rw [zeN_bit, root_silent hc ha hk hk1 (mem_roots hr).2.2.2, decide_eq_true hk]; rfl)
  have HMr := Lib.hid (fun r (h : r ∈ Za.rootsL n a) => mem_roots h)
  have HLr := Lib.hid (show (Za.rootsL n a).length ≤ n by
    unfold Za.rootsL Za.rootsTo
    rw [List.range_succ_eq_map, List.filter_cons_of_neg (by simp)]
    exact Nat.le_trans (List.length_filter_le _ _) (by simp))
  have HG := Lib.hid (fun k (hk : k < n) W => topgcd_any n k (by omega) (by omega) W)
  have HTb := Lib.hid (Za.Tiles_bad (n : Int) (a : Int) b)
  have HRb := Lib.hid (fun W => Za.Rhythm_any (n : Int) b W)
  have HT := Lib.hid hT
  have Hzl := Lib.hid (show zeN (spF n (chF n a)) n < 65536 by omega)
  have hg16 : decide ((16 : Int) < (n : Int)) = false := decide_eq_false (by omega)
  clear hT
  rw [hvb] at HRb
  have HTi := Lib.hid (fun W (hT : Tab W) => Za.Tiles_ok n a b hn hn2 ha hb ha1 hb1 W hT)
  rw [ht] at HTi
  clear hvb hzl hp16 ha ha1 hb hb1 ht HTb
  generalize zeN (spF n (chF n a)) n = z at *
  generalize Za.rootsL n a = rs at *
  go_enter Tryd.func3, Tryd.ntmps3
  go_wp2_with fail
  refine (HRa.out _).mono ?_
  rintro e u1 ⟨rfl, rfl⟩
  go_wp2_with fail
  refine (HRo.out _ HT.out).mono ?_
  rintro e u2 ⟨v2, rfl, i2, b2⟩
  have I2 := Lib.hid i2
  have B2 := Lib.hid b2
  clear i2 b2
  go_wp2_with fail
  refine (HSi.out _).mono ?_
  rintro e u3 ⟨rfl, b3⟩
  have I3 := Lib.hid (I2.out.later b3)
  have B3 := Lib.hid (below_nx B2.out b3)
  clear b3
  obtain ⟨P, cap, rfl, hcell⟩ := I3.out.as
  clear hcell
  have HCl := Lib.hid (fun (m i : Nat) (hi : i < rs.length) => show ∃ g, P = some ⟨g, 0, none⟩ ∧ (u3.drewN m).cell? ⟨g, i, none⟩ = some (.int .i64 ((rs[i]?.getD 0 : Nat) : Int)) by
    obtain ⟨P', cap', e, hc⟩ := (I3.out.later (bl_drewN (Below.refl _ u3) m)).as
    have := Value.slice.inj e
    obtain ⟨g, h1, _, h3⟩ := hc i hi
    exact ⟨g, this.1.trans h1, h3⟩)
  have HLn := Lib.hid (show rs.length ≤ n from HLr.out)
  go_wp2
  go_loopw [45] (fun i wr => ∃ j m : Nat, j ≤ rs.length ∧ i = .int .i64 (j : Int) ∧ wr = u3.drewN m) (fun i _ => rs.length - (intOf i).toNat)
  case atStart => exact ⟨0, 0, Nat.zero_le _, rfl, rfl⟩
  case round =>
    obtain ⟨j, m, hj, rfl, rfl⟩ := hrel
    have hln := HLn.out
    by_cases hlt : j < rs.length
    · obtain ⟨g, rfl, hcl⟩ := HCl.out m j hlt
      obtain ⟨r, hr⟩ : ∃ r, rs[j]?.getD 0 = r := ⟨_, rfl⟩
      have hmem : r ∈ rs := by rw [← hr, List.getElem?_eq_getElem hlt]; exact List.getElem_mem hlt
      rw [hr] at hcl
      obtain ⟨r2, rn, rm, _⟩ := HMr.out r hmem
      have q0 : ((n : Int) % (r : Int) == 0) = true := by rw [beq_iff_eq]; omega
      have q1 : ((n : Int) % (r : Int) != 0) = false := by rw [bne_eq_false_iff_eq]; omega
      have hr2 : decide ((r : Int) < 2) = false := decide_eq_false (by omega)
      have hr3 : ¬ ((r : Int) < 2) := by omega
      have Hmem := Lib.hid hmem
      clear hmem hr rm
      go_wp2
      go_loopw [13] (fun i wr => ∃ x m' : Nat, 1 ≤ x ∧ x ≤ n ∧ i = .int .i64 (x : Int) ∧ wr = u3.drewN m') (fun i _ => n - (intOf i).toNat)
      case atStart => exact ⟨1, m, Nat.le_refl _, by omega, rfl, rfl⟩
      case round =>
        obtain ⟨x, m', hx1, hx2, rfl, rfl⟩ := hrel
        by_cases hxl : x < n
        · have hg := HG.out x hxl
          have hg0 : 0 < Nat.gcd n x := Nat.gcd_pos_of_pos_left _ (by omega)
          have hgn : Nat.gcd n x ≤ n := Nat.gcd_le_left _ (by omega)
          have hbz := HBz.out x hxl hx1
          have hbx := HB.out x
          have hzl := Hzl.out
          generalize Nat.gcd n x = y at *
          have hg := Lib.hid hg
          have hdv : (n : Int) / (y : Int) = ((n / y : Nat) : Int) := by simp
          have hdn : n / y ≤ n := Nat.div_le_self _ _
          generalize n / y = d at *
          by_cases hyr : d = r
          · have hq : ((d : Int) == (r : Int)) = true := by rw [beq_iff_eq, hyr]
            have hbv : bits .and .i64 ((z : Int) / 2 ^ x) 1 = 1 := by rw [hbx, if_pos (hbz (hyr ▸ Hmem.out))]
            clear hyr hbz hbx
            go_wp2_with fail
            refine (hg.out _).mono ?_
            rintro e u4 ⟨rfl, m4, rfl⟩
            go_wp2
            all_goals exact ⟨⟨x + 1, m' + m4, by omega, by omega, by go_num, rfl⟩, by simp only [intOf]; omega⟩
          · have hq : ((d : Int) == (r : Int)) = false := by rw [beq_eq_false_iff_ne]; omega
            clear hyr hbz hbx
            go_wp2_with fail
            refine (hg.out _).mono ?_
            rintro e u4 ⟨rfl, m4, rfl⟩
            go_wp2
            all_goals exact ⟨⟨x + 1, m' + m4, by omega, by omega, by go_num, rfl⟩, by simp only [intOf]; omega⟩
        · go_wp2
          exact ⟨⟨j + 1, m', by omega, by go_num, rfl⟩, by simp only [intOf]; omega⟩
    · have B4 := Lib.hid (below_nx B3.out (bl_drewN (Below.refl _ u3) m))
      generalize u3.drewN m = u4 at *
      go_wp2_with fail
      refine (HTi.out _ (HT.out.same B4.out)).mono ?_
      rintro e u5 ⟨rfl, b5⟩
      have B5 := Lib.hid (below_nx B4.out b5)
      clear b5
      go_wp2_with fail
      refine (HAw.out _).mono ?_
      rintro e uz ⟨rfl, bz⟩
      go_wp2
      go_ret
      exact ⟨rfl, below_nx B5.out bz⟩

set_option maxHeartbeats 4000000 in
theorem sil3 (n a : Nat) (b : Nat) (hn : 2 ≤ n) (hn2 : n ≤ 24) (ha : a < 2 ^ n) (ha1 : a % 2 = 1) (hb16 : n ≤ 16) (hvb : Za.vldB (n : Int) b = true) (hb : b < 2 ^ n) (hb1 : b % 2 = 1) (ht : tileB n a b = true) (w : World) (hT : Tab w) :
    Calls Tryd.prog 3 #[.int .i64 n, .int .i64 a, .int .i64 b] w fun e w' => e = .returned (.bool true) ∧ Below w.heap.size w w' := by
  have HAw := Lib.hid (fun W => turns_any W)
  have HRa := Lib.hid (fun W => by have := Za.Rhythm_any (n : Int) (a : Int) W; rwa [Za.vldB_of_nat hn hn2 ha ha1] at this)
  have hc : Circ n := ⟨hn, by omega⟩
  have HRo := Lib.hid (fun W (hT : Tab W) => Za.Roots_ok n a hn hn2 ha ha1 W hT)
  have HSi := Lib.hid (fun W => Silent_ok n hc a ha W)
  have hzl : zeN (spF n (chF n a)) n < 2 ^ n := zeN_lt _ _
  have hp16 : 2 ^ n ≤ 2 ^ 16 := Nat.pow_le_pow_right (by omega) hb16
  have HB := Lib.hid (fun k => Za.bit_int (zeN (spF n (chF n a)) n) k (by omega))
  have HBz := Lib.hid (fun k (hk : k < n) (hk1 : 1 ≤ k) (hr : n / Nat.gcd n k ∈ Za.rootsL n a) => show (zeN (spF n (chF n a)) n).testBit k = true by
    rw [zeN_bit, root_silent hc ha hk hk1 (mem_roots hr).2.2.2, decide_eq_true hk]; rfl)
  have HMr := Lib.hid (fun r (h : r ∈ Za.rootsL n a) => mem_roots h)
  have HLr := Lib.hid (show (Za.rootsL n a).length ≤ n by
    unfold Za.rootsL Za.rootsTo
    rw [List.range_succ_eq_map, List.filter_cons_of_neg (by simp)]
    exact Nat.le_trans (List.length_filter_le _ _) (by simp))
  have HG := Lib.hid (fun k (hk : k < n) W => topgcd_any n k (by omega) (by omega) W)
  have HTb := Lib.hid (Za.Tiles_bad (n : Int) (a : Int) b)
  have HRb := Lib.hid (fun W => Za.Rhythm_any (n : Int) b W)
  have HT := Lib.hid hT
  have Hzl := Lib.hid (show zeN (spF n (chF n a)) n < 65536 by omega)
  have hg16 : decide ((16 : Int) < (n : Int)) = false := decide_eq_false (by omega)
  clear hT
  rw [hvb] at HRb
  have HTi := Lib.hid (fun W (hT : Tab W) => Za.Tiles_ok n a b hn hn2 ha hb ha1 hb1 W hT)
  rw [ht] at HTi
  have HSb := Lib.hid (fun W => Silent_ok n hc b hb W)
  have hzb : zeN (spF n (chF n b)) n < 2 ^ n := zeN_lt _ _
  have Hor := Lib.hid (show (bits .or .i64 ((zeN (spF n (chF n a)) n : Nat) : Int) ((zeN (spF n (chF n b)) n : Nat) : Int) == (2 : Int) ^ n - 2) = true by
    rw [or_nat _ _ (by omega) (by omega), show (zeN (spF n (chF n a)) n ||| zeN (spF n (chF n b)) n) = 2 ^ n - 2 from ze_both hc _ _ (fun k hk => tile_silent hc ht hk)]
    have h4 : 2 ^ 1 ≤ 2 ^ n := Nat.pow_le_pow_right (by omega) (by omega)
    have e : ((2 ^ n - 2 : Nat) : Int) = (2 : Int) ^ n - 2 := by simp [Int.ofNat_sub (show 2 ≤ 2 ^ n by omega)]
    rw [e]; exact beq_self_eq_true _)
  have Hpw := Lib.hid (by have := Za.pow_bd (n : Int) (by omega) (by omega); simpa only [Int.toNat_natCast] using this)
  clear hvb hzl hp16 ha ha1 hb hb1 ht HTb hzb
  generalize zeN (spF n (chF n b)) n = zb at *
  generalize zeN (spF n (chF n a)) n = z at *
  generalize Za.rootsL n a = rs at *
  go_enter Tryd.func3, Tryd.ntmps3
  go_wp2_with fail
  refine (HRa.out _).mono ?_
  rintro e u1 ⟨rfl, rfl⟩
  go_wp2_with fail
  refine (HRo.out _ HT.out).mono ?_
  rintro e u2 ⟨v2, rfl, i2, b2⟩
  have I2 := Lib.hid i2
  have B2 := Lib.hid b2
  clear i2 b2
  go_wp2_with fail
  refine (HSi.out _).mono ?_
  rintro e u3 ⟨rfl, b3⟩
  have I3 := Lib.hid (I2.out.later b3)
  have B3 := Lib.hid (below_nx B2.out b3)
  clear b3
  obtain ⟨P, cap, rfl, hcell⟩ := I3.out.as
  clear hcell
  have HCl := Lib.hid (fun (m i : Nat) (hi : i < rs.length) => show ∃ g, P = some ⟨g, 0, none⟩ ∧ (u3.drewN m).cell? ⟨g, i, none⟩ = some (.int .i64 ((rs[i]?.getD 0 : Nat) : Int)) by
    obtain ⟨P', cap', e, hc⟩ := (I3.out.later (bl_drewN (Below.refl _ u3) m)).as
    have := Value.slice.inj e
    obtain ⟨g, h1, _, h3⟩ := hc i hi
    exact ⟨g, this.1.trans h1, h3⟩)
  have HLn := Lib.hid (show rs.length ≤ n from HLr.out)
  go_wp2
  go_loopw [45] (fun i wr => ∃ j m : Nat, j ≤ rs.length ∧ i = .int .i64 (j : Int) ∧ wr = u3.drewN m) (fun i _ => rs.length - (intOf i).toNat)
  case atStart => exact ⟨0, 0, Nat.zero_le _, rfl, rfl⟩
  case round =>
    obtain ⟨j, m, hj, rfl, rfl⟩ := hrel
    have hln := HLn.out
    by_cases hlt : j < rs.length
    · obtain ⟨g, rfl, hcl⟩ := HCl.out m j hlt
      obtain ⟨r, hr⟩ : ∃ r, rs[j]?.getD 0 = r := ⟨_, rfl⟩
      have hmem : r ∈ rs := by rw [← hr, List.getElem?_eq_getElem hlt]; exact List.getElem_mem hlt
      rw [hr] at hcl
      obtain ⟨r2, rn, rm, _⟩ := HMr.out r hmem
      have q0 : ((n : Int) % (r : Int) == 0) = true := by rw [beq_iff_eq]; omega
      have q1 : ((n : Int) % (r : Int) != 0) = false := by rw [bne_eq_false_iff_eq]; omega
      have hr2 : decide ((r : Int) < 2) = false := decide_eq_false (by omega)
      have hr3 : ¬ ((r : Int) < 2) := by omega
      have Hmem := Lib.hid hmem
      clear hmem hr rm
      go_wp2
      go_loopw [13] (fun i wr => ∃ x m' : Nat, 1 ≤ x ∧ x ≤ n ∧ i = .int .i64 (x : Int) ∧ wr = u3.drewN m') (fun i _ => n - (intOf i).toNat)
      case atStart => exact ⟨1, m, Nat.le_refl _, by omega, rfl, rfl⟩
      case round =>
        obtain ⟨x, m', hx1, hx2, rfl, rfl⟩ := hrel
        by_cases hxl : x < n
        · have hg := HG.out x hxl
          have hg0 : 0 < Nat.gcd n x := Nat.gcd_pos_of_pos_left _ (by omega)
          have hgn : Nat.gcd n x ≤ n := Nat.gcd_le_left _ (by omega)
          have hbz := HBz.out x hxl hx1
          have hbx := HB.out x
          have hzl := Hzl.out
          generalize Nat.gcd n x = y at *
          have hg := Lib.hid hg
          have hdv : (n : Int) / (y : Int) = ((n / y : Nat) : Int) := by simp
          have hdn : n / y ≤ n := Nat.div_le_self _ _
          generalize n / y = d at *
          by_cases hyr : d = r
          · have hq : ((d : Int) == (r : Int)) = true := by rw [beq_iff_eq, hyr]
            have hbv : bits .and .i64 ((z : Int) / 2 ^ x) 1 = 1 := by rw [hbx, if_pos (hbz (hyr ▸ Hmem.out))]
            clear hyr hbz hbx
            go_wp2_with fail
            refine (hg.out _).mono ?_
            rintro e u4 ⟨rfl, m4, rfl⟩
            go_wp2
            all_goals exact ⟨⟨x + 1, m' + m4, by omega, by omega, by go_num, rfl⟩, by simp only [intOf]; omega⟩
          · have hq : ((d : Int) == (r : Int)) = false := by rw [beq_eq_false_iff_ne]; omega
            clear hyr hbz hbx
            go_wp2_with fail
            refine (hg.out _).mono ?_
            rintro e u4 ⟨rfl, m4, rfl⟩
            go_wp2
            all_goals exact ⟨⟨x + 1, m' + m4, by omega, by omega, by go_num, rfl⟩, by simp only [intOf]; omega⟩
        · go_wp2
          exact ⟨⟨j + 1, m', by omega, by go_num, rfl⟩, by simp only [intOf]; omega⟩
    · have B4 := Lib.hid (below_nx B3.out (bl_drewN (Below.refl _ u3) m))
      generalize u3.drewN m = u4 at *
      go_wp2_with fail
      refine (HTi.out _ (HT.out.same B4.out)).mono ?_
      rintro e u5 ⟨rfl, b5⟩
      have B5 := Lib.hid (below_nx B4.out b5)
      clear b5
      go_wp2_with fail
      refine (HRb.out _).mono ?_
      rintro e u6 ⟨rfl, rfl⟩
      go_wp2_with fail
      refine (HSb.out _).mono ?_
      rintro e u7 ⟨rfl, b7⟩
      have B7 := Lib.hid (below_nx B5.out b7)
      clear b7
      have hor := Hor.out
      have hpw := Hpw.out
      go_wp2_with fail
      refine (HAw.out _).mono ?_
      rintro e uz ⟨rfl, bz⟩
      go_wp2
      go_ret
      exact ⟨rfl, below_nx B7.out bz⟩

set_option maxHeartbeats 4000000 in
theorem TopSilent_walk (n a b : Int) (_w0 : (Lit.int .i64 n).wf = true) (_w1 : (Lit.int .i64 a).wf = true) (_w2 : (Lit.int .i64 b).wf = true) (w : World) (hT : Tab w) :
    Calls Tryd.prog 3 #[.int .i64 n, .int .i64 a, .int .i64 b] w fun e w' => e = .returned (.bool true) ∧ Below w.heap.size w w' := by
  have HAw := Lib.hid (fun W => turns_any W)
  have HRa := Lib.hid (fun W => Za.Rhythm_any n a W)
  cases hv : Za.vldB n a
  · rw [hv] at HRa
    clear hv hT
    go_enter Tryd.func3, Tryd.ntmps3
    go_wp2_with fail
    refine (HRa.out _).mono ?_
    rintro e u1 ⟨rfl, rfl⟩
    go_wp2_with fail
    refine (HAw.out _).mono ?_
    rintro e uz ⟨rfl, bz⟩
    go_wp2
    go_ret
    exact ⟨rfl, bz⟩
  · rw [hv] at HRa
    obtain ⟨n, a, rfl, rfl, hn, hn2, ha, ha1⟩ := Za.vldB_nat hv
    by_cases hb16 : n ≤ 16
    · cases hvb : Za.vldB (n : Int) b
      · exact sil1 n a b hn hn2 ha ha1 hb16 hvb w hT
      · obtain ⟨n2, b, e1, rfl, _, _, hb, hb1⟩ := Za.vldB_nat hvb
        obtain rfl : n = n2 := by omega
        cases ht : tileB n a b
        · exact sil2 n a b hn hn2 ha ha1 hb16 hvb hb hb1 ht w hT
        · exact sil3 n a b hn hn2 ha ha1 hb16 hvb hb hb1 ht w hT
    · have hgt : decide ((16 : Int) < (n : Int)) = true := decide_eq_true (by omega)
      clear hv hT
      go_enter Tryd.func3, Tryd.ntmps3
      go_wp2_with fail
      refine (HRa.out _).mono ?_
      rintro e u1 ⟨rfl, rfl⟩
      go_wp2_with fail
      refine (HAw.out _).mono ?_
      rintro e uz ⟨rfl, bz⟩
      go_wp2
      go_ret
      exact ⟨rfl, bz⟩

end Go.Proofs.YthnenhfdojpobaaDoor
