/-
  The statement on Far.
-/
import Derived.Test.YtibkhjbcagihbaaTrFar
namespace Go.Proofs.Ytibkhjbcagihbaa
open Go.ChangeShapes Go.WideShapes Go.ChangeAt Go.RowKit
set_option maxRecDepth 100000

theorem fine2f (n a b t u : Int) (v : Bool) (h : (kindB n a b && (triB n t && triB n u)) = v) (bk cap : Nat) (w : World) (hc : w.cell? ⟨bk, 0, none⟩ = some (.int .i64 t)) (hd : w.cell? ⟨bk, 1, none⟩ = some (.int .i64 u)) :
    Calls Try.prog 18 #[kv n a b, .slice (some ⟨bk, 0, none⟩) 2 cap] w fun e w' => e = .returned (.bool v) ∧ Below w.heap.size w w' := by
  refine (fine_any n a b [t, u] bk cap w (by simp) (fun i hi => ?_)).mono ?_
  · have hi' : i < 2 := hi
    rcases (show i = 0 ∨ i = 1 by omega) with rfl | rfl
    · exact hc
    · exact hd
  · rintro e w' ⟨rfl, hb⟩
    exact ⟨ret_bool (by rw [← h]; simp), hb⟩

theorem Far_bad (n a b t : Int) (h : (kindB n a b && triB n t) = false) (w : World) :
    Calls Try.prog 25 #[kv n a b, .int .i64 t] w fun e w' => e = .returned (.tuple #[.slice none 0 0, .int .i64 2]) ∧ Below w.heap.size w w' := by
  have HV := Lib.hid (valid1 n a b t false h (w.heap.size + 1) 1 (laid1 w n a b t) (by simp))
  have HA := Lib.hid (below_laid1 w n a b t)
  clear h
  go_enter Try.func25, Try.ntmps25
  go_wp2_with fail
  refine HV.out.mono ?_
  rintro e w1 ⟨rfl, b1⟩
  go_wp2
  go_ret2
  exact ⟨rfl, below_nx HA.out b1⟩

theorem Far_cells (n a b t : Nat) (hk : KOk n a b) (ht : t < 2 * n) (w : World) :
    Calls Try.prog 25 #[kv n a b, .int .i64 t] w fun e w' => ∃ g cap, e = .returned (.tuple #[.slice (some ⟨g, 0, none⟩) (farL n a b).length cap, .int .i64 0]) ∧ (∀ i, i < (farL n a b).length → w'.cell? ⟨g, i, none⟩ = some (.int .i64 (((farL n a b)[i]?.getD 0 : Nat) : Int))) ∧ Below w.heap.size w w' := by
  refine (Far_ok n a b t hk ht w).mono ?_
  rintro e w' ⟨v, lo, rfl, hown, hb⟩
  have hl := far_len hk
  rcases IntsAt.of_own hown with ⟨_, h⟩ | ⟨g, cap, rfl, h⟩
  · rw [h] at hl; simp at hl
  · exact ⟨g, cap, rfl, h, hb⟩

theorem far_short {n a b : Nat} (hk : KOk n a b) : (farL n a b).length ≤ 2 * n := by
  have hn := hk.pos
  unfold farL
  rw [cntL_length]
  refine topL_le (fun l hl => ?_)
  obtain ⟨p, hp, rfl⟩ := List.mem_map.1 hl
  have hI := (bfs_inv hk (s := 0) (by omega) lprL).1
  obtain ⟨j, hj⟩ := List.getElem?_of_mem hp
  have h1 := hI.len j p hj
  have h2 : j < (bfs n a b 0 lprL).length := (List.getElem?_eq_some_iff.1 hj).1
  have h3 := hI.size
  omega

theorem sum_take {xs : List Nat} {k : Nat} (h : k < xs.length) : sumL (xs.take (k + 1)) = sumL (xs.take k) + xs[k]?.getD 0 := by
  rw [List.take_add_one, List.getElem?_eq_getElem h, Option.toList_some, sumL_append]
  show _ + (0 + xs[k]) = _ + xs[k]
  omega
theorem sum_le (xs : List Nat) (k : Nat) : sumL (xs.take k) ≤ sumL xs := by
  conv => rhs; rw [← List.take_append_drop k xs, sumL_append]
  omega

set_option maxHeartbeats 4000000 in
theorem TriadsFar_walk (n a b t u : Int) (_ : (Lit.int .i64 n).wf = true) (_ : (Lit.int .i64 a).wf = true) (_ : (Lit.int .i64 b).wf = true) (_ : (Lit.int .i64 t).wf = true) (_ : (Lit.int .i64 u).wf = true) (w : World) :
    Calls Try.prog 14 #[kv n a b, .int .i64 t, .int .i64 u] w fun e w' => e = .returned (.bool true) ∧ Below w.heap.size w w' := by
  have HO := Lib.hid (Of_any n a b)
  have HAw := Lib.hid awake_any
  obtain ⟨W0, hW0⟩ : ∃ W0, w.alloc (rcells n a b) = W0 := ⟨_, rfl⟩
  have b0 : Below w.heap.size w W0 := by rw [← hW0]; exact (Below.refl _ w).alloc (Nat.le_refl _) _
  have k0 : W0.cell? ⟨w.heap.size, 0, none⟩ = some (.int .i64 n) := by rw [← hW0]; simp
  have k1 : W0.cell? ⟨w.heap.size, 1, none⟩ = some (.int .i64 a) := by rw [← hW0]; simp
  have k2 : W0.cell? ⟨w.heap.size, 2, none⟩ = some (.int .i64 b) := by rw [← hW0]; simp
  have hW := Lib.hid hW0
  clear hW0
  cases hb : kindB n a b && triB n t
  · have HF := Lib.hid (Far_bad n a b t hb)
    clear hb
    go_enter Try.func14, Try.ntmps14
    go_wp2_with fail
    rw [hW.out]
    refine (HO.out _).mono ?_
    rintro e w1 ⟨rfl, b1⟩
    have c1 := below_nx b0 b1
    go_wp2_with fail
    refine (HF.out _).mono ?_
    rintro e w2 ⟨rfl, b2⟩
    have c2 := below_nx c1 b2
    go_wp2_with fail
    refine (HAw.out _).mono ?_
    rintro e w3 ⟨rfl, b3⟩
    go_wp2
    go_ret
    exact ⟨rfl, below_nx c2 b3⟩
  · have hb' := hb
    rw [Bool.and_eq_true] at hb'
    have hkb := hb'.1
    obtain ⟨n, a, b, rfl, rfl, rfl, hk⟩ := kindB_nat hb'.1
    have ht : 0 ≤ t ∧ t < 2 * n := by have := hb'.2; unfold triB at this; exact of_decide_eq_true this
    have htB := hb'.2
    obtain ⟨t, rfl⟩ := Int.eq_ofNat_of_zero_le ht.1
    have ht : t < 2 * n := by omega
    have h16 := hk.h16
    have HF := Lib.hid (Far_cells n a b t hk ht)
    cases hu : triB n u
    · have HFi := Lib.hid (fine2f n a b t u false (by rw [hkb, htB, hu]; rfl))
      clear hb hb' hkb htB hu
      generalize farL n a b = xs at HF
      go_enter Try.func14, Try.ntmps14
      go_wp2_with fail
      rw [hW.out]
      refine (HO.out _).mono ?_
      rintro e w1 ⟨rfl, b1⟩
      have c1 := below_nx b0 b1
      have k0 := cell_later b1 k0
      have k1 := cell_later b1 k1
      have k2 := cell_later b1 k2
      go_wp2_with fail
      refine (HF.out _).mono ?_
      rintro e w2 ⟨g, cap, rfl, hc, b2⟩
      have c2 := below_nx c1 b2
      have k0 := cell_later b2 k0
      have k1 := cell_later b2 k1
      have k2 := cell_later b2 k2
      have HFc := Lib.hid (HFi.out w2.heap.size 2 (w2.alloc (.cells #[.int .i64 t, .int .i64 u] 3)) (by simp) (by simp))
      have c3 := c2.alloc c2.size (.cells #[.int .i64 t, .int .i64 u] 3)
      clear hc b1 b2
      go_wp2_with fail
      refine HFc.out.mono ?_
      rintro e w3 ⟨rfl, b3⟩
      have c4 := below_nx c3 b3
      go_wp2_with fail
      refine (HAw.out _).mono ?_
      rintro e w4 ⟨rfl, b4⟩
      go_wp2
      go_ret
      exact ⟨rfl, below_nx c4 b4⟩
    · have hu2 : 0 ≤ u ∧ u < 2 * n := by unfold triB at hu; exact of_decide_eq_true hu
      have HFi := Lib.hid (fine2f n a b t u true (by rw [hkb, htB, hu]; rfl))
      obtain ⟨u, rfl⟩ := Int.eq_ofNat_of_zero_le hu2.1
      have hu3 : u < 2 * n := by omega
      have HF2 := Lib.hid (Far_cells n a b u hk hu3)
      have HSz := Lib.hid (Size_ok n a b hk)
      have HPos := Lib.hid (far_pos n a b)
      have hlen := far_len hk
      have hshort := far_short hk
      have hf0 := far_zero hk
      obtain ⟨q, hf1, hq⟩ := far_one hk
      have hsum := far_sum n a b
      have hNs : (bfsA n a b 0).length ≤ 2 * n := (bfs_inv hk (s := 0) (by omega) lprL).1.size
      clear hb hb' hkb htB hu hu2
      generalize farL n a b = xs at HF HF2 HPos hlen hshort hf0 hf1 hsum
      generalize (bfsA n a b 0).length = N at HSz hsum hNs
      have HSum := Lib.hid hsum
      have HF0 := Lib.hid hf0
      have HF1 := Lib.hid hf1
      clear hsum hf0 hf1
      go_enter Try.func14, Try.ntmps14
      go_wp2_with fail
      rw [hW.out]
      refine (HO.out _).mono ?_
      rintro e w1 ⟨rfl, b1⟩
      have c1 := below_nx b0 b1
      have k0 := cell_later b1 k0
      have k1 := cell_later b1 k1
      have k2 := cell_later b1 k2
      go_wp2_with fail
      refine (HF.out _).mono ?_
      rintro e w2 ⟨g, cap, rfl, hc, b2⟩
      have c2 := below_nx c1 b2
      have k0 := cell_later b2 k0
      have k1 := cell_later b2 k1
      have k2 := cell_later b2 k2
      have HFc := Lib.hid (HFi.out w2.heap.size 2 (w2.alloc (.cells #[.int .i64 t, .int .i64 u] 3)) (by simp) (by simp))
      have bA : Below w2.heap.size w2 (w2.alloc (.cells #[.int .i64 t, .int .i64 u] 3)) := (Below.refl _ w2).alloc (Nat.le_refl _) _
      have c3 := c2.alloc c2.size (.cells #[.int .i64 t, .int .i64 u] 3)
      have k0 : (w2.alloc (.cells #[.int .i64 t, .int .i64 u] 3)).cell? ⟨w.heap.size, 0, none⟩ = some (.int .i64 n) := cell_later bA k0
      have k1 : (w2.alloc (.cells #[.int .i64 t, .int .i64 u] 3)).cell? ⟨w.heap.size, 1, none⟩ = some (.int .i64 a) := cell_later bA k1
      have k2 : (w2.alloc (.cells #[.int .i64 t, .int .i64 u] 3)).cell? ⟨w.heap.size, 2, none⟩ = some (.int .i64 b) := cell_later bA k2
      have HC := Lib.hid (fun i hi => cell_later bA (hc i hi))
      clear hc b1 b2 bA
      go_wp2_with fail
      refine HFc.out.mono ?_
      rintro e w3 ⟨rfl, b3⟩
      have c4 := below_nx c3 b3
      have k0 := cell_later b3 k0
      have k1 := cell_later b3 k1
      have k2 := cell_later b3 k2
      have HC := Lib.hid (fun i hi => cell_later b3 (HC.out i hi))
      go_wp2_with fail
      refine (HO.out _).mono ?_
      rintro e w4 ⟨rfl, b4⟩
      have c5 := below_nx c4 b4
      have k0 := cell_later b4 k0
      have k1 := cell_later b4 k1
      have k2 := cell_later b4 k2
      have HC := Lib.hid (fun i hi => cell_later b4 (HC.out i hi))
      go_wp2_with fail
      refine (HF2.out _).mono ?_
      rintro e w5 ⟨g2, cap2, rfl, hc2, b5⟩
      have c6 := below_nx c5 b5
      have k0 := cell_later b5 k0
      have k1 := cell_later b5 k1
      have k2 := cell_later b5 k2
      have HC := Lib.hid (fun i hi => cell_later b5 (HC.out i hi))
      have HC2 := Lib.hid hc2
      clear hc2 b3 b4 b5
      go_wp2_with fail
      refine (HO.out _).mono ?_
      rintro e w6 ⟨rfl, b6⟩
      have c7 := below_nx c6 b6
      have HC := Lib.hid (fun i hi => cell_later b6 (HC.out i hi))
      have HC2 := Lib.hid (fun i hi => cell_later b6 (HC2.out i hi))
      go_wp2_with fail
      refine (HSz.out _).mono ?_
      rintro e w7 ⟨rfl, b7⟩
      have c8 := below_nx c7 b7
      have HC := Lib.hid (fun i hi => cell_later b7 (HC.out i hi))
      have HC2 := Lib.hid (fun i hi => cell_later b7 (HC2.out i hi))
      clear b6 b7 c1 c2 c3 c4 c5 c6 c7 k0 k1 k2
      go_wp2
      go_loopw [13, 57] (fun s i wr => ∃ k : Nat, k ≤ xs.length ∧ i = .int .i64 k ∧ s = .int .i64 (sumL (xs.take k) : Nat) ∧ w7 = wr) (fun _ i _ => xs.length - (intOf i).toNat)
      case atStart => exact ⟨0, Nat.zero_le _, rfl, rfl, rfl⟩
      case round =>
        obtain ⟨k, hk2, rfl, rfl, rfl⟩ := hrel
        by_cases hlt : k < xs.length
        · have hx := HC.out k hlt
          have hsx := sum_take hlt
          have hsl := sum_le xs (k + 1)
          rw [HSum.out, hsx] at hsl
          have hpx := HPos.out _ (show xs[k]?.getD 0 ∈ xs by rw [List.getElem?_eq_getElem hlt]; exact List.getElem_mem _)
          have HSx := Lib.hid hsx
          generalize xs[k]?.getD 0 = x at hx hpx hsl HSx
          generalize sumL (xs.take k) = S at HSx hsl
          clear hsx
          have hx1 : ¬ ((x : Int) < 1) := by omega
          go_wp2
          go_round
          case rel => exact ⟨k + 1, by omega, by go_num, by rw [HSx.out]; go_num, by trivial⟩
          case measure => simp [intOf]; omega
        · have hall : sumL (xs.take k) = N := by rw [List.take_of_length_le (by omega), HSum.out]
          rw [hall]
          have HE := Lib.hid (EqualInts_same xs g g2 cap cap2 w7 (by omega) HC.out HC2.out)
          have hx0 := HC.out 0 (by omega)
          rw [HF0.out, Option.getD_some] at hx0
          have hx1 := HC.out 1 (by omega)
          rw [HF1.out, Option.getD_some] at hx1
          have hqI : ((q : Int) ≤ 3) := by omega
          go_wp2_with fail
          refine HE.out.mono ?_
          rintro e w8 ⟨rfl, m, rfl⟩
          have c9 := below_drewN c8 m
          have hx0' : (w7.drewN m).cell? ⟨g, 0, none⟩ = some (.int .i64 (1 : Nat)) := hx0
          have hx1' : (w7.drewN m).cell? ⟨g, 1, none⟩ = some (.int .i64 q) := hx1
          go_wp2_with fail
          refine (HAw.out _).mono ?_
          rintro e w9 ⟨rfl, b9⟩
          go_wp2
          go_ret
          exact ⟨rfl, below_nx c9 b9⟩
end Go.Proofs.Ytibkhjbcagihbaa
