/-
  The walk of the statement on the sums.
-/
import Derived.Test.YtmpoigbgcafmoaaDoorSumsMath
namespace Go.Proofs.YtmpoigbgcafmoaaDoor
open Go.RowKit Go.Shelf
attribute [local go_sem] Oper.semAt_some
set_option maxRecDepth 100000

theorem ChordsSums_walk (n a b : Int) (_w0 : (Lit.int .i64 n).wf = true) (_w1 : (Lit.int .i64 a).wf = true) (_w2 : (Lit.int .i64 b).wf = true) (w : World) (hT : Tab w) :
    Calls Tryd.prog 11 #[.int .i64 n, .int .i64 a, .int .i64 b] w fun e w' => e = .returned (.bool true) ∧ Below w.heap.size w w' := by
  have HVa := Lib.hid (Valid_any n a)
  have HVb := Lib.hid (Valid_any n b)
  obtain ⟨p, hva⟩ : ∃ p, vldB n a = p := ⟨_, rfl⟩
  obtain ⟨q, hvb⟩ : ∃ q, vldB n b = q := ⟨_, rfl⟩
  rw [hva] at HVa
  rw [hvb] at HVb
  cases p
  · have H1 := Lib.hid (Vector_bad n a hva)
    clear hva hvb hT HVb HVa
    go_enter Tryd.func11, Tryd.ntmps11
    go_wp2_with fail
    refine (H1.out _).mono ?_
    rintro e w1 ⟨rfl, bl1⟩
    go_wp2_with fail
    refine (awake_any _).mono ?_
    rintro e w5 ⟨rfl, b5⟩
    go_wp2
    go_ret
    exact ⟨rfl, below_next bl1 b5⟩
  obtain ⟨n, a, rfl, rfl, h1, h2, h3⟩ := vldB_nat hva
  have H1 := Lib.hid (Vector_ok n a h1 h2 h3)
  cases q
  · clear hva hvb h3
    go_enter Tryd.func11, Tryd.ntmps11
    go_wp2_with fail
    refine (H1.out _ hT).mono ?_
    rintro e w1 ⟨b1, rfl, hb1, r1, bl1⟩
    go_wp2_with fail
    refine (HVa.out _).mono ?_
    rintro e w4 ⟨rfl, rfl⟩
    go_wp2_with fail
    refine (HVb.out _).mono ?_
    rintro e w4 ⟨rfl, rfl⟩
    go_wp2_with fail
    refine (awake_any _).mono ?_
    rintro e w5 ⟨rfl, b5⟩
    go_wp2
    go_ret
    exact ⟨rfl, below_next bl1 b5⟩
  obtain ⟨n', b, hn', rfl, _, _, h4⟩ := vldB_nat hvb
  obtain rfl : n = n' := by omega
  have hn2 : 2 ^ n ≤ 2 ^ 16 := Nat.pow_le_pow_right (by omega) h2
  have H2 := Lib.hid (Common_ok n a a h1 h2 h3 h3)
  have H3 := Lib.hid (Common_ok n a b h1 h2 h3 h4)
  have HS := Lib.hid (Size_any a (by omega))
  have HSb := Lib.hid (Size_any b (by omega))
  have lv := Lib.hid (vecN_length n a)
  have lc := Lib.hid (comN_length a n a)
  have ld := Lib.hid (comN_length a n b)
  have mv := Lib.hid (vecN_le n a)
  have mq := Lib.hid (vec_sum h1 (by omega) h3)
  have mc := Lib.hid (com_sum (by omega) h3 h4)
  have md := Lib.hid (comAt_le a n b)
  have mu := Lib.hid (fun i hi => (comN_at (a := a) (n := n) (b := a) (i := i + 1) (by omega)).trans (com_up (n := n) (c := a) (i := i) (by omega) h3 hi))
  have mw := Lib.hid (fun i hi => (comN_at (a := a) (n := n) (b := a) (i := n - i - 1) (by omega)).trans (com_down (n := n) (c := a) (i := i) (by omega) h3 hi))
  have m0 := Lib.hid (((comN_at (a := a) (n := n) (b := a) (i := 0) (by omega)).trans (comAt_aut (by omega) h3 (by omega))).trans (aut_nought (by omega) h3))
  have me := Lib.hid (fun i hi => comN_at (a := a) (n := n) (b := b) (i := i) hi)
  have hsl : (tonesL a).length ≤ 64 := tonesL_length a
  have hsb : (tonesL b).length ≤ 64 := tonesL_length b
  generalize comN a n a = C at H2 lc mu mw m0
  generalize comN a n b = D at H3 ld me
  generalize comAt a n b = dF at mc md me
  generalize vecN n a = V at H1 lv mv mq mu mw
  generalize (tonesL a).length = s at HS mq mc m0 hsl
  generalize (tonesL b).length = s2 at HSb mc hsb
  have ms := Lib.hid (fun k => sum_le (n := k) mv.out)
  have mt := Lib.hid (fun k => sum_le (n := k) md.out)
  clear hva hvb hn' h3 h4 hn2
  go_enter Tryd.func11, Tryd.ntmps11
  go_wp2_with fail
  refine (H1.out _ hT).mono ?_
  rintro e w1 ⟨b1, rfl, hb1, r1, bl1⟩
  go_wp2_with fail
  refine (HVa.out _).mono ?_
  rintro e w4 ⟨rfl, rfl⟩
  go_wp2_with fail
  refine (HVb.out _).mono ?_
  rintro e w4 ⟨rfl, rfl⟩
  go_wp2_with fail
  refine (H2.out _).mono ?_
  rintro e w2 ⟨b2, rfl, hb2, r2, bl2⟩
  have c2 := below_next bl1 bl2
  have r1' := r1.later bl2
  clear r1 bl1 bl2 hT
  go_wp2_with fail
  refine (H3.out _).mono ?_
  rintro e w3 ⟨b3, rfl, hb3, r3, bl3⟩
  have c3 := below_next c2 bl3
  have r1'' := r1'.later bl3
  have r2' := r2.later bl3
  clear r1' r2 bl3 c2
  have R1 := Lib.hid r1''
  have R2 := Lib.hid r2'
  have R3 := Lib.hid r3
  clear r1'' r2' r3
  go_wp2_with fail
  refine (HS.out _).mono ?_
  rintro e w4 ⟨rfl, rfl⟩
  go_wp2_with fail
  go_loopw [14, 16, 17, 92] (fun su _ _ i wr => ∃ k m : Nat, k ≤ n / 2 ∧ i = .int .i64 k ∧ su = .int .i64 ((sumN k (fun i => V[i]?.getD 0) : Nat) : Int) ∧ wr = w3.drewN m) (fun _ _ _ i _ => n / 2 - (intOf i).toNat)
  case atStart => exact ⟨0, 0, Nat.zero_le _, rfl, rfl, rfl⟩
  case round =>
    obtain ⟨k, m, hk, rfl, rfl, rfl⟩ := hrel
    by_cases hlt : k < n / 2
    · have xa := mv.out k
      have xu := mu.out k hlt
      have xw := mw.out k hlt
      have xs := ms.out k
      have c1 := (R1.out.cell k).trans (ints_at (by rw [lv.out]; exact hlt))
      have cu := (R2.out.cell (k + 1)).trans (ints_at (by rw [lc.out]; omega))
      have cw := (R2.out.cell (n - k - 1)).trans (ints_at (by rw [lc.out]; omega))
      rw [xu] at cu
      rw [xw] at cw
      have hsum : Hid (sumN (k + 1) (fun i => V[i]?.getD 0) = sumN k (fun i => V[i]?.getD 0) + V[k]?.getD 0) := Lib.hid rfl
      generalize sumN k (fun i => V[i]?.getD 0) = S0 at hsum xs
      generalize V[k]?.getD 0 = x at hsum xa cu cw c1
      have hs2 : S0 ≤ 65536 := by
        have : k * 4096 ≤ 8 * 4096 := Nat.mul_le_mul_right _ (by omega)
        omega
      clear xu xw xs
      by_cases he : 2 * (k + 1) = n
      · rw [if_pos he] at cu cw
        have t0 : (2 * ((k : Int) + 1) == (n : Int)) = true := by rw [beq_iff_eq]; omega
        clear he
        go_wp2
        go_roundw
        case rel => exact ⟨k + 1, m, by omega, by go_num, by rw [hsum.out]; go_num, rfl⟩
        case measure => simp only [intOf]; omega
      · rw [if_neg he] at cu cw
        have t0 : (2 * ((k : Int) + 1) == (n : Int)) = false := by rw [beq_eq_false_iff_ne]; omega
        clear he
        go_wp2
        go_roundw
        case rel => exact ⟨k + 1, m, by omega, by go_num, by rw [hsum.out]; go_num, rfl⟩
        case measure => simp only [intOf]; omega
    · obtain rfl : k = n / 2 := by omega
      have q := mq.out
      have q2 := ms.out (n / 2)
      generalize sumN (n / 2) (fun i => V[i]?.getD 0) = P at q q2
      have q' : (s : Int) * ((s : Int) - 1) = 2 * (P : Int) := by
        have e : (s : Int) * s = s + 2 * P := by rw [← Int.natCast_mul, ← q]; simp
        rw [Int.mul_sub, e]; omega
      have hP : P ≤ 65536 := by
        have : n / 2 * 4096 ≤ 8 * 4096 := Nat.mul_le_mul_right _ (by omega)
        omega
      have t1 : ((P : Int) == (s : Int) * ((s : Int) - 1) / 2) = true := by rw [beq_iff_eq]; omega
      have Q := Lib.hid q'
      have T1 := Lib.hid t1
      clear q q2 q' t1
      go_wp2_with fail
      go_loopw [15, 19, 128] (fun su _ i wr => ∃ k : Nat, k ≤ n ∧ i = .int .i64 k ∧ su = .int .i64 ((sumN k dF : Nat) : Int) ∧ wr = w3.drewN m) (fun _ _ i _ => n - (intOf i).toNat)
      case atStart => exact ⟨0, Nat.zero_le _, rfl, rfl, rfl⟩
      case round =>
        obtain ⟨k, hk, rfl, rfl, rfl⟩ := hrel
        by_cases hlt : k < n
        · have xa := md.out k
          have xe := me.out k hlt
          have xs := mt.out k
          have c1 := (R3.out.cell k).trans (ints_at (by rw [ld.out]; exact hlt))
          rw [xe] at c1
          have hsum : Hid (sumN (k + 1) dF = sumN k dF + dF k) := Lib.hid rfl
          generalize sumN k dF = S0 at hsum xs
          generalize dF k = x at hsum xa c1
          have hs2 : S0 ≤ 1024 := by
            have : k * 64 ≤ 16 * 64 := Nat.mul_le_mul_right _ (by omega)
            omega
          clear xe xs
          go_wp2
          go_roundw
          case rel => exact ⟨k + 1, by omega, by go_num, by rw [hsum.out]; go_num, trivial⟩
          case measure => simp only [intOf]; omega
        · obtain rfl : k = n := by omega
          have qs := mc.out
          generalize sumN k dF = S1 at qs
          have hq : s * s2 ≤ 64 * 64 := Nat.mul_le_mul hsl hsb
          have t2 : ((S1 : Int) == (s : Int) * (s2 : Int)) = true := by rw [beq_iff_eq, ← Int.natCast_mul, ← qs]
          have hp2 : (s : Int) * (s2 : Int) ≤ 4096 ∧ 0 ≤ (s : Int) * (s2 : Int) := by rw [← Int.natCast_mul]; omega
          have hp1 := Q.out
          have t1 := T1.out
          have c0 := (R2.out.cell 0).trans (ints_at (by rw [lc.out]; omega))
          rw [m0.out] at c0
          clear qs hq
          go_wp2_with (go_at_call 45; refine (HSb.out _).mono ?_; rintro e w4 ⟨rfl, rfl⟩)
          refine (awake_any _).mono ?_
          rintro e w5 ⟨rfl, b5⟩
          have c5 := below_next (below_drewN c3 m) b5
          go_wp2
          go_ret
          exact ⟨rfl, c5⟩

end Go.Proofs.YtmpoigbgcafmoaaDoor
