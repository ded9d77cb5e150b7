/-
  The walk of the statement on turning.
-/
import Derived.Test.YtmemnkmmjejlgaaDoorEvTurnMath
import Derived.Test.YtmemnkmmjejlgaaDoorEvWordsLaw
namespace Go.Proofs.YtmemnkmmjejlgaaDoor
open Go.RowKit Go.Shelf
attribute [local go_sem] Oper.semAt_some
set_option maxRecDepth 100000

/-- What the statement makes before it moves. -/
def baseTo (n s : Nat) (turned : Bool) (x : Nat) : Nat := if turned then trnTo n s x else orL id (tonesB x s)

theorem baseTo_lt {n s : Nat} (hn : 1 ≤ n) (turned : Bool) {x : Nat} (hx : x ≤ n) : baseTo n s turned x < 2 ^ n := by
  unfold baseTo
  cases turned
  · exact orL_lt _ _ _ (fun t ht => by have := (tonesB_lt ht).1; show t < n; omega)
  · exact trnTo_lt hn x

theorem baseTo_succ (n s : Nat) (turned : Bool) (x : Nat) : baseTo n s turned (x + 1) = if s.testBit x then baseTo n s turned x ||| 2 ^ (if turned then (n - x) % n else x) else baseTo n s turned x := by
  unfold baseTo
  cases turned
  · simp only [Bool.false_eq_true, if_false]
    rw [tonesB_succ]
    cases s.testBit x
    · simp
    · simp only [if_true]; rw [orL_snoc, Nat.one_shiftLeft]; rfl
  · simp only [if_true]
    exact trnTo_succ n s x

theorem orL_id {n s : Nat} (hs : s < 2 ^ n) : orL id (tonesB n s) = s := by
  apply Nat.eq_of_testBit_eq
  intro i
  rw [testBit_orL, Bool.eq_iff_iff, List.any_eq_true]
  constructor
  · rintro ⟨y, hy, h⟩
    have := of_decide_eq_true h
    rw [← show y = i from this]
    exact (tonesB_lt hy).2
  · intro h
    refine ⟨i, ?_, decide_eq_true rfl⟩
    unfold tonesB
    rw [List.mem_filter, List.mem_range]
    refine ⟨?_, h⟩
    apply Nat.lt_of_not_le
    intro hle
    rw [Nat.testBit_lt_two_pow (Nat.lt_of_lt_of_le hs (Nat.pow_le_pow_right (by omega) hle))] at h
    cases h

theorem base_same {n s : Nat} (hn : 0 < n) (hs : s < 2 ^ n) (turned : Bool) : Same n s (baseTo n s turned n) := by
  unfold baseTo
  cases turned
  · simp only [Bool.false_eq_true, if_false]
    rw [orL_id hs]
    exact ⟨hs, rfl, fun _ _ => Iff.rfl, fun _ _ => rfl⟩
  · exact same_trn hn hs

theorem sums16 {f : Nat → Nat} (h : ∀ i, f i ≤ 16) (a : Nat) : sumN a f ≤ a * 16 := by
  have h1 := sum_leq (n := a) (f := f) (g := fun _ => 16) (fun i _ => h i)
  rwa [sum_const] at h1

theorem EqInts_zero (p q : Option Addr) (c d : Nat) (w : World) : Calls Tryd.prog 21 #[.slice p 0 c, .slice q 0 d] w fun e w' => e = .returned (.bool true) ∧ ∃ m, w' = w.drewN m := by
  go_enter Tryd.func21, Tryd.ntmps21
  go_wp2
  go_loopw [13] (fun i wr => i = .int .i64 0 ∧ wr = w) (fun _ _ => 0)
  case atStart => exact ⟨rfl, rfl⟩
  case round =>
    obtain ⟨rfl, rfl⟩ := hrel
    go_wp2
    go_ret
    exact ⟨rfl, 0, rfl⟩

set_option maxHeartbeats 8000000 in
theorem EvenTurns_walk (n s k j : Int) (turned : Bool) (_w0 : (Lit.int .i64 n).wf = true) (_w1 : (Lit.int .i64 s).wf = true) (_w2 : (Lit.int .i64 k).wf = true) (_w3 : (Lit.int .i64 j).wf = true) (w : World) (hT : Tab w) :
    Calls Tryd.prog 12 #[.int .i64 n, .int .i64 s, .int .i64 k, .int .i64 j, .bool turned] w fun e w' => e = .returned (.bool true) ∧ Below w.heap.size w w' := by
  have HV := Lib.hid (Scale_any n s)
  by_cases hv : vldB n s = true
  · rw [hv] at HV
    obtain ⟨n, s, rfl, rfl, h1, h2, h3, h4⟩ := vldB_nat hv
    have hpos := tonesB_pos h2 h3 h4
    have hle := tonesB_le n s
    have hbase := base_same (by omega) h4 turned
    have HBl := Lib.hid (fun x hx => baseTo_lt (n := n) (s := s) (by omega) turned (x := x) hx)
    have HBs := Lib.hid (fun x => baseTo_succ n s turned x)
    have HB0 := Lib.hid (show baseTo n s turned 0 = 0 by unfold baseTo; cases turned <;> rfl)
    have hs16 : s < 2 ^ 62 := by
      have : 2 ^ n ≤ 2 ^ 16 := Nat.pow_le_pow_right (by omega) h2
      omega
    have HBit := Lib.hid (fun x => bit_int s x hs16)
    obtain ⟨u, hu1, hu2⟩ : ∃ u : Nat, (IntKind.u64.wrap k).tmod (n : Int) = (u : Int) ∧ u < n := by
      obtain ⟨U, hU⟩ : ∃ U : Nat, IntKind.u64.wrap k = (U : Int) := Int.eq_ofNat_of_zero_le (wrap_u64_nonneg k)
      exact ⟨U % n, by rw [hU, Int.tmod_eq_emod_of_nonneg (by omega)]; simp, Nat.mod_lt _ (by omega)⟩
    have HMv := Lib.hid (moved_any n (baseTo n s turned n) u h1 h2 hbase.lt hu2)
    have hsame : Same n s (mvN n (baseTo n s turned n) u) := hbase.trans (same_mv hbase.lt hu2)
    have ht1 : 1 ≤ mvN n (baseTo n s turned n) u := card_pos1 (n := n) (by rw [hsame.card]; exact hpos)
    have ht2 := hsame.lt
    have HE1 := Lib.hid (fun W hW => Even_ok n s h1 h2 h3 h4 W hW)
    have HE2 := Lib.hid (fun W hW => Even_ok n (mvN n (baseTo n s turned n) u) h1 h2 ht1 ht2 W hW)
    rw [hsame.even (by omega) hpos] at HE2
    have HS1 := Lib.hid (fun W hW => Sum_ok n s h1 h2 h3 h4 W hW)
    have HS2 := Lib.hid (fun W hW => Sum_ok n (mvN n (baseTo n s turned n) u) h1 h2 ht1 ht2 W hW)
    rw [hsame.sum] at HS2
    have HW := Lib.hid (fun W hW => Word_ok n s h1 h2 h3 h4 W hW)
    have hws := word_sum (n := n) (s := s) hpos
    have hwl : (spansL n (tonesB n s) 1).length = (tonesB n s).length := spansL_length _ _ _
    have hwb : ∀ i : Nat, (spansL n (tonesB n s) 1)[i]?.getD 0 ≤ 16 := fun i => by
      by_cases hi : i < (spansL n (tonesB n s) 1).length
      · have := spans_le hpos hpos _ (List.getElem_mem hi)
        rw [List.getElem?_eq_getElem hi, Option.getD_some]; omega
      · rw [List.getElem?_eq_none (by omega)]; simp
    have hpow : 2 ^ n ≤ 2 ^ 16 := Nat.pow_le_pow_right (by omega) h2
    have HPow := Lib.hid hpow
    have hsp : (∃ l : List Nat, l.length < 2 ^ 40 ∧ (∀ W, Tab W → Calls Tryd.prog 17 #[.int .i64 n, .int .i64 s, .int .i64 j] W fun e w' => ∃ v, e = .returned (.tuple #[v, .int .i64 0]) ∧ ListAt w' W.heap.size v l ∧ Below W.heap.size W w') ∧
        (∀ W, Tab W → Calls Tryd.prog 17 #[.int .i64 n, .int .i64 (mvN n (baseTo n s turned n) u : Nat), .int .i64 j] W fun e w' => ∃ v, e = .returned (.tuple #[v, .int .i64 0]) ∧ ListAt w' W.heap.size v l ∧ Below W.heap.size W w')) ∨
      ((∀ W, Calls Tryd.prog 17 #[.int .i64 n, .int .i64 s, .int .i64 j] W fun e w' => e = .returned (.tuple #[.slice none 0 0, .int .i64 2]) ∧ Below W.heap.size W w') ∧
        (∀ W, Calls Tryd.prog 17 #[.int .i64 n, .int .i64 (mvN n (baseTo n s turned n) u : Nat), .int .i64 j] W fun e w' => e = .returned (.tuple #[.slice none 0 0, .int .i64 2]) ∧ Below W.heap.size W w')) := by
      by_cases hj : 1 ≤ j ∧ j < ((tonesB n s).length : Nat)
      · obtain ⟨j, rfl⟩ := Int.eq_ofNat_of_zero_le (show 0 ≤ j by omega)
        refine Or.inl ⟨spL n (tonesB n s) j, by have := spL_length_le (n := n) (ts := tonesB n s) (j := j); omega, fun W hW => Spans_ok n s j h1 h2 h3 h4 (by omega) (by omega) W hW, fun W hW => ?_⟩
        have := Spans_ok n (mvN n (baseTo n s turned n) u) j h1 h2 ht1 ht2 (by omega) (by rw [hsame.card]; omega) W hW
        rwa [hsame.spL (by omega) hpos] at this
      · exact Or.inr ⟨fun W => Spans_none n s j h1 h2 h3 h4 hj W, fun W => Spans_none n _ j h1 h2 ht1 ht2 (by rw [hsame.card]; exact hj) W⟩
    have HU := Lib.hid hu1
    have HEqz := Lib.hid (fun (p q : Option Addr) (c d : Nat) (W : World) => EqInts_zero p q c d W)
    clear hv hbase hsame ht1 ht2 h3 h4 hu1 hpow hs16
    generalize hB : baseTo n s turned n = base at *
    have HBase := Lib.hid hB
    clear hB
    generalize mvN n base u = T at *
    generalize evenB n s = bv at *
    generalize sumS n s = sv at *
    generalize spansL n (tonesB n s) 1 = lw at *
    generalize (tonesB n s).length = K at *
    have HWs := Lib.hid hws
    have HWb := Lib.hid hwb
    have HWl := Lib.hid hwl
    have HSp := Lib.hid hsp
    clear hws hwb hsp hwl
    unfold ListAt at HW
    rw [HWl.out] at HW
    go_enter Tryd.func12, Tryd.ntmps12
    go_wp2_with fail
    refine (HV.out _).mono ?_
    rintro e w4 ⟨rfl, rfl⟩
    go_wp2
    go_loopw [13, 49] (fun t i wr => ∃ x m : Nat, x ≤ n ∧ i = .int .i64 x ∧ t = .int .i64 (baseTo n s turned x : Nat) ∧ wr = w.drewN m) (fun _ i _ => n - (intOf i).toNat)
    case atStart => exact ⟨0, 0, Nat.zero_le _, rfl, by rw [HB0.out]; rfl, rfl⟩
    case round =>
      obtain ⟨x, m, hx, rfl, rfl, rfl⟩ := hrel
      by_cases hlt : x < n
      · have hbit := HBit.out x
        have hst := HBs.out x
        have hb0 := HBl.out x hx
        have hb1 := HBl.out (x + 1) (by omega)
        have hpw := HPow.out
        have hneg : ((n : Int) - (x : Int)).tmod n = (((n - x) % n : Nat) : Int) := by
          rw [show (n : Int) - (x : Int) = ((n - x : Nat) : Int) from by omega, Int.tmod_eq_emod_of_nonneg (by omega)]; simp
        have hnl : (n - x) % n < n := Nat.mod_lt _ (by omega)
        have hp1 := pow_bd (((n - x) % n : Nat) : Int) (by omega) (by omega)
        have hp2 := pow_bd (x : Int) (by omega) (by omega)
        simp only [Int.toNat_natCast] at hp1 hp2
        have HOr : ∀ y, y < n → bits .or .i64 ((baseTo n s turned x : Nat) : Int) ((2 : Int) ^ y) = ((baseTo n s turned x ||| 2 ^ y : Nat) : Int) := fun y hy => by
          have b3 : 2 ^ y ≤ 2 ^ 16 := Nat.pow_le_pow_right (by omega) (by omega)
          have e : (2 : Int) ^ y = ((2 ^ y : Nat) : Int) := by simp
          rw [e, or_nat _ _ (by omega) (by omega)]
        have HOr0 : bits .or .i64 ((baseTo n s turned x : Nat) : Int) 0 = ((baseTo n s turned x : Nat) : Int) := by
          have := or_nat (baseTo n s turned x) 0 (by omega) (by decide)
          rw [Nat.or_zero] at this
          exact this
        cases hq : s.testBit x
        · rw [hq] at hbit hst
          simp only [Bool.false_eq_true, if_false] at hbit hst
          have HSt := Lib.hid hst
          have HOr0' := Lib.hid HOr0
          clear hst HOr HOr0 hb0 hb1 hq
          generalize baseTo n s turned x = bx at *
          generalize (n - x) % n = y at *
          cases turned
          all_goals
            go_wp2
            go_roundw
            case rel => exact ⟨x + 1, m, by omega, by go_num, by rw [HSt.out]; first | rw [HOr0'.out] | rfl, rfl⟩
            case measure => simp only [intOf]; omega
        · rw [hq] at hbit hst
          simp only [if_true] at hbit hst
          have HSt := Lib.hid hst
          have HO1 := Lib.hid (HOr x hlt)
          have HO2 := Lib.hid (HOr ((n - x) % n) hnl)
          clear hst HOr HOr0 hb0 hb1 hq
          generalize baseTo n s turned x = bx at *
          generalize (n - x) % n = y at *
          cases turned
          · go_wp2
            go_roundw
            case rel => exact ⟨x + 1, m, by omega, by go_num, by rw [HSt.out, HO1.out]; simp, rfl⟩
            case measure => simp only [intOf]; omega
          · go_wp2
            go_roundw
            case rel => exact ⟨x + 1, m, by omega, by go_num, by rw [HSt.out, HO2.out]; simp, rfl⟩
            case measure => simp only [intOf]; omega
      · have hxn : x = n := by omega
        subst hxn
        rw [HBase.out]
        have hu1 := HU.out
        have t1 : Tab (w.drewN m) := hT
        have b1 := below_drewN (Below.refl w.heap.size w) m
        clear hlt hx
        go_wp2_with fail
        refine (HMv.out _).mono ?_
        rintro e w2 ⟨rfl, q2, rfl⟩
        have t2 : Tab (w.drewN (m + q2)) := hT
        have b2 := below_drewN (Below.refl w.heap.size w) (m + q2)
        go_wp2_with fail
        refine (HE1.out _ t2).mono ?_
        rintro e w3 ⟨rfl, b3⟩
        have t3 := t2.same b3
        have c3 := b2.trans (b3.mono b2.size)
        clear b3 t2 b2 b1 t1
        go_wp2_with fail
        refine (HE2.out _ t3).mono ?_
        rintro e w4 ⟨rfl, b4⟩
        have t4 := t3.same b4
        have c4 := below_next c3 b4
        clear b4 t3 c3
        go_wp2_with fail
        refine (HS1.out _ t4).mono ?_
        rintro e w5 ⟨rfl, b5⟩
        have t5 := t4.same b5
        have c5 := below_next c4 b5
        clear b5 t4 c4
        go_wp2_with fail
        refine (HS2.out _ t5).mono ?_
        rintro e w6 ⟨rfl, b6⟩
        have t6 := t5.same b6
        have c6 := below_next c5 b6
        clear b6 t5 c5
        rcases HSp.out with ⟨l, hll, hp1, hp2⟩ | ⟨hp1, hp2⟩
        · have HP1 := Lib.hid hp1
          have HP2 := Lib.hid hp2
          have HEq := Lib.hid (fun W lo lo' v u h k => EqList (W := W) (lo := lo) (lo' := lo') (v := v) (u := u) hll h k)
          clear hp1 hp2 hll
          go_wp2_with fail
          refine (HP1.out _ t6).mono ?_
          rintro e w7 ⟨v1, rfl, l1, b7⟩
          have t7 := t6.same b7
          have c7 := below_next c6 b7
          have L1 := Lib.hid l1
          clear b7 t6 c6 l1
          go_wp2_with fail
          refine (HP2.out _ t7).mono ?_
          rintro e w8 ⟨v2, rfl, l2, b8⟩
          have t8 := t7.same b8
          have c8 := below_next c7 b8
          have L1' := Lib.hid (L1.out.later b8)
          have L2 := Lib.hid l2
          clear b8 t7 c7 l2 L1
          go_wp2_with fail
          refine (HW.out _ t8).mono ?_
          rintro e w9 ⟨_, rfl, ⟨g, cap, rfl, hg, hcap, hc⟩, b9⟩
          have c9 := below_next c8 b9
          have HC := Lib.hid hc
          have L19 := Lib.hid (L1'.out.later b9)
          have L29 := Lib.hid (L2.out.later b9)
          clear b9 t8 c8 hc L1' L2
          go_wp2
          go_loopw [30, 123] (fun t i wr => ∃ a m' z : Nat, a ≤ K ∧ i = .int .i64 a ∧ t = .int .i64 z ∧ z = sumN a (fun a => lw[a]?.getD 0) ∧ wr = w9.drewN m') (fun _ i _ => K - (intOf i).toNat)
          case atStart => exact ⟨0, 0, 0, Nat.zero_le _, rfl, rfl, rfl, rfl⟩
          case round =>
            obtain ⟨a, m', z, ha, rfl, rfl, hz, rfl⟩ := hrel
            have hz16 := sums16 HWb.out a
            rw [← hz] at hz16
            have HZ := Lib.hid hz
            clear hz
            by_cases hlt2 : a < K
            · have ca := HC.out a hlt2
              have hxb := HWb.out a
              have HSn : Hid (sumN (a + 1) (fun a => lw[a]?.getD 0) = z + lw[a]?.getD 0) := Lib.hid (by rw [HZ.out]; rfl)
              generalize lw[a]?.getD 0 = xx at *
              go_wp2
              go_roundw
              case rel => exact ⟨a + 1, m', z + xx, by omega, by go_num, by go_num, HSn.out.symm, rfl⟩
              case measure => simp only [intOf]; omega
            · obtain rfl : z = x := by rw [HZ.out, ← HWs.out, show a = K by omega]
              have c10 := below_drewN c9 m'
              clear hz16
              go_wp2_with fail
              refine (HEq.out _ _ _ _ _ (L19.out.drewN m') (L29.out.drewN m')).mono ?_
              rintro e w11 ⟨rfl, m11, rfl⟩
              have c11 := below_drewN c9 (m' + m11)
              go_wp2_with fail
              refine (awake_any _).mono ?_
              rintro e w12 ⟨rfl, b12⟩
              have c12 := below_next c11 b12
              clear b12 c11 c10
              go_wp2
              go_ret
              exact ⟨rfl, c12⟩
        · have HP1 := Lib.hid hp1
          have HP2 := Lib.hid hp2
          clear hp1 hp2
          go_wp2_with fail
          refine (HP1.out _).mono ?_
          rintro e w7 ⟨rfl, b7⟩
          have t7 := t6.same b7
          have c7 := below_next c6 b7
          clear b7 t6 c6
          go_wp2_with fail
          refine (HP2.out _).mono ?_
          rintro e w8 ⟨rfl, b8⟩
          have t8 := t7.same b8
          have c8 := below_next c7 b8
          clear b8 t7 c7
          go_wp2_with fail
          refine (HW.out _ t8).mono ?_
          rintro e w9 ⟨_, rfl, ⟨g, cap, rfl, hg, hcap, hc⟩, b9⟩
          have c9 := below_next c8 b9
          have HC := Lib.hid hc
          clear b9 t8 c8 hc
          go_wp2
          go_loopw [30, 123] (fun t i wr => ∃ a m' z : Nat, a ≤ K ∧ i = .int .i64 a ∧ t = .int .i64 z ∧ z = sumN a (fun a => lw[a]?.getD 0) ∧ wr = w9.drewN m') (fun _ i _ => K - (intOf i).toNat)
          case atStart => exact ⟨0, 0, 0, Nat.zero_le _, rfl, rfl, rfl, rfl⟩
          case round =>
            obtain ⟨a, m', z, ha, rfl, rfl, hz, rfl⟩ := hrel
            have hz16 := sums16 HWb.out a
            rw [← hz] at hz16
            have HZ := Lib.hid hz
            clear hz
            by_cases hlt2 : a < K
            · have ca := HC.out a hlt2
              have hxb := HWb.out a
              have HSn : Hid (sumN (a + 1) (fun a => lw[a]?.getD 0) = z + lw[a]?.getD 0) := Lib.hid (by rw [HZ.out]; rfl)
              generalize lw[a]?.getD 0 = xx at *
              go_wp2
              go_roundw
              case rel => exact ⟨a + 1, m', z + xx, by omega, by go_num, by go_num, HSn.out.symm, rfl⟩
              case measure => simp only [intOf]; omega
            · obtain rfl : z = x := by rw [HZ.out, ← HWs.out, show a = K by omega]
              clear hz16
              go_wp2_with fail
              refine (HEqz.out _ _ _ _ _).mono ?_
              rintro e w11 ⟨rfl, m11, rfl⟩
              have c11 := below_drewN c9 (m' + m11)
              go_wp2_with fail
              refine (awake_any _).mono ?_
              rintro e w12 ⟨rfl, b12⟩
              have c12 := below_next c11 b12
              clear b12 c11
              go_wp2
              go_ret
              exact ⟨rfl, c12⟩
  · have hv' : vldB n s = false := by simpa using hv
    rw [hv'] at HV
    have HE := Lib.hid (Even_bad n s hv')
    clear hv hv' hT
    go_enter Tryd.func12, Tryd.ntmps12
    go_wp2_with fail
    refine (HV.out _).mono ?_
    rintro e w4 ⟨rfl, rfl⟩
    go_wp2_with fail
    refine (HE.out _).mono ?_
    rintro e w1 ⟨rfl, b1⟩
    go_wp2_with fail
    refine (awake_any _).mono ?_
    rintro e w5 ⟨rfl, b5⟩
    have c5 := below_next b1 b5
    clear b1 b5
    go_wp2
    go_ret
    exact ⟨rfl, c5⟩

end Go.Proofs.YtmemnkmmjejlgaaDoor
