/-
  What the statements ask first: copies of arguments, one stroke's spectrum; the reference's small functions.
-/
import Derived.Test.YtlmfmfbnbbooaaaWhFns3
namespace Go.Proofs.Ytlmfmfbnbbooaaa
open Go.ChangeShapes Go.WideShapes Go.ChangeAt Go.RowKit
set_option maxRecDepth 100000

theorem wlist_any (xs : List Int) (v : Value) (w : World) (hl : xs.length ≤ maxLen) (h : IntsV w v xs) :
    Calls Try.prog 17 #[v] w fun e w' => ∃ v', e = .returned v' ∧ IntsV w' v' (xs.take 19) ∧ Below w.heap.size w w' := by
  have HT := Lib.hid (IntsV.cut h 19)
  obtain ⟨ao, cap, rfl, hlc, _⟩ := h
  unfold maxLen at hl
  have h0 : 0 ≤ min (xs.length : Int) 19 := by omega
  have h2 : min (xs.length : Int) 19 ≤ cap := by omega
  have HM := Lib.hid (show (min (xs.length : Int) 19).toNat = (xs.take 19).length by rw [List.length_take]; omega)
  go_enter Try.func17, Try.ntmps17
  go_wp2_with fail
  rw [HM.out]
  have HC := Lib.hid (Clone_any (xs.take 19) (.slice ao (xs.take 19).length cap) w (by rw [List.length_take]; omega) (HT.out ao cap rfl))
  refine HC.out.mono ?_
  rintro e w1 ⟨v', rfl, h3, h4⟩
  have H3 := Lib.hid h3
  clear h3
  go_wp2
  go_ret
  exact ⟨v', rfl, H3.out, h4⟩
theorem take19 {xs : List Int} : (xs.take 19).length ≤ maxLen := by rw [List.length_take]; unfold maxLen; omega
theorem WhL.take {n : Nat} {l : List Nat} (h : WhL n l) (hc : Circ n) : (natI l).take 19 = natI l := List.take_of_length_le (by rw [natI_len, h.len]; have := hc.2; omega)
theorem wheelB_take (n : Int) (xs : List Int) : (circB n && wheelB n.toNat (xs.take 19)) = (circB n && wheelB n.toNat xs) := by
  cases hb : circB n
  · rfl
  · obtain ⟨m, rfl, hm⟩ := circB_true hb
    rw [Bool.true_and, Bool.true_and, Int.toNat_natCast]
    by_cases h : xs.length ≤ 19
    · rw [List.take_of_length_le h]
    · have := hm.2
      unfold wheelB
      rw [decide_eq_false (show ¬ (xs.take 19).length = m by rw [List.length_take]; omega), decide_eq_false (show ¬ xs.length = m by omega)]
      rfl

theorem wawake_spec : natI (tabN 4 (spF 4 (ofL [0, 1, 0, 0]))) = [1, 5, 12, 8] := by decide +kernel
theorem wawake_wh : WhL 4 [0, 1, 0, 0] := ⟨rfl, by decide +kernel⟩
theorem circ4 : Circ 4 := ⟨by omega, by omega⟩
theorem IntsV.lit {W : World} {g : Nat} (hg : W.heap.size = g) (xs : List Int) (h0 : 0 < xs.length) : IntsV (W.alloc (.cells (xs.map (Value.int .i64)).toArray 3)) (.slice (some ⟨g, 0, none⟩) xs.length xs.length) xs := by
  subst hg
  refine ⟨_, xs.length, rfl, Nat.le_refl _, fun _ => ⟨_, 0, rfl, fun i hi => ?_⟩⟩
  have hr := Row.new W 3 (xs.map (Value.int .i64))
  rw [Nat.zero_add, hr.cell i]
  simp [hi]
theorem wawake_any (w : World) : Calls Try.prog 20 #[] w fun e w' => e = .returned (.bool true) ∧ Below w.heap.size w w' := by
  have L1 := IntsV.lit (W := w) rfl [0, 1, 0, 0] (by decide)
  have HS := Lib.hid (fun v W (h : IntsV W v (natI [0, 1, 0, 0])) => Spectrum_ok 4 circ4 [0, 1, 0, 0] wawake_wh v W h)
  rw [wawake_spec] at HS
  have HQ := Lib.hid (fun a b W ha hb => Equal_any [1, 5, 12, 8] [1, 5, 12, 8] a b W (by unfold maxLen; simp) (by unfold maxLen; simp) ha hb)
  rw [show (([1, 5, 12, 8] : List Int) == [1, 5, 12, 8]) = true from by decide] at HQ
  have HL1 := Lib.hid L1
  have HB1 := Lib.hid ((Below.refl w.heap.size w).alloc (Nat.le_refl _) (.cells (([0, 1, 0, 0] : List Int).map (Value.int .i64)).toArray 3))
  clear L1
  go_enter Try.func20, Try.ntmps20
  go_wp2_with fail
  refine (HS.out _ _ HL1.out).mono ?_
  rintro e w1 ⟨v1, rfl, i1, b1⟩
  have HI := Lib.hid i1
  have HB2 := Lib.hid (HB1.out.trans (b1.mono HB1.out.size))
  have HL2 := Lib.hid (IntsV.lit (W := w1) rfl [1, 5, 12, 8] (by decide))
  have HB3 := Lib.hid ((Below.refl w1.heap.size w1).alloc (Nat.le_refl _) (.cells (([1, 5, 12, 8] : List Int).map (Value.int .i64)).toArray 3))
  clear i1 b1
  go_wp2_with fail
  refine (HQ.out _ _ _ (HI.out.later HB3.out) HL2.out).mono ?_
  rintro e w2 ⟨rfl, q, rfl⟩
  have HB4 := Lib.hid (bl_drewN (HB2.out.trans (HB3.out.mono HB2.out.size)) q)
  go_wp2
  go_ret
  exact ⟨rfl, HB4.out⟩

/-! ### the reference -/
theorem RCircle_any (n : Int) (w : World) : Calls Try.prog 72 #[.int .i64 n] w fun e w' => e = .returned (.bool (circB n)) ∧ w = w' := by
  by_cases h1 : 2 ≤ n
  · by_cases h2 : n ≤ 16
    · have H := Lib.hid (show circB n = true from decide_eq_true ⟨h1, h2⟩)
      go_enter Try.func72, Try.ntmps72
      go_wp2
      go_ret
      exact ⟨ret_bool H.out.symm, rfl⟩
    · have H := Lib.hid (show circB n = false from decide_eq_false (fun h => h2 h.2))
      go_enter Try.func72, Try.ntmps72
      go_wp2
      go_ret
      exact ⟨ret_bool (by rw [H.out]; first | done | rfl | (simp; omega) | simp), rfl⟩
  · have H := Lib.hid (show circB n = false from decide_eq_false (fun h => h1 h.1))
    go_enter Try.func72, Try.ntmps72
    go_wp2
    go_ret
    exact ⟨ret_bool (by rw [H.out]; first | done | rfl | (simp; omega) | simp), rfl⟩

/-- The reference's test of a prime. -/
def pB (n q k : Nat) : Bool := ((q - 1) % n == 0) && (List.range k).all fun d => decide (d < 2) || q % d != 0
theorem pB_all : ∀ n : Nat, n < 17 → 2 ≤ n → pB n (qN n) (qN n) = true ∧ ∀ q : Nat, q < qN n → 2 * n + 1 ≤ q → pB n q q = false := by decide +kernel
theorem pB_two (n q : Nat) : pB n q 2 = ((q - 1) % n == 0) := by
  unfold pB
  have e : (List.range 2).all (fun d => decide (d < 2) || q % d != 0) = true := rfl
  rw [e, Bool.and_true]
theorem pB_succ {n q k : Nat} (h : 2 ≤ k) : pB n q (k + 1) = (pB n q k && (q % k != 0)) := by
  unfold pB
  rw [List.range_succ, List.all_append, Bool.and_assoc]
  congr 2
  simp [show ¬ k < 2 by omega]

set_option maxHeartbeats 1000000 in
theorem RPrime_any (n : Nat) (h : Circ n) (w : World) : Calls Try.prog 73 #[.int .i64 (n : Int)] w fun e w' => e = .returned (.int .i64 ((qN n : Nat) : Int)) ∧ w = w' := by
  obtain ⟨p1, p2⟩ := pB_all n h.2 h.1
  have hn1 := h.1
  have hn2 := h.2
  have hq := h.q_le
  have hqn := h.n_lt
  have P1 := Lib.hid p1
  have P2 := Lib.hid p2
  have H2 := Lib.hid (fun q => pB_two n q)
  have HS := Lib.hid (fun q k (h : 2 ≤ k) => pB_succ (n := n) (q := q) h)
  clear p1 p2 h
  generalize qN n = Q at *
  have hn0 : ((n : Int) == 0) = false := by rw [beq_eq_false_iff_ne]; omega
  go_enter Try.func73, Try.ntmps73
  go_wp2
  go_loopw [3] (fun i wr => ∃ q : Nat, 2 * n + 1 ≤ q ∧ q ≤ Q ∧ i = .int .i64 (q : Int) ∧ w = wr) (fun i _ => 1000 - (intOf i).toNat)
  case atStart => exact ⟨2 * n + 1, by omega, by omega, by simp, rfl⟩
  case round =>
    obtain ⟨q, hq1, hq2, rfl, rfl⟩ := hrel
    have e0 : ((q : Int) - 1) % (n : Int) = (((q - 1) % n : Nat) : Int) := by
      rw [show ((q : Int) - 1) = ((q - 1 : Nat) : Int) by omega]; simp
    have e1 : ((((q : Int) - 1) % (n : Int)) == 0) = pB n q 2 := by
      rw [e0, H2.out]
      by_cases hz : (q - 1) % n = 0
      · rw [hz]; rfl
      · rw [show ((q - 1) % n == 0) = false from by rw [beq_eq_false_iff_ne]; exact hz, beq_eq_false_iff_ne]; omega
    have HE1 := Lib.hid e1
    clear e0 e1
    go_upto_region 4 with fail
    rw [HE1.out]
    generalize ((q : Int) - 1) % (n : Int) = rr
    go_wp2_with fail
    go_loopw [4, 5] (fun b i wr => ∃ d : Nat, 2 ≤ d ∧ d ≤ q ∧ b = .bool (pB n q d) ∧ i = .int .i64 (d : Int) ∧ w = wr) (fun _ i _ => q - (intOf i).toNat)
    case atStart => exact ⟨2, by omega, by omega, rfl, rfl, rfl⟩
    case round =>
      obtain ⟨d, hd1, hd2, rfl, rfl, rfl⟩ := hrel
      by_cases hlt : d < q
      · have hs := HS.out q d hd1
        have hd0 : ((d : Int) == 0) = false := by rw [beq_eq_false_iff_ne]; omega
        cases hb : pB n q d
        · rw [hb, Bool.false_and] at hs
          have HSS := Lib.hid hs
          clear hs
          go_wp2
          go_roundw
          case rel => exact ⟨d + 1, by omega, by omega, by rw [HSS.out], by go_num, by trivial⟩
          case measure => simp only [intOf]; omega
        · rw [hb, Bool.true_and] at hs
          have HV := Lib.hid (show ((((q : Int) % (d : Int)) != 0)) = pB n q (d + 1) by
            rw [hs, show ((q : Int) % (d : Int)) = ((q % d : Nat) : Int) by simp]
            by_cases hz : q % d = 0
            · rw [hz]; rfl
            · rw [show (q % d != 0) = true from by rw [bne_iff_ne]; exact hz, bne_iff_ne]; omega)
          clear hs
          go_wp2
          go_roundw
          case rel => exact ⟨d + 1, by omega, by omega, by rw [HV.out], by go_num, by trivial⟩
          case measure => simp only [intOf]; omega
      · obtain rfl : d = q := by omega
        by_cases hQ : d < Q
        · rw [P2.out d hQ hq1]
          go_wp2
          go_roundw
          case rel => exact ⟨d + 1, by omega, by omega, by go_num, by trivial⟩
          case measure => simp only [intOf]; omega
        · obtain rfl : d = Q := by omega
          rw [P1.out]
          go_wp2
          go_ret
          exact ⟨rfl, rfl⟩

set_option maxHeartbeats 1000000 in
theorem Rpower_any (x k q : Nat) (hq : 1 < q) (hq2 : q ≤ 100) (hx : x ≤ 100) (hk : k ≤ 1000) (w : World) :
    Calls Try.prog 110 #[.int .i64 (x : Int), .int .i64 (k : Int), .int .i64 (q : Int)] w fun e w' => e = .returned (.int .i64 ((x ^ k % q : Nat) : Int)) ∧ w = w' := by
  have H1 := Lib.hid (show x ^ 0 % q = 1 by rw [Nat.pow_zero, Nat.mod_eq_of_lt hq])
  have HS := Lib.hid (fun j => show (((x ^ j % q : Nat) : Int) * (x : Int)) % (q : Int) = ((x ^ (j + 1) % q : Nat) : Int) by
    rw [show ((x ^ j % q : Nat) : Int) * (x : Int) = ((x ^ j % q * x : Nat) : Int) by simp, ← Int.natCast_emod, Nat.mod_mul_mod, ← Nat.pow_succ])
  have HL := Lib.hid (fun j => Nat.mod_lt (x ^ j) (show 0 < q by omega))
  have hq0 : ((q : Int) == 0) = false := by rw [beq_eq_false_iff_ne]; omega
  go_enter Try.func110, Try.ntmps110
  go_wp2
  go_loopw [7, 9] (fun p i wr => ∃ j : Nat, j ≤ k ∧ p = .int .i64 ((x ^ j % q : Nat) : Int) ∧ i = .int .i64 (j : Int) ∧ w = wr) (fun _ i _ => k - (intOf i).toNat)
  case atStart => exact ⟨0, Nat.zero_le _, by rw [H1.out]; rfl, rfl, rfl⟩
  case round =>
    obtain ⟨j, hj, rfl, rfl, rfl⟩ := hrel
    by_cases hlt : j < k
    · have hl := HL.out j
      have HSj := Lib.hid (HS.out j)
      obtain ⟨p2, hp2⟩ : ∃ p2, x ^ (j + 1) % q = p2 := ⟨_, rfl⟩
      have HP2 := Lib.hid hp2
      rw [hp2] at HSj
      clear hp2
      generalize x ^ j % q = p1 at *
      have hm := mul_bd (show p1 ≤ 100000 by omega) (show x ≤ 100000 by omega)
      go_wp2
      go_roundw
      case rel => exact ⟨j + 1, by omega, by rw [HP2.out, ← HSj.out], by go_num, by trivial⟩
      case measure => simp only [intOf]; omega
    · obtain rfl : j = k := by omega
      go_wp2
      go_ret
      exact ⟨rfl, by trivial⟩

set_option maxHeartbeats 1000000 in
theorem RRoot_any (n : Nat) (h : Circ n) (w : World) : Calls Try.prog 127 #[.int .i64 (n : Int)] w fun e w' => e = .returned (.int .i64 ((wN n : Nat) : Int)) ∧ w = w' := by
  obtain ⟨o1, o2⟩ := ord_all n h.2 h.1
  have hn1 := h.1
  have hn2 := h.2
  have hq := h.q_le
  have hqn := h.n_lt
  have hw2 := h.w_ge
  have hwl := h.w_lt
  have HP := Lib.hid (fun W => RPrime_any n h W)
  have HPw := Lib.hid (fun x k W (hx : x ≤ 100) (hk : k ≤ 1000) => Rpower_any x k (qN n) (by omega) (by omega) hx hk W)
  have HO : Hid (∀ r, 2 ≤ r → r ≤ wN n → ∃ k : Nat, 1 ≤ k ∧ k ≤ 100 ∧ (k = n ↔ r = wN n) ∧ r ^ k % qN n = 1 ∧ ∀ j, 1 ≤ j → j < k → r ^ j % qN n ≠ 1) := Lib.hid (fun r h2 h3 => by
    by_cases e : r = wN n
    · subst e
      obtain ⟨a1, a2, a3⟩ := ord_spec o1
      exact ⟨n, a1, by omega, ⟨fun _ => rfl, fun _ => rfl⟩, a2, a3⟩
    · obtain ⟨k, b1, b2, b3⟩ := any_spec (o2 r (by omega) h2)
      obtain ⟨a1, a2, a3⟩ := ord_spec b2
      exact ⟨k, a1, by omega, ⟨fun h => absurd h b3, fun h => absurd h e⟩, a2, a3⟩)
  clear o1 o2 h
  generalize qN n = q at *
  generalize wN n = r0 at *
  go_enter Try.func127, Try.ntmps127
  go_wp2_with fail
  refine (HP.out _).mono ?_
  rintro e w1 ⟨rfl, rfl⟩
  go_wp2_with fail
  go_loopw [4] (fun i wr => ∃ r : Nat, 2 ≤ r ∧ r ≤ r0 ∧ i = .int .i64 (r : Int) ∧ w = wr) (fun i _ => 1000 - (intOf i).toNat)
  case atStart => exact ⟨2, by omega, hw2, rfl, rfl⟩
  case round =>
    obtain ⟨r, hr2, hr, rfl, rfl⟩ := hrel
    obtain ⟨k, k1, k2, k3, k4, k5⟩ := HO.out r hr2 hr
    have K4 := Lib.hid k4
    have K5 := Lib.hid k5
    have K3 := Lib.hid k3
    clear k3 k4 k5
    go_wp2_with fail
    go_loopw [5] (fun i wr => ∃ j : Nat, 1 ≤ j ∧ j ≤ k ∧ i = .int .i64 (j : Int) ∧ w = wr) (fun i _ => 1000 - (intOf i).toNat)
    case atStart => exact ⟨1, by omega, k1, rfl, rfl⟩
    case round =>
      obtain ⟨j, hj1, hj2, rfl, rfl⟩ := hrel
      have HC := Lib.hid (HPw.out r j w (by omega) (by omega))
      by_cases hlt : j < k
      · have hne := K5.out j hj1 hlt
        have hne' : (((r ^ j % q : Nat) : Int) == 1) = false := by rw [beq_eq_false_iff_ne]; omega
        clear hne
        generalize r ^ j % q = p at *
        go_wp2_with fail
        refine HC.out.mono ?_
        rintro e w2 ⟨rfl, rfl⟩
        go_wp2
        go_roundw
        case rel => exact ⟨j + 1, by omega, by omega, by go_num, by trivial⟩
        case measure => simp only [intOf]; omega
      · obtain rfl : j = k := by omega
        rw [K4.out] at HC
        by_cases hE : r = r0
        · obtain rfl : j = n := K3.out.2 hE
          subst hE
          have hb : ((j : Int) == (j : Int)) = true := beq_self_eq_true _
          go_wp2_with fail
          refine HC.out.mono ?_
          rintro e w2 ⟨rfl, rfl⟩
          go_wp2
          go_ret
          exact ⟨rfl, by trivial⟩
        · have hne : j ≠ n := fun h => hE (K3.out.1 h)
          have hb : ((j : Int) == (n : Int)) = false := by rw [beq_eq_false_iff_ne]; omega
          go_wp2_with fail
          refine HC.out.mono ?_
          rintro e w2 ⟨rfl, rfl⟩
          go_wp2
          go_roundw
          case rel => exact ⟨r + 1, by omega, by omega, by go_num, by trivial⟩
          case measure => simp only [intOf]; omega
end Go.Proofs.Ytlmfmfbnbbooaaa
