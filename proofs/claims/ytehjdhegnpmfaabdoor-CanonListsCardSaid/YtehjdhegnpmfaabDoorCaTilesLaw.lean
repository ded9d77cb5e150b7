/-
  The reference's Tiles and Enter; the walks of the statements on tilings and entries.
-/
import Derived.Test.YtehjdhegnpmfaabDoorCaEnter
namespace Go.Proofs.YtehjdhegnpmfaabDoor
open Go.RowKit Go.Shelf
attribute [local go_sem] Oper.semAt_some
set_option maxRecDepth 100000

theorem two_pow_sub (n : Nat) : (2 : Int) ^ n - 1 = ((2 ^ n - 1 : Nat) : Int) := by have := Nat.two_pow_pos n; simp [Int.ofNat_sub this]

set_option maxHeartbeats 1000000 in
theorem refTiles_any (n a b : Nat) (hn : 2 ≤ n) (hn2 : n ≤ 24) (ha : a < 2 ^ n) (hb : b < 2 ^ n) (w : World) :
    Calls Tryd.prog 18 #[.int .i64 n, .int .i64 a, .int .i64 b] w fun e w' => e = .returned (.bool (tileB n a b)) ∧ ∃ m, w' = w.drewN m := by
  have hp24 : 2 ^ n ≤ 2 ^ 24 := Nat.pow_le_pow_right (by omega) hn2
  have HB := Lib.hid (fun x => bit_int b x (by omega))
  have HM := Lib.hid (fun k hk V => moved_any n a k hn hn2 ha hk V)
  have HST := Lib.hid (fun k hk hbk h => once_step (n := n) (a := a) (b := b) (k := k) hk ha hbk h)
  have HSK := Lib.hid (fun k hbk h => once_skip (n := n) (a := a) (b := b) (k := k) hbk h)
  have HF := Lib.hid (fun h => once_full (n := n) (a := a) (b := b) ha h)
  have HL := Lib.hid (fun k => orMv_lt n a (tonesB k b))
  have HS := Lib.hid (fun k => tonesB_snoc k b)
  have h2n := Lib.hid (two_pow_sub n)
  have hp := pow_bd (n : Int) (by omega) (by omega)
  simp only [Int.toNat_natCast] at hp
  clear ha hb
  go_enter Tryd.func18, Tryd.ntmps18
  go_wp2
  go_loopw [7, 8, 10] (fun q _ i wr => ∃ (k m : Nat), k ≤ n ∧ i = .int .i64 k ∧ q = .int .i64 ((orMv n a (tonesB k b) : Nat) : Int) ∧ OnceK n a b k ∧ wr = w.drewN m) (fun _ _ i _ => n - (intOf i).toNat)
  case atStart => exact ⟨0, 0, Nat.zero_le _, rfl, rfl, once_zero n a b, rfl⟩
  case round =>
    obtain ⟨k, m, hk, rfl, rfl, honce, rfl⟩ := hrel
    have HO := Lib.hid honce
    clear honce
    have hol := HL.out k
    by_cases hlt : k < n
    · cases hbk : b.testBit k
      · have hb1 : (bits .and .i64 ((b : Int) / 2 ^ k) 1 == 1) = false := by rw [HB.out k, hbk]; rfl
        have hnx := Lib.hid (HSK.out k hbk HO.out)
        have hts := Lib.hid (show orMv n a (tonesB (k + 1) b) = orMv n a (tonesB k b) by rw [HS.out k, hbk]; simp)
        generalize orMv n a (tonesB k b) = o at hol hts
        clear hbk
        go_wp2
        go_roundw
        case rel => exact ⟨k + 1, m, by omega, by go_num, by rw [hts.out], hnx.out, rfl⟩
        case measure => simp only [intOf]; omega
      · have hb1 : (bits .and .i64 ((b : Int) / 2 ^ k) 1 == 1) = true := by rw [HB.out k, hbk]; rfl
        have hst := HST.out k hlt hbk HO.out
        have hts := Lib.hid (show orMv n a (tonesB (k + 1) b) = orMv n a (tonesB k b) ||| mvN n a k by rw [HS.out k, hbk]; exact orMv_snoc n a _ k)
        have hm := Lib.hid (HM.out k (by omega))
        have hml : mvN n a k < 2 ^ n := mv_lt
        clear hbk
        generalize orMv n a (tonesB k b) = o at hol hst hts
        generalize mvN n a k = mk at hst hts hm hml
        have hand := and_nat o mk (by omega) (by omega)
        have hor := Lib.hid (or_nat o mk (by omega) (by omega))
        by_cases hz : o &&& mk = 0
        · have q1 : (bits .and .i64 (o : Int) (mk : Int) != 0) = false := by rw [hand, hz]; rfl
          have hnx := Lib.hid (hst.1 hz)
          clear hand hz hst
          go_wp2_with fail
          refine (hm.out _).mono ?_
          rintro e w' ⟨rfl, m1, rfl⟩
          go_wp2_with fail
          refine (hm.out _).mono ?_
          rintro e w' ⟨rfl, m2, rfl⟩
          go_wp2_with fail
          go_roundw
          case rel => exact ⟨k + 1, m + m1 + m2, by omega, by go_num, by rw [hts.out, hor.out], hnx.out, rfl⟩
          case measure => simp only [intOf]; omega
        · have q1 : (bits .and .i64 (o : Int) (mk : Int) != 0) = true := by rw [hand, bne_iff_ne]; omega
          have hnt := Lib.hid (tileB_false.2 (hst.2 hz))
          clear hand hz hst
          go_wp2_with fail
          refine (hm.out _).mono ?_
          rintro e w' ⟨rfl, m1, rfl⟩
          go_wp2_with fail
          go_ret
          exact ⟨ret_bool hnt.out.symm, m + m1, rfl⟩
    · obtain rfl : k = n := by omega
      have hf := HF.out HO.out
      generalize orMv k a (tonesB k b) = o at hf hol
      by_cases hq : o = 2 ^ k - 1
      · have q1 : ((o : Int) == (2 : Int) ^ k - 1) = true := by rw [beq_iff_eq, h2n.out, hq]
        have hr := Lib.hid (tileB_true.2 (hf.1 hq))
        clear hf hq
        go_wp2_with fail
        go_ret
        exact ⟨ret_bool hr.out.symm, m, rfl⟩
      · have q1 : ((o : Int) == (2 : Int) ^ k - 1) = false := by rw [beq_eq_false_iff_ne, h2n.out]; omega
        have hr := Lib.hid (tileB_false.2 (fun h => hq (hf.2 h)))
        clear hf hq
        go_wp2_with fail
        go_ret
        exact ⟨ret_bool hr.out.symm, m, rfl⟩

theorem refEnter_none (n a b : Nat) (beat : Int) (hn : 2 ≤ n) (hn2 : n ≤ 24) (ha : a < 2 ^ n) (hb : b < 2 ^ n) (ht : tileB n a b = false) (w : World) :
    Calls Tryd.prog 19 #[.int .i64 n, .int .i64 a, .int .i64 b, .int .i64 beat] w fun e w' => e = .returned (.tuple #[.int .i64 0, .int .i64 4]) ∧ ∃ m, w' = w.drewN m := by
  have H := Lib.hid (refTiles_any n a b hn hn2 ha hb)
  rw [ht] at H
  clear ht ha hb
  go_enter Tryd.func19, Tryd.ntmps19
  go_wp2_with (go_at_call 18; refine (H.out _).mono ?_; rintro e w' ⟨rfl, m, rfl⟩)
  go_ret2
  exact ⟨rfl, _, rfl⟩

set_option maxHeartbeats 1000000 in
theorem refEnter_ok (n a b beat y0 : Nat) (hn : 2 ≤ n) (hn2 : n ≤ 24) (ha : a < 2 ^ n) (hb : b < 2 ^ n) (ht : tileB n a b = true) (hbt : beat < n) (hy0 : y0 < n) (hc : comes n a b beat y0 = true)
    (hu : ∀ z, z < n → comes n a b beat z = true → z = y0) (w : World) :
    Calls Tryd.prog 19 #[.int .i64 n, .int .i64 a, .int .i64 b, .int .i64 beat] w fun e w' => e = .returned (.tuple #[.int .i64 y0, .int .i64 0]) ∧ ∃ m, w' = w.drewN m := by
  have hp24 : 2 ^ n ≤ 2 ^ 24 := Nat.pow_le_pow_right (by omega) hn2
  have HB := Lib.hid (fun x => bit_int b x (by omega))
  have HM := Lib.hid (fun k hk V => moved_any n a k hn hn2 ha hk V)
  have HA := Lib.hid (fun k => bit_int (mvN n a k) beat (by have : mvN n a k < 2 ^ n := mv_lt; omega))
  have HT := Lib.hid (fun k (hk : k < n) => testBit_mv hk ha beat)
  have H := Lib.hid (refTiles_any n a b hn hn2 ha hb)
  have HML := Lib.hid (fun k => (mv_lt : mvN n a k < 2 ^ n))
  rw [ht] at H
  have HC := Lib.hid hc
  have HU := Lib.hid hu
  clear ht ha hb hc hu
  go_enter Tryd.func19, Tryd.ntmps19
  go_wp2_with (go_at_call 18; refine (H.out _).mono ?_; rintro e w' ⟨rfl, m, rfl⟩)
  go_loopw [10] (fun i wr => ∃ (k q : Nat), k ≤ y0 ∧ i = .int .i64 k ∧ wr = w.drewN q) (fun i _ => y0 - (intOf i).toNat)
  case atStart => exact ⟨0, m, Nat.zero_le _, rfl, rfl⟩
  case round =>
    obtain ⟨k, q, hk, rfl, rfl⟩ := hrel
    have hm := Lib.hid (HM.out k (by omega))
    have ha1 := HA.out k
    have hml := HML.out k
    have ht1 := HT.out k (by omega)
    rw [decide_eq_true hbt, Bool.true_and] at ht1
    generalize mvN n a k = mk at hm ha1 ht1 hml
    by_cases hlt : k < y0
    · have hnc : comes n a b beat k = false := by
        cases h : comes n a b beat k
        · rfl
        · have := HU.out k (by omega) h; omega
      unfold comes at hnc
      cases hbk : b.testBit k
      · have hb1 : (bits .and .i64 ((b : Int) / 2 ^ k) 1 == 0) = true := by rw [HB.out k, hbk]; rfl
        clear hbk hnc ha1 ht1
        go_wp2_with fail
        go_roundw
        case rel => exact ⟨k + 1, q, by omega, by go_num, rfl⟩
        case measure => simp only [intOf]; omega
      · have hb1 : (bits .and .i64 ((b : Int) / 2 ^ k) 1 == 0) = false := by rw [HB.out k, hbk]; rfl
        rw [hbk, Bool.true_and, ← ht1] at hnc
        have ha2 : (bits .and .i64 ((mk : Int) / 2 ^ beat) 1 == 0) = true := by rw [ha1, hnc]; rfl
        clear hbk hnc ha1 ht1
        go_wp2_with fail
        refine (hm.out _).mono ?_
        rintro e w' ⟨rfl, m1, rfl⟩
        go_wp2_with fail
        go_roundw
        case rel => exact ⟨k + 1, q + m1, by omega, by go_num, rfl⟩
        case measure => simp only [intOf]; omega
    · obtain rfl : k = y0 := by omega
      have hcc := HC.out
      unfold comes at hcc
      rw [Bool.and_eq_true] at hcc
      have hb1 : (bits .and .i64 ((b : Int) / 2 ^ k) 1 == 0) = false := by rw [HB.out k, hcc.1]; rfl
      have ha2 : (bits .and .i64 ((mk : Int) / 2 ^ beat) 1 == 0) = false := by rw [ha1, ht1, hcc.2]; rfl
      clear hcc ha1 ht1
      go_wp2_with fail
      refine (hm.out _).mono ?_
      rintro e w' ⟨rfl, m1, rfl⟩
      go_wp2_with fail
      go_ret2
      exact ⟨rfl, q + m1, rfl⟩

theorem awake2_any (w : World) (hT : Tab w) : Calls Tryd.prog 17 #[] w fun e w' => e = .returned (.bool true) ∧ Below w.heap.size w w' := by
  have HM : Calls Tryd.prog 14 #[.int .i64 2, .int .i64 3, .int .i64 1] w fun e w' => e = .returned (.tuple #[.bool true, .int .i64 0]) ∧ Below w.heap.size w w' := by
    have h := Tiles_ok 2 3 1 (by omega) (by omega) (by omega) (by omega) (by omega) (by omega) w hT
    have e : tileB 2 3 1 = true := by decide +kernel
    rw [e] at h
    exact h
  have HM' := Lib.hid HM
  clear HM hT
  go_enter Tryd.func17, Tryd.ntmps17
  go_wp2_with (go_at_call 14; refine HM'.out.mono ?_; rintro e w' ⟨rfl, hb⟩)
  go_ret
  exact ⟨rfl, by assumption⟩

/-- Where the two rhythms fill the circle: the entry of a beat. -/
theorem entry_of {n a b beat : Nat} (ht : tileB n a b = true) (hbt : beat < n) : ∃ y0, y0 < n ∧ comes n a b beat y0 = true ∧ (∀ z, z < n → comes n a b beat z = true → z = y0) ∧ lastE n a beat (tonesB n b) = y0 := by
  obtain ⟨y, h1, h2, h3⟩ := tile_entry (tileB_true.1 ht) hbt
  refine ⟨y, h1, h2, h3, ?_⟩
  have h2' := h2
  unfold comes at h2'
  rw [Bool.and_eq_true] at h2'
  have hm : ∀ z, z ∈ tonesB n b ↔ z < n ∧ b.testBit z = true := fun z => by unfold tonesB; rw [List.mem_filter, List.mem_range]
  refine lastE_only n a beat y _ ((hm y).2 ⟨h1, h2'.1⟩) h2'.2 (fun z hz hz2 => h3 z ((hm z).1 hz).1 ?_)
  unfold comes
  rw [((hm z).1 hz).2, hz2]; rfl

theorem vldB_split {n a b : Int} (h : (vldB n a && vldB n b) = true) : vldB n a = true ∧ vldB n b = true := Bool.and_eq_true_iff.1 h

set_option maxHeartbeats 2000000 in
theorem CanonTiles_walk (n a b beat : Int) (_w0 : (Lit.int .i64 n).wf = true) (_w1 : (Lit.int .i64 a).wf = true) (_w2 : (Lit.int .i64 b).wf = true) (_w3 : (Lit.int .i64 beat).wf = true) (w : World) (hT : Tab w) :
    Calls Tryd.prog 3 #[.int .i64 n, .int .i64 a, .int .i64 b, .int .i64 beat] w fun e w' => e = .returned (.bool true) ∧ Below w.heap.size w w' := by
  have HVa := Lib.hid (Rhythm_any n a)
  have HVb := Lib.hid (Rhythm_any n b)
  cases hv : (vldB n a && vldB n b)
  · have H1 := Lib.hid (Tiles_bad n a b hv)
    have H2 := Lib.hid (Enter_bad n a b beat (fun h => by have := h.1; rw [hv] at this; cases this))
    cases hva : vldB n a
    · rw [hva] at HVa
      clear hv hva
      go_enter Tryd.func3, Tryd.ntmps3
      go_wp2_with fail
      refine (H1.out _).mono ?_
      rintro e w1 ⟨rfl, b1⟩
      have t1 := hT.same b1
      go_wp2_with fail
      refine (H2.out _).mono ?_
      rintro e w2 ⟨rfl, b2⟩
      have t2 := t1.same b2
      have c2 := below_next b1 b2
      clear b1 b2 t1 hT
      go_wp2_with fail
      refine (HVa.out _).mono ?_
      rintro e w3 ⟨rfl, rfl⟩
      go_wp2_with fail
      refine (awake2_any _ t2).mono ?_
      rintro e w4 ⟨rfl, b4⟩
      go_wp2
      go_ret
      exact ⟨rfl, below_next c2 b4⟩
    · have hvb : vldB n b = false := by rw [hva] at hv; simpa using hv
      rw [hva] at HVa
      rw [hvb] at HVb
      clear hv hva hvb
      go_enter Tryd.func3, Tryd.ntmps3
      go_wp2_with fail
      refine (H1.out _).mono ?_
      rintro e w1 ⟨rfl, b1⟩
      have t1 := hT.same b1
      go_wp2_with fail
      refine (H2.out _).mono ?_
      rintro e w2 ⟨rfl, b2⟩
      have t2 := t1.same b2
      have c2 := below_next b1 b2
      clear b1 b2 t1 hT
      go_wp2_with fail
      refine (HVa.out _).mono ?_
      rintro e w3 ⟨rfl, rfl⟩
      go_wp2_with fail
      refine (HVb.out _).mono ?_
      rintro e w3 ⟨rfl, rfl⟩
      go_wp2_with fail
      refine (awake2_any _ t2).mono ?_
      rintro e w4 ⟨rfl, b4⟩
      go_wp2
      go_ret
      exact ⟨rfl, below_next c2 b4⟩
  · obtain ⟨hva, hvb⟩ := vldB_split hv
    rw [hva] at HVa
    rw [hvb] at HVb
    obtain ⟨n, a, rfl, rfl, hn, hn2, ha, ha1⟩ := vldB_nat hva
    obtain ⟨n', b, hnn, rfl, _, _, hb, hb1⟩ := vldB_nat hvb
    obtain rfl : n = n' := by omega
    have H1 := Lib.hid (Tiles_ok n a b hn hn2 ha hb ha1 hb1)
    have R1 := Lib.hid (refTiles_any n a b hn hn2 ha hb)
    have HV := Lib.hid hv
    clear hnn hv hva hvb
    by_cases hbt : 0 ≤ beat ∧ beat < n
    · obtain ⟨q1, q2⟩ := hbt
      obtain ⟨beat, rfl⟩ := Int.eq_ofNat_of_zero_le q1
      have hbt : beat < n := by omega
      cases ht : tileB n a b
      · have H2 := Lib.hid (Enter_none n a b beat hn hn2 ha hb ha1 hb1 hbt ht)
        have R2 := Lib.hid (refEnter_none n a b beat hn hn2 ha hb ht)
        rw [ht] at H1 R1
        clear ht ha hb ha1 hb1
        go_enter Tryd.func3, Tryd.ntmps3
        go_wp2_with fail
        refine (H1.out _ hT).mono ?_
        rintro e w1 ⟨rfl, b1⟩
        have t1 := hT.same b1
        go_wp2_with fail
        refine (H2.out _ t1).mono ?_
        rintro e w2 ⟨rfl, b2⟩
        have t2 := t1.same b2
        have c2 := below_next b1 b2
        clear b1 b2 t1 hT
        go_wp2_with fail
        refine (HVa.out _).mono ?_
        rintro e w3 ⟨rfl, rfl⟩
        go_wp2_with fail
        refine (HVb.out _).mono ?_
        rintro e w3 ⟨rfl, rfl⟩
        go_wp2_with fail
        refine (R1.out _).mono ?_
        rintro e w3 ⟨rfl, m3, rfl⟩
        go_wp2_with fail
        refine (awake2_any _ (t2.same (below_drewN (Below.refl _ _) m3))).mono ?_
        rintro e w4 ⟨rfl, b4⟩
        have c4 := below_next (below_drewN c2 m3) b4
        clear b4 c2 t2
        go_wp2_with fail
        refine (R2.out _).mono ?_
        rintro e w5 ⟨rfl, m5, rfl⟩
        go_wp2
        go_ret
        exact ⟨rfl, below_drewN c4 m5⟩
      · obtain ⟨y0, h1, h2, h3, h4⟩ := entry_of ht hbt
        have H2 := Lib.hid (Enter_ok n a b beat y0 hn hn2 ha hb ha1 hb1 hbt ht h4)
        have R2 := Lib.hid (refEnter_ok n a b beat y0 hn hn2 ha hb ht hbt h1 h2 h3)
        rw [ht] at H1 R1
        clear ht ha hb ha1 hb1 h1 h2 h3 h4
        go_enter Tryd.func3, Tryd.ntmps3
        go_wp2_with fail
        refine (H1.out _ hT).mono ?_
        rintro e w1 ⟨rfl, b1⟩
        have t1 := hT.same b1
        go_wp2_with fail
        refine (H2.out _ t1).mono ?_
        rintro e w2 ⟨rfl, b2⟩
        have t2 := t1.same b2
        have c2 := below_next b1 b2
        clear b1 b2 t1 hT
        go_wp2_with fail
        refine (HVa.out _).mono ?_
        rintro e w3 ⟨rfl, rfl⟩
        go_wp2_with fail
        refine (HVb.out _).mono ?_
        rintro e w3 ⟨rfl, rfl⟩
        go_wp2_with fail
        refine (R1.out _).mono ?_
        rintro e w3 ⟨rfl, m3, rfl⟩
        go_wp2_with fail
        refine (awake2_any _ (t2.same (below_drewN (Below.refl _ _) m3))).mono ?_
        rintro e w4 ⟨rfl, b4⟩
        have c4 := below_next (below_drewN c2 m3) b4
        clear b4 c2 t2
        go_wp2_with fail
        refine (R2.out _).mono ?_
        rintro e w5 ⟨rfl, m5, rfl⟩
        go_wp2
        go_ret
        exact ⟨rfl, below_drewN c4 m5⟩
    · have H2 := Lib.hid (Enter_bad n a b beat (fun h => hbt ⟨h.2.1, h.2.2⟩))
      cases ht : tileB n a b
      · rw [ht] at H1 R1
        clear ht ha hb ha1 hb1
        by_cases hneg : beat < 0
        · clear hbt
          go_enter Tryd.func3, Tryd.ntmps3
          go_wp2_with fail
          refine (H1.out _ hT).mono ?_
          rintro e w1 ⟨rfl, b1⟩
          have t1 := hT.same b1
          go_wp2_with fail
          refine (H2.out _).mono ?_
          rintro e w2 ⟨rfl, b2⟩
          have t2 := t1.same b2
          have c2 := below_next b1 b2
          clear b1 b2 t1 hT
          go_wp2_with fail
          refine (HVa.out _).mono ?_
          rintro e w3 ⟨rfl, rfl⟩
          go_wp2_with fail
          refine (HVb.out _).mono ?_
          rintro e w3 ⟨rfl, rfl⟩
          go_wp2_with fail
          refine (R1.out _).mono ?_
          rintro e w3 ⟨rfl, m3, rfl⟩
          go_wp2_with fail
          refine (awake2_any _ (t2.same (below_drewN (Below.refl _ _) m3))).mono ?_
          rintro e w4 ⟨rfl, b4⟩
          have c4 := below_next (below_drewN c2 m3) b4
          clear b4 c2 t2
          go_wp2
          go_ret
          exact ⟨rfl, c4⟩
        · have hge : ¬ beat < n := fun h => hbt ⟨by omega, h⟩
          clear hbt
          go_enter Tryd.func3, Tryd.ntmps3
          go_wp2_with fail
          refine (H1.out _ hT).mono ?_
          rintro e w1 ⟨rfl, b1⟩
          have t1 := hT.same b1
          go_wp2_with fail
          refine (H2.out _).mono ?_
          rintro e w2 ⟨rfl, b2⟩
          have t2 := t1.same b2
          have c2 := below_next b1 b2
          clear b1 b2 t1 hT
          go_wp2_with fail
          refine (HVa.out _).mono ?_
          rintro e w3 ⟨rfl, rfl⟩
          go_wp2_with fail
          refine (HVb.out _).mono ?_
          rintro e w3 ⟨rfl, rfl⟩
          go_wp2_with fail
          refine (R1.out _).mono ?_
          rintro e w3 ⟨rfl, m3, rfl⟩
          go_wp2_with fail
          refine (awake2_any _ (t2.same (below_drewN (Below.refl _ _) m3))).mono ?_
          rintro e w4 ⟨rfl, b4⟩
          have c4 := below_next (below_drewN c2 m3) b4
          clear b4 c2 t2
          go_wp2
          go_ret
          exact ⟨rfl, c4⟩
      · rw [ht] at H1 R1
        clear ht ha hb ha1 hb1
        by_cases hneg : beat < 0
        · clear hbt
          go_enter Tryd.func3, Tryd.ntmps3
          go_wp2_with fail
          refine (H1.out _ hT).mono ?_
          rintro e w1 ⟨rfl, b1⟩
          have t1 := hT.same b1
          go_wp2_with fail
          refine (H2.out _).mono ?_
          rintro e w2 ⟨rfl, b2⟩
          have t2 := t1.same b2
          have c2 := below_next b1 b2
          clear b1 b2 t1 hT
          go_wp2_with fail
          refine (HVa.out _).mono ?_
          rintro e w3 ⟨rfl, rfl⟩
          go_wp2_with fail
          refine (HVb.out _).mono ?_
          rintro e w3 ⟨rfl, rfl⟩
          go_wp2_with fail
          refine (R1.out _).mono ?_
          rintro e w3 ⟨rfl, m3, rfl⟩
          go_wp2_with fail
          refine (awake2_any _ (t2.same (below_drewN (Below.refl _ _) m3))).mono ?_
          rintro e w4 ⟨rfl, b4⟩
          have c4 := below_next (below_drewN c2 m3) b4
          clear b4 c2 t2
          go_wp2
          go_ret
          exact ⟨rfl, c4⟩
        · have hge : ¬ beat < n := fun h => hbt ⟨by omega, h⟩
          clear hbt
          go_enter Tryd.func3, Tryd.ntmps3
          go_wp2_with fail
          refine (H1.out _ hT).mono ?_
          rintro e w1 ⟨rfl, b1⟩
          have t1 := hT.same b1
          go_wp2_with fail
          refine (H2.out _).mono ?_
          rintro e w2 ⟨rfl, b2⟩
          have t2 := t1.same b2
          have c2 := below_next b1 b2
          clear b1 b2 t1 hT
          go_wp2_with fail
          refine (HVa.out _).mono ?_
          rintro e w3 ⟨rfl, rfl⟩
          go_wp2_with fail
          refine (HVb.out _).mono ?_
          rintro e w3 ⟨rfl, rfl⟩
          go_wp2_with fail
          refine (R1.out _).mono ?_
          rintro e w3 ⟨rfl, m3, rfl⟩
          go_wp2_with fail
          refine (awake2_any _ (t2.same (below_drewN (Below.refl _ _) m3))).mono ?_
          rintro e w4 ⟨rfl, b4⟩
          have c4 := below_next (below_drewN c2 m3) b4
          clear b4 c2 t2
          go_wp2
          go_ret
          exact ⟨rfl, c4⟩

end Go.Proofs.YtehjdhegnpmfaabDoor
