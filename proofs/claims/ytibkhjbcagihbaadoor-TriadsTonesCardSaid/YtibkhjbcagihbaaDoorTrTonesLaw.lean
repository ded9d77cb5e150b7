/-
  The statement on tones: Tones and Find of package triads.
-/
import Derived.Test.YtibkhjbcagihbaaDoorTrFindFns
namespace Go.Proofs.YtibkhjbcagihbaaDoor
open Go.ChangeShapes Go.WideShapes Go.ChangeAt Go.RowKit Go.Shelf
set_option maxRecDepth 100000

set_option maxHeartbeats 2000000 in
theorem TriadsTones_walk (n a b t s : Int) (_ : (Lit.int .i64 n).wf = true) (_ : (Lit.int .i64 a).wf = true) (_ : (Lit.int .i64 b).wf = true) (_ : (Lit.int .i64 t).wf = true) (_ : (Lit.int .i64 s).wf = true) (w : World) (hT : Tab w) :
    Calls Tryd.prog 3 #[kv n a b, .int .i64 t, .int .i64 s] w fun e w' => e = .returned (.bool true) ∧ Below w.heap.size w w' := by
  have HO := Lib.hid (Of_any n a b)
  have HAw := Lib.hid awake_any
  have HV := Lib.hid (RValid_any n a b)
  obtain ⟨W0, hW0⟩ : ∃ W0, w.alloc (rcells n a b) = W0 := ⟨_, rfl⟩
  have c0 : Below w.heap.size w W0 := by rw [← hW0]; exact (Below.refl _ w).alloc (Nat.le_refl _) _
  have k0 : W0.cell? ⟨w.heap.size, 0, none⟩ = some (.int .i64 n) := by rw [← hW0]; simp
  have k1 : W0.cell? ⟨w.heap.size, 1, none⟩ = some (.int .i64 a) := by rw [← hW0]; simp
  have k2 : W0.cell? ⟨w.heap.size, 2, none⟩ = some (.int .i64 b) := by rw [← hW0]; simp
  have HT0 := Lib.hid (hT.same c0)
  have hW := Lib.hid hW0
  clear hW0 hT
  cases hb : kindB n a b && triB n t
  · have HF := Lib.hid (fine1 n a b t false hb)
    have HTo := Lib.hid (Tones_bad n a b t hb)
    cases hK : kindB n a b
    · rw [hK] at HV
      have HFi := Lib.hid (Find_kind n a b s hK)
      clear hb hK
      go_enter Tryd.func3, Tryd.ntmps3
      go_wp2_with fail
      rw [hW.out]
      refine (HO.out _).mono ?_
      rintro e w1 ⟨rfl, b1⟩
      have c1 := below_nx c0 b1
      have k0 := cell_later b1 k0
      have k1 := cell_later b1 k1
      have k2 := cell_later b1 k2
      go_wp2_with fail
      refine (HTo.out _).mono ?_
      rintro e w2 ⟨rfl, b2⟩
      have c2 := below_nx c1 b2
      have k0 := cell_later b2 k0
      have k1 := cell_later b2 k1
      have k2 := cell_later b2 k2
      go_wp2_with fail
      refine (HO.out _).mono ?_
      rintro e w3 ⟨rfl, b3⟩
      have c3 := below_nx c2 b3
      have k0 := cell_later b3 k0
      have k1 := cell_later b3 k1
      have k2 := cell_later b3 k2
      have HT3 := Lib.hid (HT0.out.same (((b1.trans (b2.mono b1.size)).trans (b3.mono (Nat.le_trans b1.size b2.size)))))
      clear b1 b2 b3 c1 c2
      go_wp2_with fail
      refine (HFi.out _).mono ?_
      rintro e w4 ⟨rfl, b4⟩
      have c4 := below_nx c3 b4
      have k0 := cell_later b4 k0
      have k1 := cell_later b4 k1
      have k2 := cell_later b4 k2
      clear b4 c3
      have HFc := Lib.hid (HF.out w4.heap.size 1 (w4.alloc (.cells #[.int .i64 t] 3)) (by simp))
      have c5 := c4.alloc c4.size (.cells #[.int .i64 t] 3)
      have b5 : Below w4.heap.size w4 (w4.alloc (.cells #[.int .i64 t] 3)) := (Below.refl _ w4).alloc (Nat.le_refl _) _
      have k0 := cell_later b5 k0
      have k1 := cell_later b5 k1
      have k2 := cell_later b5 k2
      clear b5
      go_wp2_with fail
      refine HFc.out.mono ?_
      rintro e w6 ⟨rfl, b6⟩
      have c6 := below_nx c5 b6
      have k0 := cell_later b6 k0
      have k1 := cell_later b6 k1
      have k2 := cell_later b6 k2
      clear HFc b6 c5 c4
      have HFd := Lib.hid (HF.out w6.heap.size 1 (w6.alloc (.cells #[.int .i64 t] 3)) (by simp))
      have c8 := c6.alloc c6.size (.cells #[.int .i64 t] 3)
      have b8 : Below w6.heap.size w6 (w6.alloc (.cells #[.int .i64 t] 3)) := (Below.refl _ w6).alloc (Nat.le_refl _) _
      have k0 := cell_later b8 k0
      have k1 := cell_later b8 k1
      have k2 := cell_later b8 k2
      clear b8
      go_wp2_with fail
      refine HFd.out.mono ?_
      rintro e w9 ⟨rfl, b9⟩
      have c9 := below_nx c8 b9
      have k0 := cell_later b9 k0
      have k1 := cell_later b9 k1
      have k2 := cell_later b9 k2
      clear HFd b9 c8
      go_wp2_with fail
      refine (HV.out _).mono ?_
      rintro e w10 ⟨rfl, b10⟩
      have c10 := below_nx c9 b10
      have k0 := cell_later b10 k0
      have k1 := cell_later b10 k1
      have k2 := cell_later b10 k2
      clear b10 c9
      go_wp2_with fail
      refine (HAw.out _).mono ?_
      rintro e w12 ⟨rfl, b12⟩
      have c12 := below_nx c10 b12
      go_wp2
      go_ret
      exact ⟨rfl, c12⟩
    · rw [hK] at HV
      obtain ⟨n, a, b, rfl, rfl, rfl, hk⟩ := kindB_nat hK
      have hk := Lib.hid hk
      have h16 := hk.out.h16
      have hp := pow_bd (n : Int) (by omega) (by omega)
      rw [Int.toNat_natCast] at hp
      clear hb hK
      rcases Int.lt_or_le s 0 with hs | hs
      · have HFi := Lib.hid (Find_neg n a b s hk.out hs)
        go_enter Tryd.func3, Tryd.ntmps3
        go_wp2_with fail
        rw [hW.out]
        refine (HO.out _).mono ?_
        rintro e w1 ⟨rfl, b1⟩
        have c1 := below_nx c0 b1
        have k0 := cell_later b1 k0
        have k1 := cell_later b1 k1
        have k2 := cell_later b1 k2
        go_wp2_with fail
        refine (HTo.out _).mono ?_
        rintro e w2 ⟨rfl, b2⟩
        have c2 := below_nx c1 b2
        have k0 := cell_later b2 k0
        have k1 := cell_later b2 k1
        have k2 := cell_later b2 k2
        go_wp2_with fail
        refine (HO.out _).mono ?_
        rintro e w3 ⟨rfl, b3⟩
        have c3 := below_nx c2 b3
        have k0 := cell_later b3 k0
        have k1 := cell_later b3 k1
        have k2 := cell_later b3 k2
        have HT3 := Lib.hid (HT0.out.same (((b1.trans (b2.mono b1.size)).trans (b3.mono (Nat.le_trans b1.size b2.size)))))
        clear b1 b2 b3 c1 c2
        go_wp2_with fail
        refine (HFi.out _).mono ?_
        rintro e w4 ⟨rfl, b4⟩
        have c4 := below_nx c3 b4
        have k0 := cell_later b4 k0
        have k1 := cell_later b4 k1
        have k2 := cell_later b4 k2
        clear b4 c3
        have HFc := Lib.hid (HF.out w4.heap.size 1 (w4.alloc (.cells #[.int .i64 t] 3)) (by simp))
        have c5 := c4.alloc c4.size (.cells #[.int .i64 t] 3)
        have b5 : Below w4.heap.size w4 (w4.alloc (.cells #[.int .i64 t] 3)) := (Below.refl _ w4).alloc (Nat.le_refl _) _
        have k0 := cell_later b5 k0
        have k1 := cell_later b5 k1
        have k2 := cell_later b5 k2
        clear b5
        go_wp2_with fail
        refine HFc.out.mono ?_
        rintro e w6 ⟨rfl, b6⟩
        have c6 := below_nx c5 b6
        have k0 := cell_later b6 k0
        have k1 := cell_later b6 k1
        have k2 := cell_later b6 k2
        clear HFc b6 c5 c4
        have HFd := Lib.hid (HF.out w6.heap.size 1 (w6.alloc (.cells #[.int .i64 t] 3)) (by simp))
        have c8 := c6.alloc c6.size (.cells #[.int .i64 t] 3)
        have b8 : Below w6.heap.size w6 (w6.alloc (.cells #[.int .i64 t] 3)) := (Below.refl _ w6).alloc (Nat.le_refl _) _
        have k0 := cell_later b8 k0
        have k1 := cell_later b8 k1
        have k2 := cell_later b8 k2
        clear b8
        go_wp2_with fail
        refine HFd.out.mono ?_
        rintro e w9 ⟨rfl, b9⟩
        have c9 := below_nx c8 b9
        have k0 := cell_later b9 k0
        have k1 := cell_later b9 k1
        have k2 := cell_later b9 k2
        clear HFd b9 c8
        go_wp2_with fail
        refine (HV.out _).mono ?_
        rintro e w10 ⟨rfl, b10⟩
        have c10 := below_nx c9 b10
        have k0 := cell_later b10 k0
        have k1 := cell_later b10 k1
        have k2 := cell_later b10 k2
        clear b10 c9
        go_wp2_with fail
        refine (HAw.out _).mono ?_
        rintro e w12 ⟨rfl, b12⟩
        have c12 := below_nx c10 b12
        go_wp2
        go_ret
        exact ⟨rfl, c12⟩
      · rcases Int.lt_or_le s ((2 : Int) ^ n) with hs2 | hs2
        · obtain ⟨s, rfl⟩ := Int.eq_ofNat_of_zero_le hs
          have hsl : s < 2 ^ n := by rw [pow_nat] at hs2; omega
          have HFi := Lib.hid (fun W h => Find_ok n a b s hk.out hsl W h)
          have HRF := Lib.hid (fun W => RFind_any n a b s hk.out W)
          have hs3 : ¬ (s : Int) < 0 := by omega
          have hs4 : ¬ (2 : Int) ^ n ≤ (s : Int) := by omega
          clear hsl hs2
          go_enter Tryd.func3, Tryd.ntmps3
          go_wp2_with fail
          rw [hW.out]
          refine (HO.out _).mono ?_
          rintro e w1 ⟨rfl, b1⟩
          have c1 := below_nx c0 b1
          have k0 := cell_later b1 k0
          have k1 := cell_later b1 k1
          have k2 := cell_later b1 k2
          go_wp2_with fail
          refine (HTo.out _).mono ?_
          rintro e w2 ⟨rfl, b2⟩
          have c2 := below_nx c1 b2
          have k0 := cell_later b2 k0
          have k1 := cell_later b2 k1
          have k2 := cell_later b2 k2
          go_wp2_with fail
          refine (HO.out _).mono ?_
          rintro e w3 ⟨rfl, b3⟩
          have c3 := below_nx c2 b3
          have k0 := cell_later b3 k0
          have k1 := cell_later b3 k1
          have k2 := cell_later b3 k2
          have HT3 := Lib.hid (HT0.out.same (((b1.trans (b2.mono b1.size)).trans (b3.mono (Nat.le_trans b1.size b2.size)))))
          clear b1 b2 b3 c1 c2
          go_wp2_with fail
          refine (HFi.out _ HT3.out).mono ?_
          rintro e w4 ⟨⟨u, f, hF, rfl⟩, b4⟩
          have HFI := Lib.hid hF
          clear hF
          have c4 := below_nx c3 b4
          have k0 := cell_later b4 k0
          have k1 := cell_later b4 k1
          have k2 := cell_later b4 k2
          clear b4 c3
          have HFc := Lib.hid (HF.out w4.heap.size 1 (w4.alloc (.cells #[.int .i64 t] 3)) (by simp))
          have c5 := c4.alloc c4.size (.cells #[.int .i64 t] 3)
          have b5 : Below w4.heap.size w4 (w4.alloc (.cells #[.int .i64 t] 3)) := (Below.refl _ w4).alloc (Nat.le_refl _) _
          have k0 := cell_later b5 k0
          have k1 := cell_later b5 k1
          have k2 := cell_later b5 k2
          clear b5
          go_wp2_with fail
          refine HFc.out.mono ?_
          rintro e w6 ⟨rfl, b6⟩
          have c6 := below_nx c5 b6
          have k0 := cell_later b6 k0
          have k1 := cell_later b6 k1
          have k2 := cell_later b6 k2
          clear HFc b6 c5 c4
          have HFd := Lib.hid (HF.out w6.heap.size 1 (w6.alloc (.cells #[.int .i64 t] 3)) (by simp))
          have c8 := c6.alloc c6.size (.cells #[.int .i64 t] 3)
          have b8 : Below w6.heap.size w6 (w6.alloc (.cells #[.int .i64 t] 3)) := (Below.refl _ w6).alloc (Nat.le_refl _) _
          have k0 := cell_later b8 k0
          have k1 := cell_later b8 k1
          have k2 := cell_later b8 k2
          clear b8
          go_wp2_with fail
          refine HFd.out.mono ?_
          rintro e w9 ⟨rfl, b9⟩
          have c9 := below_nx c8 b9
          have k0 := cell_later b9 k0
          have k1 := cell_later b9 k1
          have k2 := cell_later b9 k2
          clear HFd b9 c8
          go_wp2_with fail
          refine (HV.out _).mono ?_
          rintro e w10 ⟨rfl, b10⟩
          have c10 := below_nx c9 b10
          have k0 := cell_later b10 k0
          have k1 := cell_later b10 k1
          have k2 := cell_later b10 k2
          clear b10 c9
          go_wp2_with fail
          refine (HRF.out _).mono ?_
          rintro e w11 ⟨⟨u', f', hF', rfl⟩, b11⟩
          have c11 := below_nx c10 b11
          obtain ⟨eu, ef⟩ := hF'.same hk.out HFI.out
          subst eu ef
          clear hF' b11 c10
          go_wp2_with fail
          refine (HAw.out _).mono ?_
          rintro e w12 ⟨rfl, b12⟩
          have c12 := below_nx c11 b12
          go_wp2
          go_ret
          exact ⟨rfl, c12⟩
        · have HFi := Lib.hid (Find_high n a b s hk.out hs hs2)
          have hs3 : ¬ s < 0 := by omega
          go_enter Tryd.func3, Tryd.ntmps3
          go_wp2_with fail
          rw [hW.out]
          refine (HO.out _).mono ?_
          rintro e w1 ⟨rfl, b1⟩
          have c1 := below_nx c0 b1
          have k0 := cell_later b1 k0
          have k1 := cell_later b1 k1
          have k2 := cell_later b1 k2
          go_wp2_with fail
          refine (HTo.out _).mono ?_
          rintro e w2 ⟨rfl, b2⟩
          have c2 := below_nx c1 b2
          have k0 := cell_later b2 k0
          have k1 := cell_later b2 k1
          have k2 := cell_later b2 k2
          go_wp2_with fail
          refine (HO.out _).mono ?_
          rintro e w3 ⟨rfl, b3⟩
          have c3 := below_nx c2 b3
          have k0 := cell_later b3 k0
          have k1 := cell_later b3 k1
          have k2 := cell_later b3 k2
          have HT3 := Lib.hid (HT0.out.same (((b1.trans (b2.mono b1.size)).trans (b3.mono (Nat.le_trans b1.size b2.size)))))
          clear b1 b2 b3 c1 c2
          go_wp2_with fail
          refine (HFi.out _).mono ?_
          rintro e w4 ⟨rfl, b4⟩
          have c4 := below_nx c3 b4
          have k0 := cell_later b4 k0
          have k1 := cell_later b4 k1
          have k2 := cell_later b4 k2
          clear b4 c3
          have HFc := Lib.hid (HF.out w4.heap.size 1 (w4.alloc (.cells #[.int .i64 t] 3)) (by simp))
          have c5 := c4.alloc c4.size (.cells #[.int .i64 t] 3)
          have b5 : Below w4.heap.size w4 (w4.alloc (.cells #[.int .i64 t] 3)) := (Below.refl _ w4).alloc (Nat.le_refl _) _
          have k0 := cell_later b5 k0
          have k1 := cell_later b5 k1
          have k2 := cell_later b5 k2
          clear b5
          go_wp2_with fail
          refine HFc.out.mono ?_
          rintro e w6 ⟨rfl, b6⟩
          have c6 := below_nx c5 b6
          have k0 := cell_later b6 k0
          have k1 := cell_later b6 k1
          have k2 := cell_later b6 k2
          clear HFc b6 c5 c4
          have HFd := Lib.hid (HF.out w6.heap.size 1 (w6.alloc (.cells #[.int .i64 t] 3)) (by simp))
          have c8 := c6.alloc c6.size (.cells #[.int .i64 t] 3)
          have b8 : Below w6.heap.size w6 (w6.alloc (.cells #[.int .i64 t] 3)) := (Below.refl _ w6).alloc (Nat.le_refl _) _
          have k0 := cell_later b8 k0
          have k1 := cell_later b8 k1
          have k2 := cell_later b8 k2
          clear b8
          go_wp2_with fail
          refine HFd.out.mono ?_
          rintro e w9 ⟨rfl, b9⟩
          have c9 := below_nx c8 b9
          have k0 := cell_later b9 k0
          have k1 := cell_later b9 k1
          have k2 := cell_later b9 k2
          clear HFd b9 c8
          go_wp2_with fail
          refine (HV.out _).mono ?_
          rintro e w10 ⟨rfl, b10⟩
          have c10 := below_nx c9 b10
          have k0 := cell_later b10 k0
          have k1 := cell_later b10 k1
          have k2 := cell_later b10 k2
          clear b10 c9
          go_wp2_with fail
          refine (HAw.out _).mono ?_
          rintro e w12 ⟨rfl, b12⟩
          have c12 := below_nx c10 b12
          go_wp2
          go_ret
          exact ⟨rfl, c12⟩
  · have hb' := hb
    rw [Bool.and_eq_true] at hb'
    have hK := hb'.1
    have hTr := hb'.2
    have HF := Lib.hid (fine1 n a b t true hb)
    rw [hK] at HV
    obtain ⟨n, a, b, rfl, rfl, rfl, hk⟩ := kindB_nat hK
    have hk := Lib.hid hk
    have h16 := hk.out.h16
    have hp := pow_bd (n : Int) (by omega) (by omega)
    rw [Int.toNat_natCast] at hp
    obtain ⟨t, rfl, ht⟩ : ∃ t' : Nat, t = t' ∧ t' < 2 * n := by
      unfold triB at hTr
      have := of_decide_eq_true hTr
      obtain ⟨t', rfl⟩ := Int.eq_ofNat_of_zero_le this.1
      exact ⟨t', rfl, by omega⟩
    have HTo := Lib.hid (Tones_ok n a b t hk.out ht)
    have HRT := Lib.hid (RTones_any n a b t hk.out ht)
    generalize setT n a b t 3 = S0 at HTo HRT
    clear hb hb' hK hTr
    rcases Int.lt_or_le s 0 with hs | hs
    · have HFi := Lib.hid (Find_neg n a b s hk.out hs)
      go_enter Tryd.func3, Tryd.ntmps3
      go_wp2_with fail
      rw [hW.out]
      refine (HO.out _).mono ?_
      rintro e w1 ⟨rfl, b1⟩
      have c1 := below_nx c0 b1
      have k0 := cell_later b1 k0
      have k1 := cell_later b1 k1
      have k2 := cell_later b1 k2
      go_wp2_with fail
      refine (HTo.out _).mono ?_
      rintro e w2 ⟨rfl, b2⟩
      have c2 := below_nx c1 b2
      have k0 := cell_later b2 k0
      have k1 := cell_later b2 k1
      have k2 := cell_later b2 k2
      go_wp2_with fail
      refine (HO.out _).mono ?_
      rintro e w3 ⟨rfl, b3⟩
      have c3 := below_nx c2 b3
      have k0 := cell_later b3 k0
      have k1 := cell_later b3 k1
      have k2 := cell_later b3 k2
      have HT3 := Lib.hid (HT0.out.same (((b1.trans (b2.mono b1.size)).trans (b3.mono (Nat.le_trans b1.size b2.size)))))
      clear b1 b2 b3 c1 c2
      go_wp2_with fail
      refine (HFi.out _).mono ?_
      rintro e w4 ⟨rfl, b4⟩
      have c4 := below_nx c3 b4
      have k0 := cell_later b4 k0
      have k1 := cell_later b4 k1
      have k2 := cell_later b4 k2
      clear b4 c3
      have HFc := Lib.hid (HF.out w4.heap.size 1 (w4.alloc (.cells #[.int .i64 t] 3)) (by simp))
      have c5 := c4.alloc c4.size (.cells #[.int .i64 t] 3)
      have b5 : Below w4.heap.size w4 (w4.alloc (.cells #[.int .i64 t] 3)) := (Below.refl _ w4).alloc (Nat.le_refl _) _
      have k0 := cell_later b5 k0
      have k1 := cell_later b5 k1
      have k2 := cell_later b5 k2
      clear b5
      go_wp2_with fail
      refine HFc.out.mono ?_
      rintro e w6 ⟨rfl, b6⟩
      have c6 := below_nx c5 b6
      have k0 := cell_later b6 k0
      have k1 := cell_later b6 k1
      have k2 := cell_later b6 k2
      clear HFc b6 c5 c4
      go_wp2_with fail
      refine (HRT.out _).mono ?_
      rintro e w7 ⟨rfl, b7⟩
      have c7 := below_nx c6 b7
      have k0 := cell_later b7 k0
      have k1 := cell_later b7 k1
      have k2 := cell_later b7 k2
      clear b7 c6
      have HFd := Lib.hid (HF.out w7.heap.size 1 (w7.alloc (.cells #[.int .i64 t] 3)) (by simp))
      have c8 := c7.alloc c7.size (.cells #[.int .i64 t] 3)
      have b8 : Below w7.heap.size w7 (w7.alloc (.cells #[.int .i64 t] 3)) := (Below.refl _ w7).alloc (Nat.le_refl _) _
      have k0 := cell_later b8 k0
      have k1 := cell_later b8 k1
      have k2 := cell_later b8 k2
      clear b8
      go_wp2_with fail
      refine HFd.out.mono ?_
      rintro e w9 ⟨rfl, b9⟩
      have c9 := below_nx c8 b9
      have k0 := cell_later b9 k0
      have k1 := cell_later b9 k1
      have k2 := cell_later b9 k2
      clear HFd b9 c8
      go_wp2_with fail
      refine (HV.out _).mono ?_
      rintro e w10 ⟨rfl, b10⟩
      have c10 := below_nx c9 b10
      have k0 := cell_later b10 k0
      have k1 := cell_later b10 k1
      have k2 := cell_later b10 k2
      clear b10 c9
      go_wp2_with fail
      refine (HAw.out _).mono ?_
      rintro e w12 ⟨rfl, b12⟩
      have c12 := below_nx c10 b12
      go_wp2
      go_ret
      exact ⟨rfl, c12⟩
    · rcases Int.lt_or_le s ((2 : Int) ^ n) with hs2 | hs2
      · obtain ⟨s, rfl⟩ := Int.eq_ofNat_of_zero_le hs
        have hsl : s < 2 ^ n := by rw [pow_nat] at hs2; omega
        have HFi := Lib.hid (fun W h => Find_ok n a b s hk.out hsl W h)
        have HRF := Lib.hid (fun W => RFind_any n a b s hk.out W)
        have hs3 : ¬ (s : Int) < 0 := by omega
        have hs4 : ¬ (2 : Int) ^ n ≤ (s : Int) := by omega
        clear hsl hs2
        go_enter Tryd.func3, Tryd.ntmps3
        go_wp2_with fail
        rw [hW.out]
        refine (HO.out _).mono ?_
        rintro e w1 ⟨rfl, b1⟩
        have c1 := below_nx c0 b1
        have k0 := cell_later b1 k0
        have k1 := cell_later b1 k1
        have k2 := cell_later b1 k2
        go_wp2_with fail
        refine (HTo.out _).mono ?_
        rintro e w2 ⟨rfl, b2⟩
        have c2 := below_nx c1 b2
        have k0 := cell_later b2 k0
        have k1 := cell_later b2 k1
        have k2 := cell_later b2 k2
        go_wp2_with fail
        refine (HO.out _).mono ?_
        rintro e w3 ⟨rfl, b3⟩
        have c3 := below_nx c2 b3
        have k0 := cell_later b3 k0
        have k1 := cell_later b3 k1
        have k2 := cell_later b3 k2
        have HT3 := Lib.hid (HT0.out.same (((b1.trans (b2.mono b1.size)).trans (b3.mono (Nat.le_trans b1.size b2.size)))))
        clear b1 b2 b3 c1 c2
        go_wp2_with fail
        refine (HFi.out _ HT3.out).mono ?_
        rintro e w4 ⟨⟨u, f, hF, rfl⟩, b4⟩
        have HFI := Lib.hid hF
        clear hF
        have c4 := below_nx c3 b4
        have k0 := cell_later b4 k0
        have k1 := cell_later b4 k1
        have k2 := cell_later b4 k2
        clear b4 c3
        have HFc := Lib.hid (HF.out w4.heap.size 1 (w4.alloc (.cells #[.int .i64 t] 3)) (by simp))
        have c5 := c4.alloc c4.size (.cells #[.int .i64 t] 3)
        have b5 : Below w4.heap.size w4 (w4.alloc (.cells #[.int .i64 t] 3)) := (Below.refl _ w4).alloc (Nat.le_refl _) _
        have k0 := cell_later b5 k0
        have k1 := cell_later b5 k1
        have k2 := cell_later b5 k2
        clear b5
        go_wp2_with fail
        refine HFc.out.mono ?_
        rintro e w6 ⟨rfl, b6⟩
        have c6 := below_nx c5 b6
        have k0 := cell_later b6 k0
        have k1 := cell_later b6 k1
        have k2 := cell_later b6 k2
        clear HFc b6 c5 c4
        go_wp2_with fail
        refine (HRT.out _).mono ?_
        rintro e w7 ⟨rfl, b7⟩
        have c7 := below_nx c6 b7
        have k0 := cell_later b7 k0
        have k1 := cell_later b7 k1
        have k2 := cell_later b7 k2
        clear b7 c6
        have HFd := Lib.hid (HF.out w7.heap.size 1 (w7.alloc (.cells #[.int .i64 t] 3)) (by simp))
        have c8 := c7.alloc c7.size (.cells #[.int .i64 t] 3)
        have b8 : Below w7.heap.size w7 (w7.alloc (.cells #[.int .i64 t] 3)) := (Below.refl _ w7).alloc (Nat.le_refl _) _
        have k0 := cell_later b8 k0
        have k1 := cell_later b8 k1
        have k2 := cell_later b8 k2
        clear b8
        go_wp2_with fail
        refine HFd.out.mono ?_
        rintro e w9 ⟨rfl, b9⟩
        have c9 := below_nx c8 b9
        have k0 := cell_later b9 k0
        have k1 := cell_later b9 k1
        have k2 := cell_later b9 k2
        clear HFd b9 c8
        go_wp2_with fail
        refine (HV.out _).mono ?_
        rintro e w10 ⟨rfl, b10⟩
        have c10 := below_nx c9 b10
        have k0 := cell_later b10 k0
        have k1 := cell_later b10 k1
        have k2 := cell_later b10 k2
        clear b10 c9
        go_wp2_with fail
        refine (HRF.out _).mono ?_
        rintro e w11 ⟨⟨u', f', hF', rfl⟩, b11⟩
        have c11 := below_nx c10 b11
        obtain ⟨eu, ef⟩ := hF'.same hk.out HFI.out
        subst eu ef
        clear hF' b11 c10
        go_wp2_with fail
        refine (HAw.out _).mono ?_
        rintro e w12 ⟨rfl, b12⟩
        have c12 := below_nx c11 b12
        go_wp2
        go_ret
        exact ⟨rfl, c12⟩
      · have HFi := Lib.hid (Find_high n a b s hk.out hs hs2)
        have hs3 : ¬ s < 0 := by omega
        go_enter Tryd.func3, Tryd.ntmps3
        go_wp2_with fail
        rw [hW.out]
        refine (HO.out _).mono ?_
        rintro e w1 ⟨rfl, b1⟩
        have c1 := below_nx c0 b1
        have k0 := cell_later b1 k0
        have k1 := cell_later b1 k1
        have k2 := cell_later b1 k2
        go_wp2_with fail
        refine (HTo.out _).mono ?_
        rintro e w2 ⟨rfl, b2⟩
        have c2 := below_nx c1 b2
        have k0 := cell_later b2 k0
        have k1 := cell_later b2 k1
        have k2 := cell_later b2 k2
        go_wp2_with fail
        refine (HO.out _).mono ?_
        rintro e w3 ⟨rfl, b3⟩
        have c3 := below_nx c2 b3
        have k0 := cell_later b3 k0
        have k1 := cell_later b3 k1
        have k2 := cell_later b3 k2
        have HT3 := Lib.hid (HT0.out.same (((b1.trans (b2.mono b1.size)).trans (b3.mono (Nat.le_trans b1.size b2.size)))))
        clear b1 b2 b3 c1 c2
        go_wp2_with fail
        refine (HFi.out _).mono ?_
        rintro e w4 ⟨rfl, b4⟩
        have c4 := below_nx c3 b4
        have k0 := cell_later b4 k0
        have k1 := cell_later b4 k1
        have k2 := cell_later b4 k2
        clear b4 c3
        have HFc := Lib.hid (HF.out w4.heap.size 1 (w4.alloc (.cells #[.int .i64 t] 3)) (by simp))
        have c5 := c4.alloc c4.size (.cells #[.int .i64 t] 3)
        have b5 : Below w4.heap.size w4 (w4.alloc (.cells #[.int .i64 t] 3)) := (Below.refl _ w4).alloc (Nat.le_refl _) _
        have k0 := cell_later b5 k0
        have k1 := cell_later b5 k1
        have k2 := cell_later b5 k2
        clear b5
        go_wp2_with fail
        refine HFc.out.mono ?_
        rintro e w6 ⟨rfl, b6⟩
        have c6 := below_nx c5 b6
        have k0 := cell_later b6 k0
        have k1 := cell_later b6 k1
        have k2 := cell_later b6 k2
        clear HFc b6 c5 c4
        go_wp2_with fail
        refine (HRT.out _).mono ?_
        rintro e w7 ⟨rfl, b7⟩
        have c7 := below_nx c6 b7
        have k0 := cell_later b7 k0
        have k1 := cell_later b7 k1
        have k2 := cell_later b7 k2
        clear b7 c6
        have HFd := Lib.hid (HF.out w7.heap.size 1 (w7.alloc (.cells #[.int .i64 t] 3)) (by simp))
        have c8 := c7.alloc c7.size (.cells #[.int .i64 t] 3)
        have b8 : Below w7.heap.size w7 (w7.alloc (.cells #[.int .i64 t] 3)) := (Below.refl _ w7).alloc (Nat.le_refl _) _
        have k0 := cell_later b8 k0
        have k1 := cell_later b8 k1
        have k2 := cell_later b8 k2
        clear b8
        go_wp2_with fail
        refine HFd.out.mono ?_
        rintro e w9 ⟨rfl, b9⟩
        have c9 := below_nx c8 b9
        have k0 := cell_later b9 k0
        have k1 := cell_later b9 k1
        have k2 := cell_later b9 k2
        clear HFd b9 c8
        go_wp2_with fail
        refine (HV.out _).mono ?_
        rintro e w10 ⟨rfl, b10⟩
        have c10 := below_nx c9 b10
        have k0 := cell_later b10 k0
        have k1 := cell_later b10 k1
        have k2 := cell_later b10 k2
        clear b10 c9
        go_wp2_with fail
        refine (HAw.out _).mono ?_
        rintro e w12 ⟨rfl, b12⟩
        have c12 := below_nx c10 b12
        go_wp2
        go_ret
        exact ⟨rfl, c12⟩
end Go.Proofs.YtibkhjbcagihbaaDoor
