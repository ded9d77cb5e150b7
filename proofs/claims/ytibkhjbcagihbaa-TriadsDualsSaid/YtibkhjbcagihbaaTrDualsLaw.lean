/-
  The statement on walks and shifts.
-/
import Derived.Test.YtibkhjbcagihbaaTrShiftsLaw
import Derived.Test.YtibkhjbcagihbaaTrAlike
namespace Go.Proofs.Ytibkhjbcagihbaa
open Go.ChangeShapes Go.WideShapes Go.ChangeAt Go.RowKit
set_option maxRecDepth 100000

theorem walk_shift {n a b : Nat} (hk : KOk n a b) (l : List Nat) (k : Int) (tu : Bool) {t : Nat} (ht : t < 2 * n) : shiftN n (walkN n a b t l) k tu = walkN n a b (shiftN n t k tu) l := by
  have hn := hk.pos
  rw [tri_of ht, tri_walk hk, shift_tri hn, shift_tri hn, tri_walk hk, tri_inj hn]
  generalize decide (n ≤ t) = d
  generalize disp a b l = x
  generalize ((t : Nat) : Int) = z
  refine ⟨by cases d <;> cases tu <;> simp, ?_⟩
  cases d <;> cases tu <;> simp <;> congr 1 <;> omega

theorem empty_size : (⟨#[]⟩ : ByteArray).size ≤ maxLen := by unfold maxLen; decide
theorem walkB_empty : walkB ⟨#[]⟩ = true := by decide +kernel
theorem bsN_empty : bsN ⟨#[]⟩ = [] := rfl

set_option maxHeartbeats 4000000 in
theorem TriadsDuals_walk (n a b t : Int) (s : ByteArray) (k : Int) (tu : Bool) (_ : (Lit.int .i64 n).wf = true) (_ : (Lit.int .i64 a).wf = true) (_ : (Lit.int .i64 b).wf = true) (_ : (Lit.int .i64 t).wf = true) (hs : s.size ≤ maxLen) (_ : (Lit.int .i64 k).wf = true) (w : World) :
    Calls Try.prog 10 #[kv n a b, .int .i64 t, .string s, .int .i64 k, .bool tu] w fun e w' => e = .returned (.bool true) ∧ Below w.heap.size w w' := by
  have HO := Lib.hid (Of_any n a b)
  have HT := Lib.hid (text_any s)
  have HAw := Lib.hid awake_any
  obtain ⟨W0, hW0⟩ : ∃ W0, w.alloc (rcells n a b) = W0 := ⟨_, rfl⟩
  have b0 : Below w.heap.size w W0 := by rw [← hW0]; exact (Below.refl _ w).alloc (Nat.le_refl _) _
  have k0 : W0.cell? ⟨w.heap.size, 0, none⟩ = some (.int .i64 n) := by rw [← hW0]; simp
  have k1 : W0.cell? ⟨w.heap.size, 1, none⟩ = some (.int .i64 a) := by rw [← hW0]; simp
  have k2 : W0.cell? ⟨w.heap.size, 2, none⟩ = some (.int .i64 b) := by rw [← hW0]; simp
  have hW := Lib.hid hW0
  clear hW0
  cases hb : kindB n a b && triB n t
  · have HW := Lib.hid (Walk_bad n a b t (s.extract 0 (min s.size 70)) hb)
    have HF := Lib.hid (fine1 n a b t false hb)
    clear hb
    go_enter Try.func10, Try.ntmps10
    go_wp2_with fail
    rw [hW.out]
    refine (HO.out _).mono ?_
    rintro e w1 ⟨rfl, b1⟩
    have c1 := below_nx b0 b1
    have k0 := cell_later b1 k0
    have k1 := cell_later b1 k1
    have k2 := cell_later b1 k2
    go_wp2_with fail
    refine (HT.out _).mono ?_
    rintro e w2 ⟨rfl, rfl⟩
    go_wp2_with fail
    refine (HW.out _).mono ?_
    rintro e w3 ⟨rfl, b3⟩
    have c3 := below_nx c1 b3
    have k0 := cell_later b3 k0
    have k1 := cell_later b3 k1
    have k2 := cell_later b3 k2
    have HFc := Lib.hid (HF.out w3.heap.size 1 (w3.alloc (.cells #[.int .i64 t] 3)) (by simp))
    have c4 := c3.alloc c3.size (.cells #[.int .i64 t] 3)
    go_wp2_with fail
    refine HFc.out.mono ?_
    rintro e w4 ⟨rfl, b4⟩
    have c5 := below_nx c4 b4
    go_wp2_with fail
    refine (HAw.out _).mono ?_
    rintro e w5 ⟨rfl, b5⟩
    go_wp2
    go_ret
    exact ⟨rfl, below_nx c5 b5⟩
  · have hb' := hb
    rw [Bool.and_eq_true] at hb'
    obtain ⟨n, a, b, rfl, rfl, rfl, hk⟩ := kindB_nat hb'.1
    have ht : 0 ≤ t ∧ t < 2 * n := by have := hb'.2; unfold triB at this; exact of_decide_eq_true this
    obtain ⟨t, rfl⟩ := Int.eq_ofNat_of_zero_le ht.1
    have ht : t < 2 * n := by omega
    have HI := Lib.hid (RIsWalk_any s hs)
    have HF := Lib.hid (fine1 n a b t true hb)
    cases hw : walkB s
    · have HW := Lib.hid (Walk_form n a b t (s.extract 0 (min s.size 70)) (text_size s hs) hb ((text_walk s).1.trans hw))
      rw [hw] at HI
      clear hb hb' hw
      go_enter Try.func10, Try.ntmps10
      go_wp2_with fail
      rw [hW.out]
      refine (HO.out _).mono ?_
      rintro e w1 ⟨rfl, b1⟩
      have c1 := below_nx b0 b1
      have k0 := cell_later b1 k0
      have k1 := cell_later b1 k1
      have k2 := cell_later b1 k2
      go_wp2_with fail
      refine (HT.out _).mono ?_
      rintro e w2 ⟨rfl, rfl⟩
      go_wp2_with fail
      refine (HW.out _).mono ?_
      rintro e w3 ⟨rfl, b3⟩
      have c3 := below_nx c1 b3
      have k0 := cell_later b3 k0
      have k1 := cell_later b3 k1
      have k2 := cell_later b3 k2
      have HFc := Lib.hid (HF.out w3.heap.size 1 (w3.alloc (.cells #[.int .i64 t] 3)) (by simp))
      have c4 := c3.alloc c3.size (.cells #[.int .i64 t] 3)
      go_wp2_with fail
      refine HFc.out.mono ?_
      rintro e w4 ⟨rfl, b4⟩
      have c5 := below_nx c4 b4
      go_wp2_with fail
      refine (HI.out _).mono ?_
      rintro e w5 ⟨rfl, rfl⟩
      go_wp2_with fail
      refine (HAw.out _).mono ?_
      rintro e w5 ⟨rfl, b5⟩
      go_wp2
      go_ret
      exact ⟨rfl, below_nx c5 b5⟩
    · have HW := Lib.hid (Walk_ok n a b t hk ht s hs hw)
      have hu : walkN n a b t (bsN s) < 2 * n := walk_lt hk _ _ ht
      have hv : shiftN n t k tu < 2 * n := tri_lt hk.pos _ _
      have HS1 := Lib.hid (Shift_ok n a b (walkN n a b t (bsN s)) k tu hk hu)
      have HS2 := Lib.hid (Shift_ok n a b t k tu hk ht)
      have HW2 := Lib.hid (Walk_ok n a b (shiftN n t k tu) hk hv s hs hw)
      obtain ⟨K, hK1, hK2, hK3⟩ := ordW_exists hk (bsN s)
      have HAl := Lib.hid (Alike_ok n a b hk s ⟨#[]⟩ hs empty_size hw walkB_empty)
      have HOr := Lib.hid (Order_ok n a b hk s hs hw K hK1)
      rw [walk_shift hk _ _ _ ht] at HS1
      rw [(text_walk s).2 hw] at HT
      rw [hw] at HI
      have hsame := sameW_at hk (bsN s) (bsN ⟨#[]⟩) ht
      have hone : K = 1 ↔ sameW n a b (bsN s) (bsN ⟨#[]⟩) = true := by
        rw [hK3]; unfold sameW; rw [beq_iff_eq]; rfl
      have hse : walkN n a b t (bsN ⟨#[]⟩) = t := rfl
      rw [hse] at hsame
      have hodd : (s.size : Int) % 2 = 0 ∨ K = 2 := by
        cases ho : oddL (bsN s)
        · left
          unfold oddL at ho
          rw [bsN_length] at ho
          have : ¬ s.size % 2 = 1 := by simpa using ho
          omega
        · right; exact hK2 ho
      have hKn : K ≤ n := hK1.2.1
      have h16 := hk.h16
      clear hb hb' hw hK1 hK2 hK3 hse
      generalize sameW n a b (bsN s) (bsN ⟨#[]⟩) = R at HAl hsame hone
      generalize walkN n a b t (bsN s) = u at HW HS1 hsame hu
      generalize walkN n a b (shiftN n t k tu) (bsN s) = v at HS1 HW2
      generalize shiftN n t k tu = x at HS2 HW2 hv
      have HE : Hid ((R = true ∧ u = t ∧ K = 1 ∧ (s.size : Int) % 2 = 0) ∨ (R = false ∧ ¬ u = t ∧ ¬ K = 1 ∧ ((s.size : Int) % 2 = 0 ∨ K = 2))) := Lib.hid (by
        cases R
        · right
          refine ⟨rfl, fun h => ?_, fun h => ?_, hodd⟩
          · exact absurd (hsame.1 h) (by simp)
          · exact absurd (hone.1 h) (by simp)
        · left
          have h1 := hone.2 rfl
          refine ⟨rfl, hsame.2 rfl, h1, ?_⟩
          rcases hodd with h | h
          · exact h
          · omega)
      clear hsame hone hodd
      go_enter Try.func10, Try.ntmps10
      go_wp2_with fail
      rw [hW.out]
      refine (HO.out _).mono ?_
      rintro e w1 ⟨rfl, b1⟩
      have c1 := below_nx b0 b1
      have k0 := cell_later b1 k0
      have k1 := cell_later b1 k1
      have k2 := cell_later b1 k2
      go_wp2_with fail
      refine (HT.out _).mono ?_
      rintro e w2 ⟨rfl, rfl⟩
      go_wp2_with fail
      refine (HW.out _).mono ?_
      rintro e w3 ⟨rfl, b3⟩
      have c3 := below_nx c1 b3
      have k0 := cell_later b3 k0
      have k1 := cell_later b3 k1
      have k2 := cell_later b3 k2
      have HFc := Lib.hid (HF.out w3.heap.size 1 (w3.alloc (.cells #[.int .i64 t] 3)) (by simp))
      have c4 := c3.alloc c3.size (.cells #[.int .i64 t] 3)
      have k0 : (w3.alloc (.cells #[.int .i64 t] 3)).cell? ⟨w.heap.size, 0, none⟩ = some (.int .i64 n) := cell_later ((Below.refl _ w3).alloc (Nat.le_refl _) _) k0
      have k1 : (w3.alloc (.cells #[.int .i64 t] 3)).cell? ⟨w.heap.size, 1, none⟩ = some (.int .i64 a) := cell_later ((Below.refl _ w3).alloc (Nat.le_refl _) _) k1
      have k2 : (w3.alloc (.cells #[.int .i64 t] 3)).cell? ⟨w.heap.size, 2, none⟩ = some (.int .i64 b) := cell_later ((Below.refl _ w3).alloc (Nat.le_refl _) _) k2
      clear b1 b3
      go_wp2_with fail
      refine HFc.out.mono ?_
      rintro e w4 ⟨rfl, b4⟩
      have c5 := below_nx c4 b4
      have k0 := cell_later b4 k0
      have k1 := cell_later b4 k1
      have k2 := cell_later b4 k2
      go_wp2_with fail
      refine (HI.out _).mono ?_
      rintro e w5 ⟨rfl, rfl⟩
      go_wp2_with fail
      refine (HO.out _).mono ?_
      rintro e w5 ⟨rfl, b5⟩
      have c6 := below_nx c5 b5
      have k0 := cell_later b5 k0
      have k1 := cell_later b5 k1
      have k2 := cell_later b5 k2
      go_wp2_with fail
      refine (HS1.out _).mono ?_
      rintro e w6 ⟨rfl, b6⟩
      have c7 := below_nx c6 b6
      have k0 := cell_later b6 k0
      have k1 := cell_later b6 k1
      have k2 := cell_later b6 k2
      clear c3 c4 c5 c6 b4 b5 b6
      go_wp2_with fail
      refine (HO.out _).mono ?_
      rintro e w7 ⟨rfl, b7⟩
      have c8 := below_nx c7 b7
      have k0 := cell_later b7 k0
      have k1 := cell_later b7 k1
      have k2 := cell_later b7 k2
      go_wp2_with fail
      refine (HS2.out _).mono ?_
      rintro e w8 ⟨rfl, b8⟩
      have c9 := below_nx c8 b8
      have k0 := cell_later b8 k0
      have k1 := cell_later b8 k1
      have k2 := cell_later b8 k2
      go_wp2_with fail
      refine (HO.out _).mono ?_
      rintro e w9 ⟨rfl, b9⟩
      have c10 := below_nx c9 b9
      have k0 := cell_later b9 k0
      have k1 := cell_later b9 k1
      have k2 := cell_later b9 k2
      go_wp2_with fail
      refine (HW2.out _).mono ?_
      rintro e w10 ⟨rfl, b10⟩
      have c11 := below_nx c10 b10
      have k0 := cell_later b10 k0
      have k1 := cell_later b10 k1
      have k2 := cell_later b10 k2
      clear c7 c8 c9 c10 b7 b8 b9 b10
      go_wp2_with fail
      refine (HO.out _).mono ?_
      rintro e w11 ⟨rfl, b11⟩
      have c12 := below_nx c11 b11
      have k0 := cell_later b11 k0
      have k1 := cell_later b11 k1
      have k2 := cell_later b11 k2
      go_wp2_with fail
      refine (HAl.out _).mono ?_
      rintro e w12 ⟨rfl, b12⟩
      have c13 := below_nx c12 b12
      have k0 := cell_later b12 k0
      have k1 := cell_later b12 k1
      have k2 := cell_later b12 k2
      go_wp2_with fail
      refine (HO.out _).mono ?_
      rintro e w13 ⟨rfl, b13⟩
      have c14 := below_nx c13 b13
      go_wp2_with fail
      refine (HOr.out _).mono ?_
      rintro e w14 ⟨rfl, b14⟩
      have c15 := below_nx c14 b14
      clear c11 c12 c13 c14 b11 b12 b13 b14
      rcases HE.out with ⟨rfl, rfl, rfl, e4⟩ | ⟨rfl, e2, e3, e4⟩
      · go_wp2_with fail
        refine (HAw.out _).mono ?_
        rintro e w15 ⟨rfl, b15⟩
        go_wp2
        go_ret
        exact ⟨rfl, below_nx c15 b15⟩
      · have q2 : ((u : Int) == t) = false := by rw [beq_eq_false_iff_ne]; omega
        have q3 : ((K : Int) == 1) = false := by rw [beq_eq_false_iff_ne]; omega
        rcases (show (s.size : Int) % 2 = 0 ∨ ((s.size : Int) % 2 = 1 ∧ K = 2) by omega) with e5 | ⟨e5, rfl⟩
        · clear e4
          go_wp2_with fail
          refine (HAw.out _).mono ?_
          rintro e w15 ⟨rfl, b15⟩
          go_wp2
          go_ret
          exact ⟨rfl, below_nx c15 b15⟩
        · clear e4
          go_wp2_with fail
          refine (HAw.out _).mono ?_
          rintro e w15 ⟨rfl, b15⟩
          go_wp2
          go_ret
          exact ⟨rfl, below_nx c15 b15⟩
end Go.Proofs.Ytibkhjbcagihbaa
