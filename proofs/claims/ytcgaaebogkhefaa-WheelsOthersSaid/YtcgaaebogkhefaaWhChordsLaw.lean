/-
  The statements on the wheels of chords, and on chords that are alike.
-/
import Derived.Test.YtcgaaebogkhefaaWhRef4
namespace Go.Proofs.Ytcgaaebogkhefaa
open Go.ChangeShapes Go.WideShapes Go.ChangeAt Go.RowKit
set_option maxRecDepth 100000

theorem goodC {n c : Int} (h : (circB n && chordsB n.toNat [c]) = true) : ∃ m k : Nat, n = (m : Int) ∧ c = (k : Int) ∧ Circ m ∧ k < 2 ^ m := by
  rw [Bool.and_eq_true] at h
  obtain ⟨m, rfl, hm⟩ := circB_true h.1
  rw [Int.toNat_natCast] at h
  have h2 : 0 ≤ c ∧ c < ((2 ^ m : Nat) : Int) := by
    have := h.2
    unfold chordsB at this
    simpa using this
  exact ⟨m, c.toNat, rfl, by omega, hm, by omega⟩

set_option maxHeartbeats 2000000 in
theorem WheelsChords_walk (n c : Int) (w : World) (_wf : (Lit.int .i64 n).wf = true) (_wc : (Lit.int .i64 c).wf = true) :
    Calls Try.prog 6 #[.int .i64 n, .int .i64 c] w fun e w' => e = .returned (.bool true) ∧ Below w.heap.size w w' := by
  have HAw := Lib.hid (fun W => wawake_any W)
  have HRV := Lib.hid (fun W => RValid_any n c W)
  cases hb : (circB n && chordsB n.toNat [c])
  · rw [hb] at HRV
    have HC := Lib.hid (fun W => Chord_bad n c hb W)
    have HS := Lib.hid (fun W => Silent_bad n c hb W)
    have HF := Lib.hid (fun W => Flat_bad n c hb W)
    clear hb
    go_enter Try.func6, Try.ntmps6
    go_wp2_with fail
    refine (HC.out _).mono ?_
    rintro e w1 ⟨rfl, b1⟩
    have B1 := Lib.hid b1
    clear b1
    go_wp2_with fail
    refine (HS.out _).mono ?_
    rintro e w2 ⟨rfl, b2⟩
    have B2 := Lib.hid (below_nx B1.out b2)
    clear b2
    go_wp2_with fail
    refine (HF.out _).mono ?_
    rintro e w3 ⟨rfl, b3⟩
    have B3 := Lib.hid (below_nx B2.out b3)
    clear b3
    go_wp2_with fail
    refine (HRV.out _).mono ?_
    rintro e w4 ⟨rfl, rfl⟩
    go_wp2_with fail
    refine (HAw.out _).mono ?_
    rintro e w5 ⟨rfl, b5⟩
    go_wp2
    go_ret
    exact ⟨rfl, below_nx B3.out b5⟩
  · rw [hb] at HRV
    obtain ⟨m, k, rfl, rfl, hm, hk⟩ := goodC hb
    have HC := Lib.hid (fun W => Chord_ok m hm k hk W)
    have HS := Lib.hid (fun W => Silent_ok m hm k hk W)
    have HF := Lib.hid (fun W => Flat_ok m hm k hk W)
    have HRC := Lib.hid (fun W => RChord_any m hm.pos hm.2 k hk W)
    have HRS := Lib.hid (fun W => RSilent_any m hm k hk W)
    have HRF := Lib.hid (fun W => RFlat_any m hm k hk W)
    have HE := Lib.hid (fun a b W ha hb => by have := Equal_any (natI (tabN m (chF m k))) (natI (tabN m (chF m k))) a b W (tab_max hm _) (tab_max hm _) ha hb; rwa [show (natI (tabN m (chF m k)) == natI (tabN m (chF m k))) = true from beq_self_eq_true _] at this)
    clear hb hm hk
    generalize zeN (spF m (chF m k)) m = zz at *
    generalize flatB m (poF m (chF m k)) = fb at *
    generalize natI (tabN m (chF m k)) = cl at *
    have hzz : ((zz : Int) == (zz : Int)) = true := beq_self_eq_true _
    have hfb : (fb == fb) = true := beq_self_eq_true _
    go_enter Try.func6, Try.ntmps6
    go_wp2_with fail
    refine (HC.out _).mono ?_
    rintro e w1 ⟨v1, rfl, i1, b1⟩
    have B1 := Lib.hid b1
    have I1 := Lib.hid i1
    clear b1 i1
    go_wp2_with fail
    refine (HS.out _).mono ?_
    rintro e w2 ⟨rfl, b2⟩
    have B2 := Lib.hid (below_nx B1.out b2)
    have I2 := Lib.hid (I1.out.later b2)
    clear b2
    go_wp2_with fail
    refine (HF.out _).mono ?_
    rintro e w3 ⟨rfl, b3⟩
    have B3 := Lib.hid (below_nx B2.out b3)
    have I3 := Lib.hid (I2.out.later b3)
    clear b3
    go_wp2_with fail
    refine (HRV.out _).mono ?_
    rintro e w4 ⟨rfl, rfl⟩
    go_wp2_with fail
    refine (HRC.out _).mono ?_
    rintro e w4 ⟨v4, rfl, i4, b4⟩
    have B4 := Lib.hid (below_nx B3.out b4)
    have E4 := Lib.hid (HE.out _ _ _ (I3.out.later b4) i4)
    clear b4 i4
    go_wp2_with fail
    refine E4.out.mono ?_
    rintro e w5 ⟨rfl, q5, rfl⟩
    have B5 := Lib.hid (bl_drewN B4.out q5)
    generalize w4.drewN q5 = w5 at *
    go_wp2_with fail
    refine (HRS.out _).mono ?_
    rintro e w6 ⟨rfl, b6⟩
    have B6 := Lib.hid (below_nx B5.out b6)
    clear b6
    go_wp2_with fail
    refine (HRF.out _).mono ?_
    rintro e w7 ⟨rfl, b7⟩
    have B7 := Lib.hid (below_nx B6.out b7)
    clear b7
    go_wp2_with fail
    refine (HAw.out _).mono ?_
    rintro e w8 ⟨rfl, b8⟩
    go_wp2
    go_ret
    exact ⟨rfl, below_nx B7.out b8⟩

theorem chB_two (n : Nat) (a b : Int) : chordsB n [a, b] = (chordsB n [a] && chordsB n [b]) := by unfold chordsB; simp

set_option maxHeartbeats 2000000 in
theorem WheelsAlike_walk (n a b : Int) (w : World) (_wf : (Lit.int .i64 n).wf = true) (_wa : (Lit.int .i64 a).wf = true) (_wb : (Lit.int .i64 b).wf = true) :
    Calls Try.prog 7 #[.int .i64 n, .int .i64 a, .int .i64 b] w fun e w' => e = .returned (.bool true) ∧ Below w.heap.size w w' := by
  have HAw := Lib.hid (fun W => wawake_any W)
  have HVa := Lib.hid (fun W => RValid_any n a W)
  have HVb := Lib.hid (fun W => RValid_any n b W)
  cases ha : (circB n && chordsB n.toNat [a])
  · rw [ha] at HVa
    have HA := Lib.hid (fun W => Alike_bad n a b (by rw [chB_two, ← Bool.and_assoc, ha, Bool.false_and]) W)
    clear ha
    go_enter Try.func7, Try.ntmps7
    go_wp2_with fail
    refine (HA.out _).mono ?_
    rintro e w1 ⟨rfl, b1⟩
    have B1 := Lib.hid b1
    clear b1
    go_wp2_with fail
    refine (HVa.out _).mono ?_
    rintro e w4 ⟨rfl, rfl⟩
    go_wp2_with fail
    refine (HAw.out _).mono ?_
    rintro e w5 ⟨rfl, b5⟩
    go_wp2
    go_ret
    exact ⟨rfl, below_nx B1.out b5⟩
  · rw [ha] at HVa
    cases hb : (circB n && chordsB n.toNat [b])
    · rw [hb] at HVb
      have hx : chordsB n.toNat [b] = false := by
        rw [Bool.and_eq_true] at ha
        rw [ha.1, Bool.true_and] at hb
        exact hb
      have HA := Lib.hid (fun W => Alike_bad n a b (by rw [chB_two, hx, Bool.and_false, Bool.and_false]) W)
      clear ha hb hx
      go_enter Try.func7, Try.ntmps7
      go_wp2_with fail
      refine (HA.out _).mono ?_
      rintro e w1 ⟨rfl, b1⟩
      have B1 := Lib.hid b1
      clear b1
      go_wp2_with fail
      refine (HVa.out _).mono ?_
      rintro e w4 ⟨rfl, rfl⟩
      go_wp2_with fail
      refine (HVb.out _).mono ?_
      rintro e w4 ⟨rfl, rfl⟩
      go_wp2_with fail
      refine (HAw.out _).mono ?_
      rintro e w5 ⟨rfl, b5⟩
      go_wp2
      go_ret
      exact ⟨rfl, below_nx B1.out b5⟩
    · rw [hb] at HVb
      obtain ⟨m, k, rfl, rfl, hm, hk⟩ := goodC ha
      obtain ⟨m', j, hmm, rfl, _, hj⟩ := goodC hb
      have hj : j < 2 ^ m := by rw [show m = m' by omega]; exact hj
      have HA := Lib.hid (fun W => Alike_ok m hm k j hk hj W)
      have HR := Lib.hid (fun W => RAlike_any m hm k j hk hj W)
      clear ha hb hm hk hj hmm
      generalize ((List.range 16).all fun x => poF m (chF m k) x == poF m (chF m j) x) = fb at *
      have hfb : (fb == fb) = true := beq_self_eq_true _
      go_enter Try.func7, Try.ntmps7
      go_wp2_with fail
      refine (HA.out _).mono ?_
      rintro e w1 ⟨rfl, b1⟩
      have B1 := Lib.hid b1
      clear b1
      go_wp2_with fail
      refine (HVa.out _).mono ?_
      rintro e w4 ⟨rfl, rfl⟩
      go_wp2_with fail
      refine (HVb.out _).mono ?_
      rintro e w4 ⟨rfl, rfl⟩
      go_wp2_with fail
      refine (HR.out _).mono ?_
      rintro e w6 ⟨rfl, b6⟩
      have B6 := Lib.hid (below_nx B1.out b6)
      clear b6
      go_wp2_with fail
      refine (HAw.out _).mono ?_
      rintro e w5 ⟨rfl, b5⟩
      go_wp2
      go_ret
      exact ⟨rfl, below_nx B6.out b5⟩
end Go.Proofs.Ytcgaaebogkhefaa
