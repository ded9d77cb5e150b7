/-
  The statement on roots: Roots, First, Second and Build of package canon.
-/
import Derived.Test.YtmcdelabcmnfiaaDoorCaRefBuild
import Derived.Test.YtmcdelabcmnfiaaDoorCaEnter
import Derived.Test.YtmcdelabcmnfiaaDoorEqInts
import Derived.WalkSmall
namespace Go.Proofs.YtmcdelabcmnfiaaDoor
open Go.RowKit Go.Shelf
attribute [local go_sem] Oper.semAt_some
set_option maxRecDepth 100000

theorem awakeR_any (w : World) (hT : Tab w) : Calls Tryd.prog 25 #[] w fun e w' => e = .returned (.bool true) ∧ Below w.heap.size w w' := by
  have HT := Lib.hid (Tiles_ok 2 3 1 (by omega) (by omega) (by omega) (by omega) (by omega) (by omega) w hT)
  have e : tileB 2 3 1 = true := by decide +kernel
  rw [e] at HT
  clear e
  go_enter Tryd.func25, Tryd.ntmps25
  go_wp2_with fail
  refine HT.out.mono ?_
  rintro e w1 ⟨rfl, b1⟩
  go_wp2
  go_ret
  exact ⟨rfl, b1⟩

theorem EqIntsR_any {v u : Value} {lo lo' : Nat} {xs : List Nat} {w : World} (hl : xs.length < 2 ^ 40) (h : IntsAt w lo v xs) (k : IntsAt w lo' u xs) : Calls Tryd.prog 13 #[v, u] w fun e w' => e = .returned (.bool true) ∧ Below w.heap.size w w' := by
  have z : ∀ (p q : Option Addr) (c d : Nat), Calls Tryd.prog 13 #[.slice p 0 c, .slice q 0 d] w fun e w' => e = .returned (.bool true) ∧ Below w.heap.size w w' := fun p q c d =>
    (Tryd.slices_Equal_int_empty p q c 0 d w (by omega)).mono (fun e w' h => ⟨by rw [h.1]; rfl, by rw [h.2]; exact Below.refl _ _⟩)
  rcases h with ⟨rfl, rfl⟩ | ⟨g, cap, rfl, _, hg⟩ <;> rcases k with ⟨rfl, h0⟩ | ⟨g', cap', rfl, _, hg'⟩
  · exact z _ _ _ _
  · exact z _ _ _ _
  · subst h0; exact z _ _ _ _
  · refine (EqualInts_same xs g g' cap cap' w hl hg hg').mono ?_
    rintro e w' ⟨rfl, m, rfl⟩
    exact ⟨rfl, below_drewN (Below.refl _ _) m⟩

set_option maxHeartbeats 2000000 in
theorem CanonRoots_walk (n a : Int) (_w0 : (Lit.int .i64 n).wf = true) (_w1 : (Lit.int .i64 a).wf = true) (w : World) (hT : Tab w) :
    Calls Tryd.prog 5 #[.int .i64 n, .int .i64 a] w fun e w' => e = .returned (.bool true) ∧ Below w.heap.size w w' := by
  have HTb := Lib.hid (fun W (h : Below w.heap.size w W) => hT.same h)
  have HAw := Lib.hid (fun W (h : Tab W) => awakeR_any W h)
  have HRh := Lib.hid (Rhythm_any n a)
  clear hT
  cases hv : vldB n a
  · rw [hv] at HRh
    have H1 := Lib.hid (Roots_bad n a hv)
    have H2 := Lib.hid (First_bad n a hv)
    have H3 := Lib.hid (Second_bad n a hv)
    have H4 := Lib.hid (Build_bad n a hv)
    clear hv
    go_enter Tryd.func5, Tryd.ntmps5
    go_wp2_with fail
    refine (H1.out _).mono ?_
    rintro e w1 ⟨rfl, b1⟩
    have c1 := b1
    go_wp2_with fail
    refine (H2.out _).mono ?_
    rintro e w2 ⟨rfl, b2⟩
    have c2 := below_next c1 b2
    go_wp2_with fail
    refine (H3.out _).mono ?_
    rintro e w3 ⟨rfl, b3⟩
    have c3 := below_next c2 b3
    go_wp2_with fail
    refine (H4.out _).mono ?_
    rintro e w4 ⟨rfl, b4⟩
    have c4 := below_next c3 b4
    go_wp2_with fail
    refine (HRh.out _).mono ?_
    rintro e w5 ⟨rfl, b5⟩
    have c5 : Below w.heap.size w w5 := by rw [← b5]; exact c4
    have HA5 := Lib.hid (HAw.out w5 (HTb.out _ c5))
    go_wp2_with fail
    refine HA5.out.mono ?_
    rintro e w6 ⟨rfl, b6⟩
    go_wp2
    go_ret
    exact ⟨rfl, below_next c5 b6⟩
  · rw [hv] at HRh
    obtain ⟨n, a, rfl, rfl, h1, h2, ha, ha1⟩ := vldB_nat hv
    have H1 := Lib.hid (fun W h => Roots_ok n a h1 h2 ha ha1 W h)
    have H2 := Lib.hid (fun W h => First_ok n a h1 h2 ha ha1 W h)
    have H3 := Lib.hid (fun W h => Second_ok n a h1 h2 ha ha1 W h)
    have H4 := Lib.hid (fun W h => Build_ok n a h1 h2 ha ha1 W h)
    have R1 := Lib.hid (fun W => RRoots_any n a h1 h2 ha W)
    have R2 := Lib.hid (fun W => RFirst_any n a h1 h2 ha W)
    have R3 := Lib.hid (fun W => RSecond_any n a h1 h2 ha W)
    have R4 := Lib.hid (fun W => RBuild_any n a h1 h2 ha W)
    have HLn : Hid ((rootsL n a).length < 2 ^ 40) := Lib.hid (by have := rootsL_len n a; omega)
    obtain ⟨L, hL⟩ : ∃ L, rootsL n a = L := ⟨_, rfl⟩
    rw [hL] at H1 R1 HLn
    generalize buildN n a = bn at *
    generalize firstB n a = fb at *
    generalize secondB n a = sb at *
    clear hv ha ha1 hL h1 h2 _w0 _w1
    rcases fb <;> rcases sb
    · simp only [Bool.and_self, Bool.and_false, Bool.and_true, Bool.false_and, Bool.true_and, Bool.false_eq_true, if_true, if_false] at H4 R4
      go_enter Tryd.func5, Tryd.ntmps5
      have HP1 := Lib.hid (H1.out w (HTb.out _ (Below.refl _ _)))
      go_wp2_with fail
      refine HP1.out.mono ?_
      rintro e w1 ⟨v, rfl, hI, b1⟩
      have c1 := b1
      have HP2 := Lib.hid (H2.out w1 (HTb.out _ c1))
      go_wp2_with fail
      refine HP2.out.mono ?_
      rintro e w2 ⟨rfl, b2⟩
      have c2 := below_next c1 b2
      have hI := hI.later b2
      have HP3 := Lib.hid (H3.out w2 (HTb.out _ c2))
      go_wp2_with fail
      refine HP3.out.mono ?_
      rintro e w3 ⟨rfl, b3⟩
      have c3 := below_next c2 b3
      have hI := hI.later b3
      have HP4 := Lib.hid (H4.out w3 (HTb.out _ c3))
      go_wp2_with fail
      refine HP4.out.mono ?_
      rintro e w4 ⟨rfl, b4⟩
      have c4 := below_next c3 b4
      have hI := hI.later b4
      clear b1 b2 b3 b4 HP1 HP2 HP3 HP4 c1 c2 c3
      go_wp2_with fail
      refine (HRh.out _).mono ?_
      rintro e w5 ⟨rfl, b5⟩
      have c5 : Below w.heap.size w w5 := by rw [← b5]; exact c4
      have b5' : Below w4.heap.size w4 w5 := by rw [← b5]; exact Below.refl _ _
      have hI := hI.later b5'
      clear b5 b5'
      go_wp2_with fail
      refine (R4.out _).mono ?_
      rintro e w6 ⟨rfl, b6⟩
      have c6 := below_next c5 b6
      have hI := hI.later b6
      clear b6 c4 c5
      go_wp2_with fail
      refine (R1.out _).mono ?_
      rintro e w7 ⟨u, rfl, hJ, b7⟩
      have c7 := below_next c6 b7
      have hI := hI.later b7
      have HEq := Lib.hid (EqIntsR_any (w := w7) HLn.out hI hJ)
      clear hI hJ b7 c6
      go_wp2_with fail
      refine HEq.out.mono ?_
      rintro e w8 ⟨rfl, b8⟩
      have c8 := below_next c7 b8
      go_wp2_with fail
      refine (R2.out _).mono ?_
      rintro e w9 ⟨rfl, b9⟩
      have c9 := below_next c8 b9
      go_wp2_with fail
      refine (R3.out _).mono ?_
      rintro e w10 ⟨rfl, b10⟩
      have c10 := below_next c9 b10
      have HA5 := Lib.hid (HAw.out w10 (HTb.out _ c10))
      go_wp2_with fail
      refine HA5.out.mono ?_
      rintro e w11 ⟨rfl, b11⟩
      go_wp2
      go_ret
      exact ⟨rfl, below_next c10 b11⟩
    · simp only [Bool.and_self, Bool.and_false, Bool.and_true, Bool.false_and, Bool.true_and, Bool.false_eq_true, if_true, if_false] at H4 R4
      go_enter Tryd.func5, Tryd.ntmps5
      have HP1 := Lib.hid (H1.out w (HTb.out _ (Below.refl _ _)))
      go_wp2_with fail
      refine HP1.out.mono ?_
      rintro e w1 ⟨v, rfl, hI, b1⟩
      have c1 := b1
      have HP2 := Lib.hid (H2.out w1 (HTb.out _ c1))
      go_wp2_with fail
      refine HP2.out.mono ?_
      rintro e w2 ⟨rfl, b2⟩
      have c2 := below_next c1 b2
      have hI := hI.later b2
      have HP3 := Lib.hid (H3.out w2 (HTb.out _ c2))
      go_wp2_with fail
      refine HP3.out.mono ?_
      rintro e w3 ⟨rfl, b3⟩
      have c3 := below_next c2 b3
      have hI := hI.later b3
      have HP4 := Lib.hid (H4.out w3 (HTb.out _ c3))
      go_wp2_with fail
      refine HP4.out.mono ?_
      rintro e w4 ⟨rfl, b4⟩
      have c4 := below_next c3 b4
      have hI := hI.later b4
      clear b1 b2 b3 b4 HP1 HP2 HP3 HP4 c1 c2 c3
      go_wp2_with fail
      refine (HRh.out _).mono ?_
      rintro e w5 ⟨rfl, b5⟩
      have c5 : Below w.heap.size w w5 := by rw [← b5]; exact c4
      have b5' : Below w4.heap.size w4 w5 := by rw [← b5]; exact Below.refl _ _
      have hI := hI.later b5'
      clear b5 b5'
      go_wp2_with fail
      refine (R4.out _).mono ?_
      rintro e w6 ⟨rfl, b6⟩
      have c6 := below_next c5 b6
      have hI := hI.later b6
      clear b6 c4 c5
      go_wp2_with fail
      refine (R1.out _).mono ?_
      rintro e w7 ⟨u, rfl, hJ, b7⟩
      have c7 := below_next c6 b7
      have hI := hI.later b7
      have HEq := Lib.hid (EqIntsR_any (w := w7) HLn.out hI hJ)
      clear hI hJ b7 c6
      go_wp2_with fail
      refine HEq.out.mono ?_
      rintro e w8 ⟨rfl, b8⟩
      have c8 := below_next c7 b8
      go_wp2_with fail
      refine (R2.out _).mono ?_
      rintro e w9 ⟨rfl, b9⟩
      have c9 := below_next c8 b9
      go_wp2_with fail
      refine (R3.out _).mono ?_
      rintro e w10 ⟨rfl, b10⟩
      have c10 := below_next c9 b10
      have HA5 := Lib.hid (HAw.out w10 (HTb.out _ c10))
      go_wp2_with fail
      refine HA5.out.mono ?_
      rintro e w11 ⟨rfl, b11⟩
      go_wp2
      go_ret
      exact ⟨rfl, below_next c10 b11⟩
    · simp only [Bool.and_self, Bool.and_false, Bool.and_true, Bool.false_and, Bool.true_and, Bool.false_eq_true, if_true, if_false] at H4 R4
      go_enter Tryd.func5, Tryd.ntmps5
      have HP1 := Lib.hid (H1.out w (HTb.out _ (Below.refl _ _)))
      go_wp2_with fail
      refine HP1.out.mono ?_
      rintro e w1 ⟨v, rfl, hI, b1⟩
      have c1 := b1
      have HP2 := Lib.hid (H2.out w1 (HTb.out _ c1))
      go_wp2_with fail
      refine HP2.out.mono ?_
      rintro e w2 ⟨rfl, b2⟩
      have c2 := below_next c1 b2
      have hI := hI.later b2
      have HP3 := Lib.hid (H3.out w2 (HTb.out _ c2))
      go_wp2_with fail
      refine HP3.out.mono ?_
      rintro e w3 ⟨rfl, b3⟩
      have c3 := below_next c2 b3
      have hI := hI.later b3
      have HP4 := Lib.hid (H4.out w3 (HTb.out _ c3))
      go_wp2_with fail
      refine HP4.out.mono ?_
      rintro e w4 ⟨rfl, b4⟩
      have c4 := below_next c3 b4
      have hI := hI.later b4
      clear b1 b2 b3 b4 HP1 HP2 HP3 HP4 c1 c2 c3
      go_wp2_with fail
      refine (HRh.out _).mono ?_
      rintro e w5 ⟨rfl, b5⟩
      have c5 : Below w.heap.size w w5 := by rw [← b5]; exact c4
      have b5' : Below w4.heap.size w4 w5 := by rw [← b5]; exact Below.refl _ _
      have hI := hI.later b5'
      clear b5 b5'
      go_wp2_with fail
      refine (R4.out _).mono ?_
      rintro e w6 ⟨rfl, b6⟩
      have c6 := below_next c5 b6
      have hI := hI.later b6
      clear b6 c4 c5
      go_wp2_with fail
      refine (R1.out _).mono ?_
      rintro e w7 ⟨u, rfl, hJ, b7⟩
      have c7 := below_next c6 b7
      have hI := hI.later b7
      have HEq := Lib.hid (EqIntsR_any (w := w7) HLn.out hI hJ)
      clear hI hJ b7 c6
      go_wp2_with fail
      refine HEq.out.mono ?_
      rintro e w8 ⟨rfl, b8⟩
      have c8 := below_next c7 b8
      go_wp2_with fail
      refine (R2.out _).mono ?_
      rintro e w9 ⟨rfl, b9⟩
      have c9 := below_next c8 b9
      go_wp2_with fail
      refine (R3.out _).mono ?_
      rintro e w10 ⟨rfl, b10⟩
      have c10 := below_next c9 b10
      have HA5 := Lib.hid (HAw.out w10 (HTb.out _ c10))
      go_wp2_with fail
      refine HA5.out.mono ?_
      rintro e w11 ⟨rfl, b11⟩
      go_wp2
      go_ret
      exact ⟨rfl, below_next c10 b11⟩
    · simp only [Bool.and_self, Bool.and_false, Bool.and_true, Bool.false_and, Bool.true_and, Bool.false_eq_true, if_true, if_false] at H4 R4
      go_enter Tryd.func5, Tryd.ntmps5
      have HP1 := Lib.hid (H1.out w (HTb.out _ (Below.refl _ _)))
      go_wp2_with fail
      refine HP1.out.mono ?_
      rintro e w1 ⟨v, rfl, hI, b1⟩
      have c1 := b1
      have HP2 := Lib.hid (H2.out w1 (HTb.out _ c1))
      go_wp2_with fail
      refine HP2.out.mono ?_
      rintro e w2 ⟨rfl, b2⟩
      have c2 := below_next c1 b2
      have hI := hI.later b2
      have HP3 := Lib.hid (H3.out w2 (HTb.out _ c2))
      go_wp2_with fail
      refine HP3.out.mono ?_
      rintro e w3 ⟨rfl, b3⟩
      have c3 := below_next c2 b3
      have hI := hI.later b3
      have HP4 := Lib.hid (H4.out w3 (HTb.out _ c3))
      go_wp2_with fail
      refine HP4.out.mono ?_
      rintro e w4 ⟨rfl, b4⟩
      have c4 := below_next c3 b4
      have hI := hI.later b4
      clear b1 b2 b3 b4 HP1 HP2 HP3 HP4 c1 c2 c3
      go_wp2_with fail
      refine (HRh.out _).mono ?_
      rintro e w5 ⟨rfl, b5⟩
      have c5 : Below w.heap.size w w5 := by rw [← b5]; exact c4
      have b5' : Below w4.heap.size w4 w5 := by rw [← b5]; exact Below.refl _ _
      have hI := hI.later b5'
      clear b5 b5'
      go_wp2_with fail
      refine (R4.out _).mono ?_
      rintro e w6 ⟨rfl, b6⟩
      have c6 := below_next c5 b6
      have hI := hI.later b6
      clear b6 c4 c5
      go_wp2_with fail
      refine (R1.out _).mono ?_
      rintro e w7 ⟨u, rfl, hJ, b7⟩
      have c7 := below_next c6 b7
      have hI := hI.later b7
      have HEq := Lib.hid (EqIntsR_any (w := w7) HLn.out hI hJ)
      clear hI hJ b7 c6
      go_wp2_with fail
      refine HEq.out.mono ?_
      rintro e w8 ⟨rfl, b8⟩
      have c8 := below_next c7 b8
      go_wp2_with fail
      refine (R2.out _).mono ?_
      rintro e w9 ⟨rfl, b9⟩
      have c9 := below_next c8 b9
      go_wp2_with fail
      refine (R3.out _).mono ?_
      rintro e w10 ⟨rfl, b10⟩
      have c10 := below_next c9 b10
      have HA5 := Lib.hid (HAw.out w10 (HTb.out _ c10))
      go_wp2_with fail
      refine HA5.out.mono ?_
      rintro e w11 ⟨rfl, b11⟩
      go_wp2
      go_ret
      exact ⟨rfl, below_next c10 b11⟩
end Go.Proofs.YtmcdelabcmnfiaaDoor
