/-
  The statement on prices: both ways round, 0, multiples.
-/
import Derived.Test.YtkpmkeklopfhdaaEdCost
import Derived.Test.YtkpmkeklopfhdaaEdTriLaw
namespace Go.Proofs.Ytkpmkeklopfhdaa
open Go.ChangeShapes Go.WideShapes Go.ChangeAt Go.RowKit
set_option linter.unusedVariables false
set_option maxRecDepth 100000

theorem umod4 (x : Int) : ∃ u : Nat, (IntKind.u64.wrap x).tmod 4 = (u : Int) ∧ u < 4 := by
  have e : IntKind.u64.wrap x = x % 18446744073709551616 := IntKind.wrap_u64 x
  obtain ⟨U, hU⟩ : ∃ U : Nat, x % 18446744073709551616 = (U : Int) := Int.eq_ofNat_of_zero_le (by omega)
  exact ⟨U % 4, by rw [e, hU, Int.tmod_eq_emod_of_nonneg (by omega)]; simp, Nat.mod_lt _ (by omega)⟩
theorem mul_small {x m : Nat} (h : x ≤ 9) (hm : m ≤ 4) : wrap64 ((x : Int) * (m : Int)) = ((x * m : Nat) : Int) ∧ (x : Int) * (m : Int) = ((x * m : Nat) : Int) := by
  have h1 : x * m ≤ 9 * 4 := Nat.mul_le_mul h hm
  have e : (x : Int) * (m : Int) = ((x * m : Nat) : Int) := by push_cast; rfl
  rw [e]
  exact ⟨by unfold wrap64; omega, rfl⟩

theorem small_wrap {u : Nat} (h : u < 10) : IntKind.i64.wrap (u : Int) = (u : Int) ∧ wrap64 (u : Int) = (u : Int) ∧ wrap64 ((1 : Int) + (u : Int)) = ((1 + u : Nat) : Int) ∧ (1 : Int) + (u : Int) = ((1 + u : Nat) : Int) :=
  ⟨IntWalk.i64_in _ (by omega), by unfold wrap64; omega, by unfold wrap64; omega, by push_cast; rfl⟩

set_option maxHeartbeats 4000000 in
theorem EditsPrices_walk (a b : ByteArray) (pi po ps n : Int) (_ : a.size ≤ maxLen) (_ : b.size ≤ maxLen) (_ : (Lit.int .i64 pi).wf = true) (_ : (Lit.int .i64 po).wf = true) (_ : (Lit.int .i64 ps).wf = true) (_ : (Lit.int .i64 n).wf = true) (w : World) :
    Calls Try.prog 12 #[.string a, .string b, pv pi po ps, .int .i64 n] w fun e w' => e = .returned (.bool true) ∧ Below w.heap.size w w' := by
  have HAw := Lib.hid (fun W => awake_any W)
  have hmx : Try.prog.follows .mixedOrders = true := by kernel_rfl
  have hgt := good_text a b pi po ps
  obtain ⟨W0, hW0⟩ : ∃ W0, w.alloc (.cells #[.int .i64 pi, .int .i64 po, .int .i64 ps] 23) = W0 := ⟨_, rfl⟩
  have hB0 : Below w.heap.size w W0 := by rw [← hW0]; exact bl_al (Below.refl _ w) _
  have p0 : W0.cell? ⟨w.heap.size, 0, none⟩ = some (.int .i64 pi) := by rw [← hW0]; simp
  have p1 : W0.cell? ⟨w.heap.size, 1, none⟩ = some (.int .i64 po) := by rw [← hW0]; simp
  have p2 : W0.cell? ⟨w.heap.size, 2, none⟩ = some (.int .i64 ps) := by rw [← hW0]; simp
  have HB0 := Lib.hid hB0
  clear hB0
  cases hg : goodB a b pi po ps
  · rw [hg] at hgt
    have HO := Lib.hid (fun W => Of_any pi po ps W)
    have HC := Lib.hid (fun W => Cost_bad _ _ pi po ps hgt W)
    clear hgt hg
    go_enter Try.func12, Try.ntmps12
    go_wp2_with fail
    try rw [hW0]
    refine region_calm hmx (by kernel_rfl) ?_
    intro S hSn f hS1 hS2
    have l0 := fun s => cell_later (hS1 s) p0
    have l1 := fun s => cell_later (hS1 s) p1
    have l2 := fun s => cell_later (hS1 s) p2
    have hT1 := Lib.hid (calm_call0 (fun s => text_any a (f s)))
    have hT2 := Lib.hid (calm_call0 (fun s => text_any b (f s)))
    have hO := Lib.hid (calm_call hS1 hS2 (fun s => HO.out (f s)))
    have hC := Lib.hid (calm_call hS1 hS2 (fun s => HC.out (f s)))
    repeat (go_big_quiet_step (first | exact hT1.out _ | exact hT2.out _ | exact hO.out _ | exact hC.out _))
    refine wpQuiet_nil ?_
    rintro _ ⟨s, rfl⟩
    have b1 := hS1 s
    clear l0 l1 l2 hT1 hT2 hO hC
    generalize f s = u1 at b1 ⊢
    clear hS1 hS2
    replace p0 := cell_later b1 p0
    replace p1 := cell_later b1 p1
    replace p2 := cell_later b1 p2
    have B1 := Lib.hid (below_nx HB0.out b1)
    clear b1
    try dsimp only [Exit.then]
    go_wp2_with fail
    refine (HAw.out _).mono ?_
    rintro e uz ⟨rfl, bz⟩
    go_wp2
    go_ret
    exact ⟨rfl, below_nx B1.out bz⟩
  · rw [hg] at hgt
    obtain ⟨g1, g2, g3⟩ := good_iff.1 hg
    have HF := Lib.hid (fun W => fine_any a b pi po ps W)
    rw [fine_good, hg] at HF
    obtain ⟨x, y, z, rfl, rfl, rfl, hp, x1, y1, z1⟩ := priced_nat g1
    have HO := Lib.hid (fun W => Of_any x y z W)
    have HC := Lib.hid (fun W => Cost_ok _ _ x y z hgt W)
    rw [text_id g2, text_id g3] at HC
    have HC2 := Lib.hid (fun W => Cost_ok b a y x z (good_iff.2 ⟨by rw [priced_iff] at g1 ⊢; omega, g3, g2⟩) W)
    rw [cst_sym a b hp] at HC2
    obtain ⟨u, hu, hu4⟩ := umod4 n
    obtain ⟨m, hm⟩ : ∃ m, m = 1 + u := ⟨_, rfl⟩
    obtain ⟨e1, e1b⟩ := mul_small (x := x) (m := m) hp.i (by omega)
    obtain ⟨e2, e2b⟩ := mul_small (x := y) (m := m) hp.o (by omega)
    obtain ⟨e3, e3b⟩ := mul_small (x := z) (m := m) hp.s (by omega)
    have HQ := Lib.hid (fun W => RValid_any (x * m : Nat) (y * m : Nat) (z * m : Nat) W)
    have HO2 := Lib.hid (fun W => Of_any (x * m : Nat) (y * m : Nat) (z * m : Nat) W)
    have HC3 : Hid (∀ W, pricedB (x * m : Nat) (y * m : Nat) (z * m : Nat) = true → Calls Try.prog 18 #[.string a, .string b, pv (x * m : Nat) (y * m : Nat) (z * m : Nat)] W fun e w' => e = .returned (.tuple #[.int .i64 (cst a b x y z * (m : Int)), .int .i64 0]) ∧ Below W.heap.size W w') := Lib.hid (fun W hq => by
      have h := Cost_ok a b (x * m) (y * m) (z * m) (good_iff.2 ⟨hq, g2, g3⟩) W
      have hr := (priced_iff _ _ _).1 hq
      rw [cst_mul a b hp ⟨by omega, by omega, by omega⟩] at h
      exact h)
    have k1 := cst_bd hp g2 g3
    have k0 := cst_zero a b hp x1 y1 z1
    have HTa := Lib.hid (text_id g2)
    have HTb := Lib.hid (text_id g3)
    have hbb : ((cst a b x y z == 0) = (a.toList == b.toList)) := by rw [str_eq]; by_cases h : a = b; (rw [k0.2 h, h]; simp); (have h2 : ¬ cst a b x y z = 0 := fun e => h (k0.1 e); have h3 : ¬ bsN a = bsN b := fun e => h (bsN_inj e); simp [h2, h3])
    have hmm : wrap64 (cst a b x y z * (m : Int)) = cst a b x y z * (m : Int) := by
      have : cst a b x y z * (m : Int) ≤ 216 * 4 := Int.mul_le_mul k1.2 (by omega) (by omega) (by omega)
      have : 0 ≤ cst a b x y z * (m : Int) := Int.mul_nonneg k1.1 (by omega)
      unfold wrap64; omega
    generalize cst a b x y z = X at *
    obtain ⟨Xm, hXm⟩ : ∃ Xm, X * (m : Int) = Xm := ⟨_, rfl⟩
    rw [hXm] at HC3 hmm
    have hlt : decide (X < 0) = false := decide_eq_false (by omega)
    obtain ⟨hu2, hu3, hm2, hm1⟩ := small_wrap (Nat.lt_of_lt_of_le hu4 (by decide))
    rw [← hm] at hm1 hm2
    have hwm := (small_wrap (u := m) (by rw [hm]; exact Nat.lt_of_lt_of_le (Nat.add_lt_add_left hu4 1) (by decide))).2.1
    generalize (x * m : Nat) = X1 at *
    generalize (y * m : Nat) = X2 at *
    generalize (z * m : Nat) = X3 at *
    rw [e1b] at e1
    rw [e2b] at e2
    rw [e3b] at e3
    generalize hbe : (a.toList == b.toList) = be at *
    clear hgt hg g1 g2 g3 hp x1 y1 z1 k0 hm hu4
    go_enter Try.func12, Try.ntmps12
    go_wp2_with fail
    try rw [hW0]
    refine region_calm hmx (by kernel_rfl) ?_
    intro S hSn f hS1 hS2
    have l0 := fun s => cell_later (hS1 s) p0
    have l1 := fun s => cell_later (hS1 s) p1
    have l2 := fun s => cell_later (hS1 s) p2
    have hT1 := Lib.hid (calm_call0 (fun s => by have h := text_any a (f s); rw [HTa.out] at h; exact h))
    have hT2 := Lib.hid (calm_call0 (fun s => by have h := text_any b (f s); rw [HTb.out] at h; exact h))
    have hO := Lib.hid (calm_call hS1 hS2 (fun s => HO.out (f s)))
    have hC := Lib.hid (calm_call hS1 hS2 (fun s => HC.out (f s)))
    repeat (go_big_quiet_step (first | exact hT1.out _ | exact hT2.out _ | exact hO.out _ | exact hC.out _))
    refine wpQuiet_nil ?_
    rintro _ ⟨s, rfl⟩
    have b1 := hS1 s
    clear l0 l1 l2 hT1 hT2 hO hC
    generalize f s = u1 at b1 ⊢
    clear hS1 hS2
    replace p0 := cell_later b1 p0
    replace p1 := cell_later b1 p1
    replace p2 := cell_later b1 p2
    have B1 := Lib.hid (below_nx HB0.out b1)
    clear b1
    try dsimp only [Exit.then]
    go_wp2_with fail
    refine (HF.out _).mono ?_
    rintro e u2 ⟨rfl, b2⟩
    replace p0 := cell_later b2 p0
    replace p1 := cell_later b2 p1
    replace p2 := cell_later b2 p2
    have B2 := Lib.hid (below_nx B1.out b2)
    clear b2
    go_wp2_with fail
    refine (HC2.out _).mono ?_
    rintro e u3 ⟨rfl, b3⟩
    replace p0 := cell_later b3 p0
    replace p1 := cell_later b3 p1
    replace p2 := cell_later b3 p2
    have B3 := Lib.hid (below_nx B2.out b3)
    clear b3
    have q0 : (u3.alloc (.cells #[.int .i64 (X1 : Int), .int .i64 (X2 : Int), .int .i64 (X3 : Int)] 23)).cell? ⟨u3.heap.size, 0, none⟩ = some (.int .i64 (X1 : Int)) := by simp
    have q1 : (u3.alloc (.cells #[.int .i64 (X1 : Int), .int .i64 (X2 : Int), .int .i64 (X3 : Int)] 23)).cell? ⟨u3.heap.size, 1, none⟩ = some (.int .i64 (X2 : Int)) := by simp
    have q2 : (u3.alloc (.cells #[.int .i64 (X1 : Int), .int .i64 (X2 : Int), .int .i64 (X3 : Int)] 23)).cell? ⟨u3.heap.size, 2, none⟩ = some (.int .i64 (X3 : Int)) := by simp
    have Bq := Lib.hid (bl_al B3.out (.cells #[.int .i64 (X1 : Int), .int .i64 (X2 : Int), .int .i64 (X3 : Int)] 23))
    go_wp2_with fail
    refine (HQ.out _).mono ?_
    rintro e u4 ⟨rfl, b4⟩
    replace q0 := cell_later b4 q0
    replace q1 := cell_later b4 q1
    replace q2 := cell_later b4 q2
    have B4 := Lib.hid (below_nx Bq.out b4)
    clear b4
    cases hq : pricedB (X1 : Int) (X2 : Int) (X3 : Int)
    · try rw [hq]
      go_wp2_with fail
      refine (HAw.out _).mono ?_
      rintro e uz ⟨rfl, bz⟩
      go_wp2
      go_ret
      exact ⟨rfl, below_nx B4.out bz⟩
    · try rw [hq]
      replace HC3 := Lib.hid (fun W => HC3.out W hq)
      go_wp2_with fail
      refine (HO2.out _).mono ?_
      rintro e u5 ⟨rfl, b5⟩
      replace q0 := cell_later b5 q0
      replace q1 := cell_later b5 q1
      replace q2 := cell_later b5 q2
      have B5 := Lib.hid (below_nx B4.out b5)
      clear b5
      go_wp2_with fail
      refine (HC3.out _).mono ?_
      rintro e u6 ⟨rfl, b6⟩
      replace q0 := cell_later b6 q0
      replace q1 := cell_later b6 q1
      replace q2 := cell_later b6 q2
      have B6 := Lib.hid (below_nx B5.out b6)
      clear b6
      go_wp2_with fail
      refine (HAw.out _).mono ?_
      rintro e uz ⟨rfl, bz⟩
      go_wp2
      go_ret
      exact ⟨rfl, below_nx B6.out bz⟩
end Go.Proofs.Ytkpmkeklopfhdaa
