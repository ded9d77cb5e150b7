/-
  The statement on single steps: Tones of package triads, and what a step keeps.
-/
import Derived.Test.YtibkhjbcagihbaaTrTonesFns
import Derived.Test.YtibkhjbcagihbaaTrStepMath
import Derived.BigRegion
namespace Go.Proofs.Ytibkhjbcagihbaa
open Go.ChangeShapes Go.WideShapes Go.ChangeAt Go.RowKit
set_option maxRecDepth 100000

theorem arrK_0 (W : World) : (Instr.index 66 (.agg #[.int .i64 0, .int .i64 2, .int .i64 1, .int .i64 2, .int .i64 0, .int .i64 1]) (.int .i64 0)).run Try.prog W = .ok (.agg #[.int .i64 0, .int .i64 2]) W := by kernel_rfl
theorem arrK_1 (W : World) : (Instr.index 66 (.agg #[.int .i64 0, .int .i64 2, .int .i64 1, .int .i64 2, .int .i64 0, .int .i64 1]) (.int .i64 1)).run Try.prog W = .ok (.agg #[.int .i64 1, .int .i64 2]) W := by kernel_rfl
theorem arrK_2 (W : World) : (Instr.index 66 (.agg #[.int .i64 0, .int .i64 2, .int .i64 1, .int .i64 2, .int .i64 0, .int .i64 1]) (.int .i64 2)).run Try.prog W = .ok (.agg #[.int .i64 0, .int .i64 1]) W := by kernel_rfl
theorem arr2_0 (x y : Int) (W : World) : (Instr.index 65 (.agg #[.int .i64 x, .int .i64 y]) (.int .i64 0)).run Try.prog W = .ok (.int .i64 x) W := by kernel_rfl
theorem arr2_1 (x y : Int) (W : World) : (Instr.index 65 (.agg #[.int .i64 x, .int .i64 y]) (.int .i64 1)).run Try.prog W = .ok (.int .i64 y) W := by kernel_rfl
theorem arrK_at {n a b t j L p q yp yq u : Nat} {B : Int} (h : SJ n a b t j L p q yp yq u B) (hj : j < 3) (W : World) :
    (Instr.index 66 (.agg #[.int .i64 0, .int .i64 2, .int .i64 1, .int .i64 2, .int .i64 0, .int .i64 1]) (.int .i64 j)).run Try.prog W = .ok (.agg #[.int .i64 p, .int .i64 q]) W := by
  obtain ⟨_, _, _, _, _, _, _, rfl, rfl, _⟩ := h
  rcases (show j = 0 ∨ j = 1 ∨ j = 2 by omega) with rfl | rfl | rfl
  · exact arrK_0 W
  · exact arrK_1 W
  · exact arrK_2 W
theorem arrB_at {n a b t j L p q yp yq u : Nat} {B : Int} (h : SJ n a b t j L p q yp yq u B) (hj : j < 3) (W : World) :
    (Instr.index 63 (.agg #[.int .i64 b, .int .i64 ((a : Int) + b), .int .i64 a]) (.int .i64 j)).run Try.prog W = .ok (.int .i64 B) W := by
  obtain ⟨rfl, _, rfl, _⟩ := h
  rcases (show j = 0 ∨ j = 1 ∨ j = 2 by omega) with rfl | rfl | rfl
  · exact arr3_0 _ _ _ W
  · exact arr3_1 _ _ _ W
  · exact arr3_2 _ _ _ W
theorem cell_drew {w : World} (m : Nat) {p : Addr} {v : Value} (h : w.cell? p = some v) : (w.drewN m).cell? p = some v := h
theorem three_cells {W : World} {T : Nat} {F : Nat → Value} (h0 : W.cell? ⟨T, 0, none⟩ = some (F 0)) (h1 : W.cell? ⟨T, 1, none⟩ = some (F 1)) (h2 : W.cell? ⟨T, 2, none⟩ = some (F 2)) {k : Nat} (hk : k < 3) : W.cell? ⟨T, k, none⟩ = some (F k) := by
  rcases (show k = 0 ∨ k = 1 ∨ k = 2 by omega) with rfl | rfl | rfl <;> assumption

set_option maxHeartbeats 4000000 in
theorem TriadsSteps_walk (n a b t : Int) (_ : (Lit.int .i64 n).wf = true) (_ : (Lit.int .i64 a).wf = true) (_ : (Lit.int .i64 b).wf = true) (_ : (Lit.int .i64 t).wf = true) (w : World) :
    Calls Try.prog 9 #[kv n a b, .int .i64 t] w fun e w' => e = .returned (.bool true) ∧ Below w.heap.size w w' := by
  have HO := Lib.hid (Of_any n a b)
  have HAw := Lib.hid awake_any
  obtain ⟨W0, hW0⟩ : ∃ W0, w.alloc (rcells n a b) = W0 := ⟨_, rfl⟩
  have c0 : Below w.heap.size w W0 := by rw [← hW0]; exact (Below.refl _ w).alloc (Nat.le_refl _) _
  have k0 : W0.cell? ⟨w.heap.size, 0, none⟩ = some (.int .i64 n) := by rw [← hW0]; simp
  have k1 : W0.cell? ⟨w.heap.size, 1, none⟩ = some (.int .i64 a) := by rw [← hW0]; simp
  have k2 : W0.cell? ⟨w.heap.size, 2, none⟩ = some (.int .i64 b) := by rw [← hW0]; simp
  have hW := Lib.hid hW0
  clear hW0
  cases hb : kindB n a b && triB n t
  · have HT := Lib.hid (Tones_bad n a b t hb)
    clear hb
    go_enter Try.func9, Try.ntmps9
    go_wp2_with fail
    rw [hW.out]
    refine (HO.out _).mono ?_
    rintro e w1 ⟨rfl, b1⟩
    have c1 := below_nx c0 b1
    go_wp2_with fail
    refine (HT.out _).mono ?_
    rintro e w2 ⟨rfl, b2⟩
    have c2 := below_nx c1 b2
    go_wp2_with fail
    refine (HAw.out _).mono ?_
    rintro e w3 ⟨rfl, b3⟩
    go_wp2
    go_ret
    exact ⟨rfl, below_nx c2 b3⟩
  · have hb' := hb
    rw [Bool.and_eq_true] at hb'
    obtain ⟨n, a, b, rfl, rfl, rfl, hk⟩ := kindB_nat hb'.1
    have ht : 0 ≤ t ∧ t < 2 * n := by have := hb'.2; unfold triB at this; exact of_decide_eq_true this
    obtain ⟨t, rfl⟩ := Int.eq_ofNat_of_zero_le ht.1
    have ht : t < 2 * n := by omega
    have h16 := hk.h16
    have h6 := hk.h6
    have hab := hk.hab
    have hbn := hk.hbn
    have HT := Lib.hid (fun t ht => Tones_ok n a b t hk ht)
    have HFi := Lib.hid (fine1 n a b t true hb)
    have HWk : Hid (∀ c, isLetN c = true → ∀ t, t < 2 * n → ∀ w, Calls Try.prog 15 #[kv n a b, .int .i64 t, .string (strOf [c])] w fun e w' => e = .returned (.tuple #[.int .i64 (stepN n a b t c : Nat), .int .i64 0]) ∧ Below w.heap.size w w') := Lib.hid (fun c hc t ht w => by
      have e1 : bsN (strOf [c]) = [c] := bsN_strOf _ (fun d hd => by rw [List.mem_singleton] at hd; subst hd; rcases (isLetN_iff d).1 hc with h | h | h <;> omega)
      have := Walk_ok n a b t hk ht (strOf [c]) (by rw [strOf_size]; unfold maxLen; simp) (by unfold walkB; rw [e1, strOf_size]; simp [hc]) w
      rw [e1] at this
      exact this)
    clear hb hb'
    by_cases hd : t < n
    · have HU := Lib.hid (fun c => step_light (c := c) hk hd)
      have HT0 := Lib.hid (tone0_eq n a b t hk ht)
      have HT1 := Lib.hid (tone_up (k := 1) hk hd)
      have HT2 := Lib.hid (tone_up (k := 2) hk hd)
      have HL := Lib.hid (toneN_lt hk t)
      have HSJ := Lib.hid (fun j (hj : j < 3) => sj_of hk ht hj)
      have HSl := Lib.hid (fun u => (show setT n a b u 3 < 65536 by
        have hpn : 2 ^ n ≤ 2 ^ 16 := Nat.pow_le_pow_right (by omega) h16
        have := setT_lt hk u 3
        omega))
      go_enter Try.func9, Try.ntmps9
      go_wp2_with fail
      rw [hW.out]
      refine (HO.out _).mono ?_
      rintro e w1 ⟨rfl, b1⟩
      have c1 := below_nx c0 b1
      have k0 := cell_later b1 k0
      have k1 := cell_later b1 k1
      have k2 := cell_later b1 k2
      go_wp2_with fail
      refine (HT.out t ht _).mono ?_
      rintro e w2 ⟨rfl, b2⟩
      have c2 := below_nx c1 b2
      have k0 := cell_later b2 k0
      have k1 := cell_later b2 k1
      have k2 := cell_later b2 k2
      have HFc := Lib.hid (HFi.out w2.heap.size 1 (w2.alloc (.cells #[.int .i64 t] 3)) (by simp))
      have bA : Below w2.heap.size w2 (w2.alloc (.cells #[.int .i64 t] 3)) := (Below.refl _ w2).alloc (Nat.le_refl _) _
      have c3 := c2.alloc c2.size (.cells #[.int .i64 t] 3)
      have k0 := cell_later bA k0
      have k1 := cell_later bA k1
      have k2 := cell_later bA k2
      clear b1 b2 bA
      go_wp2_with fail
      refine HFc.out.mono ?_
      rintro e w4 ⟨rfl, b4⟩
      have c4 := below_nx c3 b4
      have k0 := cell_later b4 k0
      have k1 := cell_later b4 k1
      have k2 := cell_later b4 k2
      clear b4
      obtain ⟨S0, hS0⟩ : ∃ S0, setT n a b t 3 = S0 := ⟨_, rfl⟩
      have HS0l := Lib.hid (HSl.out t)
      have HS0 := Lib.hid hS0
      rw [hS0] at HS0l
      rw [hS0]
      have hdI : ¬ ((n : Int) ≤ (t : Int)) := by omega
      have hdB : decide ((n : Int) ≤ (t : Int)) = false := decide_eq_false (by omega)
      have hnz : ((n : Int) == 0) = false := by rw [beq_eq_false_iff_ne]; omega
      obtain ⟨r, hr⟩ : ∃ r : Nat, toneN n a b t 0 = r := ⟨_, rfl⟩
      obtain ⟨y1, hy1⟩ : ∃ y : Nat, toneN n a b t 1 = y := ⟨_, rfl⟩
      obtain ⟨y2, hy2⟩ : ∃ y : Nat, toneN n a b t 2 = y := ⟨_, rfl⟩
      have hrl := HL.out 0
      have hy1l := HL.out 1
      have hy2l := HL.out 2
      have ht0 := HT0.out
      obtain ⟨z1, hz1, hz1a, hz1b, hz1c⟩ := mod_twice ((t : Int).tmod n + (offN a b 1 : Nat)) (n := n) (by omega)
      obtain ⟨z2, hz2, hz2a, hz2b, hz2c⟩ := mod_twice ((t : Int).tmod n + (offN a b 2 : Nat)) (n := n) (by omega)
      rw [HT1.out, hy1] at hz1c
      rw [HT2.out, hy2] at hz2c
      rw [ht0, hr, show ((offN a b 1 : Nat) : Int) = a from rfl] at hz1
      rw [ht0, hr, show ((offN a b 2 : Nat) : Int) = b from rfl] at hz2
      rw [hr] at ht0 hrl
      rw [hy1] at hy1l
      rw [hy2] at hy2l
      have HTT : Hid (∀ k, k < 3 → (Value.int .i64 (toneN n a b t k : Nat)) = (if k = 0 then Value.int .i64 r else if k = 1 then Value.int .i64 y1 else Value.int .i64 y2)) := Lib.hid (fun k hk3 => by
        rcases (show k = 0 ∨ k = 1 ∨ k = 2 by omega) with rfl | rfl | rfl
        · rw [hr]; rfl
        · rw [hy1]; rfl
        · rw [hy2]; rfl)
      have hrw : IntKind.i64.wrap ((t : Int).tmod n) = (r : Int) := by rw [ht0, IntKind.wrap_i64]; omega
      have Hr := Lib.hid hr
      clear HFc HFi hr hy1 hy2 hS0 HT0 HT1 HT2
      go_wp2
      go_quiet (fail)
      have c5 := below_drewN c4 nq
      have k0 : (w4.drewN nq).cell? ⟨w.heap.size, 0, none⟩ = some (.int .i64 n) := k0
      have k1 : (w4.drewN nq).cell? ⟨w.heap.size, 1, none⟩ = some (.int .i64 a) := k1
      have k2 : (w4.drewN nq).cell? ⟨w.heap.size, 2, none⟩ = some (.int .i64 b) := k2
      go_wp2
      generalize w4.drewN nq = w5 at *
      have bL : Below w5.heap.size w5 (w5.alloc (.cells #[.int .i64 0, .int .i64 0, .int .i64 0] 63)) := (Below.refl _ w5).alloc (Nat.le_refl _) _
      have q1 := cell_later bL k1
      have q2 := cell_later bL k2
      clear ht0 hrw bL
      go_region
      clear q1 q2 hz1 hz2 hz1c hz2c hz1a hz1b hz2a hz2b
      obtain ⟨T0, hT0⟩ : ∃ T0, w5.heap.size = T0 := ⟨_, rfl⟩
      obtain ⟨W6, hW6⟩ : ∃ W6, (w5.alloc (.cells #[.int .i64 r, .int .i64 y1, .int .i64 y2] 63)).drew = W6 := ⟨_, rfl⟩
      have b6 : Below w5.heap.size w5 W6 := by rw [← hW6]; exact ((Below.refl _ w5).alloc (Nat.le_refl _) _).drew
      have HZ : Hid (∀ k, k < 3 → W6.cell? ⟨T0, k, none⟩ = some (.int .i64 (toneN n a b t k : Nat))) := Lib.hid (fun k hk3 => by
        rw [HTT.out k hk3, ← hW6, ← hT0]
        rcases (show k = 0 ∨ k = 1 ∨ k = 2 by omega) with rfl | rfl | rfl
        · exact (show (w5.alloc _).cell? _ = _ by simp)
        · exact (show (w5.alloc _).cell? _ = _ by simp)
        · exact (show (w5.alloc _).cell? _ = _ by simp))
      rw [hW6, hT0]
      have c6 := below_nx c5 b6
      have k0 := cell_later b6 k0
      have k1 := cell_later b6 k1
      have k2 := cell_later b6 k2
      clear hW6 hT0 b6 c5 c4 c3 c2 c1 HTT
      obtain ⟨G, hG⟩ : ∃ G, W6.heap.size = G := ⟨_, rfl⟩
      obtain ⟨W7, hW7⟩ : ∃ W7, W6.alloc (.cells #[.string ⟨#[80]⟩, .string ⟨#[76]⟩, .string ⟨#[82]⟩] 9) = W7 := ⟨_, rfl⟩
      have b7 : Below W6.heap.size W6 W7 := by rw [← hW7]; exact (Below.refl _ W6).alloc (Nat.le_refl _) _
      have HGl : Hid (∀ j, j < 3 → W7.cell? ⟨G, j, none⟩ = some (.string (strOf [letP j]))) := Lib.hid (fun j hj3 => by
        rcases (show j = 0 ∨ j = 1 ∨ j = 2 by omega) with rfl | rfl | rfl
        · rw [← hW7, ← hG]; simp; rfl
        · rw [← hW7, ← hG]; simp; rfl
        · rw [← hW7, ← hG]; simp; rfl)
      have c7 := below_nx c6 b7
      have HK0 := Lib.hid (cell_later b7 k0)
      have HK1 := Lib.hid (cell_later b7 k1)
      have HK2 := Lib.hid (cell_later b7 k2)
      have HZ7 := Lib.hid (fun k hk3 => cell_later b7 (HZ.out k hk3))
      have HG := Lib.hid hG
      have HW7 := Lib.hid hW7
      clear b7 k0 k1 k2 hG hW7 c6 HZ
      go_wp2
      rw [HW7.out, HG.out]
      generalize decide (n ≤ t) = dz
      clear hdI hdB hd hnz
      go_loopw [81] (fun i wr => ∃ j : Nat, j ≤ 3 ∧ i = .int .i64 j ∧ Below W7.heap.size W7 wr) (fun i _ => 3 - (intOf i).toNat)
      case atStart => exact ⟨0, Nat.zero_le _, rfl, Below.refl _ _⟩
      case round =>
        obtain ⟨j, hj, rfl, hB⟩ := hrel
        have HB := Lib.hid hB
        have hnz : ((n : Int) == 0) = false := by rw [beq_eq_false_iff_ne]; omega
        have k0 := cell_later hB HK0.out
        have k1 := cell_later hB HK1.out
        have k2 := cell_later hB HK2.out
        by_cases hlt : j < 3
        · obtain ⟨L, p, q, yp, yq, u, B, sj⟩ := HSJ.out j hlt
          have g0 := cell_later hB (HGl.out j hlt)
          have zp := cell_later hB (HZ7.out p sj.hp)
          have zq := cell_later hB (HZ7.out q sj.hq)
          rw [sj.yp0] at zp
          rw [sj.yq0] at zq
          rw [← sj.L3] at g0
          have HW1 := Lib.hid (HWk.out L sj.isL t ht)
          have HW2 := Lib.hid (HWk.out L sj.isL u sj.hul)
          rw [sj.hu] at HW1
          rw [sj.hub] at HW2
          obtain ⟨ru, z, hru, hza, hzb, f1, f2, f3, f4, f5⟩ := HU.out L
          rw [sj.hu] at f1 f3
          rw [← sj.hB, Hr.out] at f4
          have HTu := Lib.hid (HT.out u sj.hul)
          have HVl := Lib.hid (HSl.out u)
          obtain ⟨V, hV⟩ : ∃ V, setT n a b u 3 = V := ⟨_, rfl⟩
          have hsp := sj.sp
          have hsq := sj.sq
          have hvp := sj.vp
          have hvq := sj.vq
          rw [HS0.out] at hsp hsq
          rw [hV] at HTu HVl hvp hvq
          have Hb := Lib.hid (And.intro (bit_and HS0l.out hsp) (And.intro (bit_and HS0l.out hsq) (And.intro (bit_and HVl.out hvp) (bit_and HVl.out hvq))))
          have hypn := sj.ypn
          have hyqn := sj.yqn
          have hp3 := sj.hp
          have hq3 := sj.hq
          have hB0 := sj.B0
          have hB1 := sj.B1
          have hul := sj.hul
          obtain ⟨P, hP⟩ : ∃ P, wr.heap.size = P := ⟨_, rfl⟩
          obtain ⟨W8, hW8⟩ : ∃ W8, wr.alloc (.cells #[.int .i64 p, .int .i64 q] 65) = W8 := ⟨_, rfl⟩
          have b8 : Below wr.heap.size wr W8 := by rw [← hW8]; exact (Below.refl _ wr).alloc (Nat.le_refl _) _
          have p0 : W8.cell? ⟨P, 0, none⟩ = some (.int .i64 p) := by rw [← hW8, ← hP]; simp
          have p1 : W8.cell? ⟨P, 1, none⟩ = some (.int .i64 q) := by rw [← hW8, ← hP]; simp
          have hx0 := arrB_at sj hlt W8
          have hy0 := arrK_at sj hlt wr
          have d8 := hB.trans (b8.mono hB.size)
          have k0 := cell_later b8 k0
          have k1 := cell_later b8 k1
          have k2 := cell_later b8 k2
          have zp := cell_later b8 zp
          have zq := cell_later b8 zq
          have g0 := cell_later b8 g0
          clear hB hV sj hsp hsq hvp hvq
          generalize strOf [L] = sL at *
          clear b8
          go_wp2_with fail
          refine (HO.out _).mono ?_
          rintro e w9 ⟨rfl, b9⟩
          have d9 := d8.trans (b9.mono d8.size)
          have k0 := cell_later b9 k0
          have k1 := cell_later b9 k1
          have k2 := cell_later b9 k2
          have zp := cell_later b9 zp
          have zq := cell_later b9 zq
          have p0 := cell_later b9 p0
          have p1 := cell_later b9 p1
          clear b9
          go_wp2_with fail
          refine (HW1.out _).mono ?_
          rintro e w10 ⟨rfl, b10⟩
          have d10 := d9.trans (b10.mono d9.size)
          have k0 := cell_later b10 k0
          have k1 := cell_later b10 k1
          have k2 := cell_later b10 k2
          have zp := cell_later b10 zp
          have zq := cell_later b10 zq
          have p0 := cell_later b10 p0
          have p1 := cell_later b10 p1
          clear b10
          go_wp2_with fail
          refine (HO.out _).mono ?_
          rintro e w11 ⟨rfl, b11⟩
          have d11 := d10.trans (b11.mono d10.size)
          have k0 := cell_later b11 k0
          have k1 := cell_later b11 k1
          have k2 := cell_later b11 k2
          have zp := cell_later b11 zp
          have zq := cell_later b11 zq
          have p0 := cell_later b11 p0
          have p1 := cell_later b11 p1
          clear b11
          go_wp2_with fail
          refine (HW2.out _).mono ?_
          rintro e w12 ⟨rfl, b12⟩
          have d12 := d11.trans (b12.mono d11.size)
          have k0 := cell_later b12 k0
          have k1 := cell_later b12 k1
          have k2 := cell_later b12 k2
          have zp := cell_later b12 zp
          have zq := cell_later b12 zq
          have p0 := cell_later b12 p0
          have p1 := cell_later b12 p1
          clear b12
          go_wp2_with fail
          refine (HO.out _).mono ?_
          rintro e w13 ⟨rfl, b13⟩
          have d13 := d12.trans (b13.mono d12.size)
          have k0 := cell_later b13 k0
          have k1 := cell_later b13 k1
          have k2 := cell_later b13 k2
          have zp := cell_later b13 zp
          have zq := cell_later b13 zq
          have p0 := cell_later b13 p0
          have p1 := cell_later b13 p1
          clear b13
          go_wp2_with fail
          refine (HTu.out _).mono ?_
          rintro e w14 ⟨rfl, b14⟩
          have d14 := d13.trans (b14.mono d13.size)
          have k0 := cell_later b14 k0
          have k1 := cell_later b14 k1
          have k2 := cell_later b14 k2
          have zp := cell_later b14 zp
          have zq := cell_later b14 zq
          have p0 := cell_later b14 p0
          have p1 := cell_later b14 p1
          clear b14
          have e1 : IntKind.i64.wrap ((u : Int).tdiv n) = 1 := by rw [f1]; rfl
          have e2 : IntKind.i64.wrap ((t : Int).tdiv n) = 0 := by rw [f2]; rfl
          have e3 : IntKind.i64.wrap ((u : Int).tmod n) = ru := by rw [f3, IntKind.wrap_i64]; omega
          have e4 : IntKind.i64.wrap (((r : Int) + B).tmod n) = z := by rw [f4, IntKind.wrap_i64]; omega
          have e5 : IntKind.i64.wrap ((z + (n : Int)).tmod n) = ru := by rw [f5, IntKind.wrap_i64]; omega
          go_wp2
          go_quiet (fail)
          go_wp2
          have zp := cell_drew nq zp
          have zq := cell_drew nq zq
          have p0 := cell_drew nq p0
          have p1 := cell_drew nq p1
          have d15 := below_drewN d14 nq
          generalize w14.drewN nq = w20 at *
          clear f1 f2 f3 f4 f5 e1 e2 e3 e4 e5 k0 k1 k2 hx0 hy0
          have hx0 := arr2_0 p q w20
          have hx1 := arr2_1 p q w20
          go_loopw [169] (fun i wv => ∃ m : Nat, m ≤ 2 ∧ i = .int .i64 m ∧ w20 = wv) (fun i _ => 2 - (intOf i).toNat)
          case atStart => exact ⟨0, Nat.zero_le _, rfl, rfl⟩
          case round =>
            obtain ⟨m, hm, rfl, rfl⟩ := hrel
            by_cases hml : m < 2
            · rcases (show m = 0 ∨ m = 1 by omega) with rfl | rfl
              · have hb1 := Hb.out.1
                have hb2 := Hb.out.2.2.1
                go_wp2
                go_roundw
                case rel => exact ⟨1, by omega, by go_num, trivial⟩
                case measure => simp [intOf]
              · have hb1 := Hb.out.2.1
                have hb2 := Hb.out.2.2.2
                go_wp2
                go_roundw
                case rel => exact ⟨2, by omega, by go_num, trivial⟩
                case measure => simp [intOf]
            · have hm2 : m = 2 := by omega
              subst hm2
              have HD := Lib.hid d15
              clear d8 d9 d10 d11 d12 d13 d14 d15 zp zq p0 p1 hx0 hx1 g0
              go_wp2
              go_roundw
              case rel => exact ⟨j + 1, by omega, by go_num, HD.out⟩
              case measure => simp only [intOf]; omega
        · have hj3 : j = 3 := by omega
          subst hj3
          have HE := Lib.hid (c7.trans (HB.out.mono c7.size))
          go_wp2_with fail
          refine (HAw.out _).mono ?_
          rintro e w8 ⟨rfl, b8⟩
          go_wp2
          go_ret
          exact ⟨rfl, below_nx HE.out b8⟩
    · have HU := Lib.hid (fun c => step_dark (c := c) hk ht hd)
      have HT0 := Lib.hid (tone0_eq n a b t hk ht)
      have HT1 := Lib.hid (tone_down (k := 1) hk hd)
      have HT2 := Lib.hid (tone_down (k := 2) hk hd)
      have HL := Lib.hid (toneN_lt hk t)
      have HSJ := Lib.hid (fun j (hj : j < 3) => sj_of hk ht hj)
      have HSl := Lib.hid (fun u => (show setT n a b u 3 < 65536 by
        have hpn : 2 ^ n ≤ 2 ^ 16 := Nat.pow_le_pow_right (by omega) h16
        have := setT_lt hk u 3
        omega))
      go_enter Try.func9, Try.ntmps9
      go_wp2_with fail
      rw [hW.out]
      refine (HO.out _).mono ?_
      rintro e w1 ⟨rfl, b1⟩
      have c1 := below_nx c0 b1
      have k0 := cell_later b1 k0
      have k1 := cell_later b1 k1
      have k2 := cell_later b1 k2
      go_wp2_with fail
      refine (HT.out t ht _).mono ?_
      rintro e w2 ⟨rfl, b2⟩
      have c2 := below_nx c1 b2
      have k0 := cell_later b2 k0
      have k1 := cell_later b2 k1
      have k2 := cell_later b2 k2
      have HFc := Lib.hid (HFi.out w2.heap.size 1 (w2.alloc (.cells #[.int .i64 t] 3)) (by simp))
      have bA : Below w2.heap.size w2 (w2.alloc (.cells #[.int .i64 t] 3)) := (Below.refl _ w2).alloc (Nat.le_refl _) _
      have c3 := c2.alloc c2.size (.cells #[.int .i64 t] 3)
      have k0 := cell_later bA k0
      have k1 := cell_later bA k1
      have k2 := cell_later bA k2
      clear b1 b2 bA
      go_wp2_with fail
      refine HFc.out.mono ?_
      rintro e w4 ⟨rfl, b4⟩
      have c4 := below_nx c3 b4
      have k0 := cell_later b4 k0
      have k1 := cell_later b4 k1
      have k2 := cell_later b4 k2
      clear b4
      obtain ⟨S0, hS0⟩ : ∃ S0, setT n a b t 3 = S0 := ⟨_, rfl⟩
      have HS0l := Lib.hid (HSl.out t)
      have HS0 := Lib.hid hS0
      rw [hS0] at HS0l
      rw [hS0]
      have hdI : (n : Int) ≤ (t : Int) := by omega
      have hdB : decide ((n : Int) ≤ (t : Int)) = true := decide_eq_true (by omega)
      have hnz : ((n : Int) == 0) = false := by rw [beq_eq_false_iff_ne]; omega
      obtain ⟨r, hr⟩ : ∃ r : Nat, toneN n a b t 0 = r := ⟨_, rfl⟩
      obtain ⟨y1, hy1⟩ : ∃ y : Nat, toneN n a b t 1 = y := ⟨_, rfl⟩
      obtain ⟨y2, hy2⟩ : ∃ y : Nat, toneN n a b t 2 = y := ⟨_, rfl⟩
      have hrl := HL.out 0
      have hy1l := HL.out 1
      have hy2l := HL.out 2
      have ht0 := HT0.out
      obtain ⟨z1, hz1, hz1a, hz1b, hz1c⟩ := mod_twice ((t : Int).tmod n + -(offN a b 1 : Nat)) (n := n) (by omega)
      obtain ⟨z2, hz2, hz2a, hz2b, hz2c⟩ := mod_twice ((t : Int).tmod n + -(offN a b 2 : Nat)) (n := n) (by omega)
      rw [HT1.out, hy1] at hz1c
      rw [HT2.out, hy2] at hz2c
      rw [ht0, hr, show ((offN a b 1 : Nat) : Int) = a from rfl] at hz1
      rw [ht0, hr, show ((offN a b 2 : Nat) : Int) = b from rfl] at hz2
      rw [hr] at ht0 hrl
      rw [hy1] at hy1l
      rw [hy2] at hy2l
      have HTT : Hid (∀ k, k < 3 → (Value.int .i64 (toneN n a b t k : Nat)) = (if k = 0 then Value.int .i64 r else if k = 1 then Value.int .i64 y1 else Value.int .i64 y2)) := Lib.hid (fun k hk3 => by
        rcases (show k = 0 ∨ k = 1 ∨ k = 2 by omega) with rfl | rfl | rfl
        · rw [hr]; rfl
        · rw [hy1]; rfl
        · rw [hy2]; rfl)
      have hrw : IntKind.i64.wrap ((t : Int).tmod n) = (r : Int) := by rw [ht0, IntKind.wrap_i64]; omega
      have Hr := Lib.hid hr
      clear HFc HFi hr hy1 hy2 hS0 HT0 HT1 HT2
      go_wp2
      go_quiet (fail)
      have c5 := below_drewN c4 nq
      have k0 : (w4.drewN nq).cell? ⟨w.heap.size, 0, none⟩ = some (.int .i64 n) := k0
      have k1 : (w4.drewN nq).cell? ⟨w.heap.size, 1, none⟩ = some (.int .i64 a) := k1
      have k2 : (w4.drewN nq).cell? ⟨w.heap.size, 2, none⟩ = some (.int .i64 b) := k2
      go_wp2
      generalize w4.drewN nq = w5 at *
      have bL : Below w5.heap.size w5 (w5.alloc (.cells #[.int .i64 0, .int .i64 0, .int .i64 0] 63)) := (Below.refl _ w5).alloc (Nat.le_refl _) _
      have q1 := cell_later bL k1
      have q2 := cell_later bL k2
      clear ht0 hrw bL
      go_region
      clear q1 q2 hz1 hz2 hz1c hz2c hz1a hz1b hz2a hz2b
      obtain ⟨T0, hT0⟩ : ∃ T0, w5.heap.size = T0 := ⟨_, rfl⟩
      obtain ⟨W6, hW6⟩ : ∃ W6, (w5.alloc (.cells #[.int .i64 r, .int .i64 y1, .int .i64 y2] 63)).drew = W6 := ⟨_, rfl⟩
      have b6 : Below w5.heap.size w5 W6 := by rw [← hW6]; exact ((Below.refl _ w5).alloc (Nat.le_refl _) _).drew
      have HZ : Hid (∀ k, k < 3 → W6.cell? ⟨T0, k, none⟩ = some (.int .i64 (toneN n a b t k : Nat))) := Lib.hid (fun k hk3 => by
        rw [HTT.out k hk3, ← hW6, ← hT0]
        rcases (show k = 0 ∨ k = 1 ∨ k = 2 by omega) with rfl | rfl | rfl
        · exact (show (w5.alloc _).cell? _ = _ by simp)
        · exact (show (w5.alloc _).cell? _ = _ by simp)
        · exact (show (w5.alloc _).cell? _ = _ by simp))
      rw [hW6, hT0]
      have c6 := below_nx c5 b6
      have k0 := cell_later b6 k0
      have k1 := cell_later b6 k1
      have k2 := cell_later b6 k2
      clear hW6 hT0 b6 c5 c4 c3 c2 c1 HTT
      obtain ⟨G, hG⟩ : ∃ G, W6.heap.size = G := ⟨_, rfl⟩
      obtain ⟨W7, hW7⟩ : ∃ W7, W6.alloc (.cells #[.string ⟨#[80]⟩, .string ⟨#[76]⟩, .string ⟨#[82]⟩] 9) = W7 := ⟨_, rfl⟩
      have b7 : Below W6.heap.size W6 W7 := by rw [← hW7]; exact (Below.refl _ W6).alloc (Nat.le_refl _) _
      have HGl : Hid (∀ j, j < 3 → W7.cell? ⟨G, j, none⟩ = some (.string (strOf [letP j]))) := Lib.hid (fun j hj3 => by
        rcases (show j = 0 ∨ j = 1 ∨ j = 2 by omega) with rfl | rfl | rfl
        · rw [← hW7, ← hG]; simp; rfl
        · rw [← hW7, ← hG]; simp; rfl
        · rw [← hW7, ← hG]; simp; rfl)
      have c7 := below_nx c6 b7
      have HK0 := Lib.hid (cell_later b7 k0)
      have HK1 := Lib.hid (cell_later b7 k1)
      have HK2 := Lib.hid (cell_later b7 k2)
      have HZ7 := Lib.hid (fun k hk3 => cell_later b7 (HZ.out k hk3))
      have HG := Lib.hid hG
      have HW7 := Lib.hid hW7
      clear b7 k0 k1 k2 hG hW7 c6 HZ
      go_wp2
      rw [HW7.out, HG.out]
      generalize decide (n ≤ t) = dz
      clear hdI hdB hd hnz
      go_loopw [81] (fun i wr => ∃ j : Nat, j ≤ 3 ∧ i = .int .i64 j ∧ Below W7.heap.size W7 wr) (fun i _ => 3 - (intOf i).toNat)
      case atStart => exact ⟨0, Nat.zero_le _, rfl, Below.refl _ _⟩
      case round =>
        obtain ⟨j, hj, rfl, hB⟩ := hrel
        have HB := Lib.hid hB
        have hnz : ((n : Int) == 0) = false := by rw [beq_eq_false_iff_ne]; omega
        have k0 := cell_later hB HK0.out
        have k1 := cell_later hB HK1.out
        have k2 := cell_later hB HK2.out
        by_cases hlt : j < 3
        · obtain ⟨L, p, q, yp, yq, u, B, sj⟩ := HSJ.out j hlt
          have g0 := cell_later hB (HGl.out j hlt)
          have zp := cell_later hB (HZ7.out p sj.hp)
          have zq := cell_later hB (HZ7.out q sj.hq)
          rw [sj.yp0] at zp
          rw [sj.yq0] at zq
          rw [← sj.L3] at g0
          have HW1 := Lib.hid (HWk.out L sj.isL t ht)
          have HW2 := Lib.hid (HWk.out L sj.isL u sj.hul)
          rw [sj.hu] at HW1
          rw [sj.hub] at HW2
          obtain ⟨ru, z, hru, hza, hzb, f1, f2, f3, f4, f5⟩ := HU.out L
          rw [sj.hu] at f1 f3
          rw [← sj.hB, Hr.out] at f4
          have HTu := Lib.hid (HT.out u sj.hul)
          have HVl := Lib.hid (HSl.out u)
          obtain ⟨V, hV⟩ : ∃ V, setT n a b u 3 = V := ⟨_, rfl⟩
          have hsp := sj.sp
          have hsq := sj.sq
          have hvp := sj.vp
          have hvq := sj.vq
          rw [HS0.out] at hsp hsq
          rw [hV] at HTu HVl hvp hvq
          have Hb := Lib.hid (And.intro (bit_and HS0l.out hsp) (And.intro (bit_and HS0l.out hsq) (And.intro (bit_and HVl.out hvp) (bit_and HVl.out hvq))))
          have hypn := sj.ypn
          have hyqn := sj.yqn
          have hp3 := sj.hp
          have hq3 := sj.hq
          have hB0 := sj.B0
          have hB1 := sj.B1
          have hul := sj.hul
          obtain ⟨P, hP⟩ : ∃ P, wr.heap.size = P := ⟨_, rfl⟩
          obtain ⟨W8, hW8⟩ : ∃ W8, wr.alloc (.cells #[.int .i64 p, .int .i64 q] 65) = W8 := ⟨_, rfl⟩
          have b8 : Below wr.heap.size wr W8 := by rw [← hW8]; exact (Below.refl _ wr).alloc (Nat.le_refl _) _
          have p0 : W8.cell? ⟨P, 0, none⟩ = some (.int .i64 p) := by rw [← hW8, ← hP]; simp
          have p1 : W8.cell? ⟨P, 1, none⟩ = some (.int .i64 q) := by rw [← hW8, ← hP]; simp
          have hx0 := arrB_at sj hlt W8
          have hy0 := arrK_at sj hlt wr
          have d8 := hB.trans (b8.mono hB.size)
          have k0 := cell_later b8 k0
          have k1 := cell_later b8 k1
          have k2 := cell_later b8 k2
          have zp := cell_later b8 zp
          have zq := cell_later b8 zq
          have g0 := cell_later b8 g0
          clear hB hV sj hsp hsq hvp hvq
          generalize strOf [L] = sL at *
          clear b8
          go_wp2_with fail
          refine (HO.out _).mono ?_
          rintro e w9 ⟨rfl, b9⟩
          have d9 := d8.trans (b9.mono d8.size)
          have k0 := cell_later b9 k0
          have k1 := cell_later b9 k1
          have k2 := cell_later b9 k2
          have zp := cell_later b9 zp
          have zq := cell_later b9 zq
          have p0 := cell_later b9 p0
          have p1 := cell_later b9 p1
          clear b9
          go_wp2_with fail
          refine (HW1.out _).mono ?_
          rintro e w10 ⟨rfl, b10⟩
          have d10 := d9.trans (b10.mono d9.size)
          have k0 := cell_later b10 k0
          have k1 := cell_later b10 k1
          have k2 := cell_later b10 k2
          have zp := cell_later b10 zp
          have zq := cell_later b10 zq
          have p0 := cell_later b10 p0
          have p1 := cell_later b10 p1
          clear b10
          go_wp2_with fail
          refine (HO.out _).mono ?_
          rintro e w11 ⟨rfl, b11⟩
          have d11 := d10.trans (b11.mono d10.size)
          have k0 := cell_later b11 k0
          have k1 := cell_later b11 k1
          have k2 := cell_later b11 k2
          have zp := cell_later b11 zp
          have zq := cell_later b11 zq
          have p0 := cell_later b11 p0
          have p1 := cell_later b11 p1
          clear b11
          go_wp2_with fail
          refine (HW2.out _).mono ?_
          rintro e w12 ⟨rfl, b12⟩
          have d12 := d11.trans (b12.mono d11.size)
          have k0 := cell_later b12 k0
          have k1 := cell_later b12 k1
          have k2 := cell_later b12 k2
          have zp := cell_later b12 zp
          have zq := cell_later b12 zq
          have p0 := cell_later b12 p0
          have p1 := cell_later b12 p1
          clear b12
          go_wp2_with fail
          refine (HO.out _).mono ?_
          rintro e w13 ⟨rfl, b13⟩
          have d13 := d12.trans (b13.mono d12.size)
          have k0 := cell_later b13 k0
          have k1 := cell_later b13 k1
          have k2 := cell_later b13 k2
          have zp := cell_later b13 zp
          have zq := cell_later b13 zq
          have p0 := cell_later b13 p0
          have p1 := cell_later b13 p1
          clear b13
          go_wp2_with fail
          refine (HTu.out _).mono ?_
          rintro e w14 ⟨rfl, b14⟩
          have d14 := d13.trans (b14.mono d13.size)
          have k0 := cell_later b14 k0
          have k1 := cell_later b14 k1
          have k2 := cell_later b14 k2
          have zp := cell_later b14 zp
          have zq := cell_later b14 zq
          have p0 := cell_later b14 p0
          have p1 := cell_later b14 p1
          clear b14
          have e1 : IntKind.i64.wrap ((u : Int).tdiv n) = 0 := by rw [f1]; rfl
          have e2 : IntKind.i64.wrap ((t : Int).tdiv n) = 1 := by rw [f2]; rfl
          have e3 : IntKind.i64.wrap ((u : Int).tmod n) = ru := by rw [f3, IntKind.wrap_i64]; omega
          have e4 : IntKind.i64.wrap (((r : Int) + -B).tmod n) = z := by rw [f4, IntKind.wrap_i64]; omega
          have e5 : IntKind.i64.wrap ((z + (n : Int)).tmod n) = ru := by rw [f5, IntKind.wrap_i64]; omega
          go_wp2
          go_quiet (fail)
          go_wp2
          have zp := cell_drew nq zp
          have zq := cell_drew nq zq
          have p0 := cell_drew nq p0
          have p1 := cell_drew nq p1
          have d15 := below_drewN d14 nq
          generalize w14.drewN nq = w20 at *
          clear f1 f2 f3 f4 f5 e1 e2 e3 e4 e5 k0 k1 k2 hx0 hy0
          have hx0 := arr2_0 p q w20
          have hx1 := arr2_1 p q w20
          go_loopw [169] (fun i wv => ∃ m : Nat, m ≤ 2 ∧ i = .int .i64 m ∧ w20 = wv) (fun i _ => 2 - (intOf i).toNat)
          case atStart => exact ⟨0, Nat.zero_le _, rfl, rfl⟩
          case round =>
            obtain ⟨m, hm, rfl, rfl⟩ := hrel
            by_cases hml : m < 2
            · rcases (show m = 0 ∨ m = 1 by omega) with rfl | rfl
              · have hb1 := Hb.out.1
                have hb2 := Hb.out.2.2.1
                go_wp2
                go_roundw
                case rel => exact ⟨1, by omega, by go_num, trivial⟩
                case measure => simp [intOf]
              · have hb1 := Hb.out.2.1
                have hb2 := Hb.out.2.2.2
                go_wp2
                go_roundw
                case rel => exact ⟨2, by omega, by go_num, trivial⟩
                case measure => simp [intOf]
            · have hm2 : m = 2 := by omega
              subst hm2
              have HD := Lib.hid d15
              clear d8 d9 d10 d11 d12 d13 d14 d15 zp zq p0 p1 hx0 hx1 g0
              go_wp2
              go_roundw
              case rel => exact ⟨j + 1, by omega, by go_num, HD.out⟩
              case measure => simp only [intOf]; omega
        · have hj3 : j = 3 := by omega
          subst hj3
          have HE := Lib.hid (c7.trans (HB.out.mono c7.size))
          go_wp2_with fail
          refine (HAw.out _).mono ?_
          rintro e w8 ⟨rfl, b8⟩
          go_wp2
          go_ret
          exact ⟨rfl, below_nx HE.out b8⟩
end Go.Proofs.Ytibkhjbcagihbaa
