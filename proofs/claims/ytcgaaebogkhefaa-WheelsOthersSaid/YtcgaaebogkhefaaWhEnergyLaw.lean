/-
  The statement on the energy of a wheel.
-/
import Derived.Test.YtcgaaebogkhefaaWhRef2
namespace Go.Proofs.Ytcgaaebogkhefaa
open Go.ChangeShapes Go.WideShapes Go.ChangeAt Go.RowKit
set_option maxRecDepth 100000

theorem bad1 {n : Int} {xs : List Int} (h : (circB n && wheelB n.toNat xs) = false) : (circB n && [xs.take 19].all (wheelB n.toNat)) = false := by
  rw [← wheelB_take] at h
  simpa using h
theorem good1 {n : Int} {xs : List Int} (h : (circB n && wheelB n.toNat xs) = true) : ∃ (m : Nat) (l : List Nat), n = (m : Int) ∧ xs = natI l ∧ Circ m ∧ WhL m l := by
  rw [Bool.and_eq_true] at h
  obtain ⟨m, rfl, hm⟩ := circB_true h.1
  rw [Int.toNat_natCast] at h
  obtain ⟨l, h1, h2, h3⟩ := wheelB_nat h.2
  exact ⟨m, l, rfl, h1, hm, ⟨h2, h3⟩⟩
/-- The list's cells. -/
theorem tab_cells {W : World} {v : Value} {n : Nat} {f : Nat → Nat} (h : IntsV W v (natI (tabN n f))) (h0 : 0 < n) : ∃ b off cap, v = .slice (some ⟨b, off, none⟩) n cap ∧ n ≤ cap ∧ ∀ i, i < n → W.cell? ⟨b, off + i, none⟩ = some (.int .i64 ((f i : Nat) : Int)) := by
  obtain ⟨b, off, cap, e, hc, hd⟩ := ints_natW h (by rw [tabN_length]; exact h0)
  rw [tabN_length] at e hc hd
  exact ⟨b, off, cap, e, hc, fun i hi => by rw [hd i hi, tabN_at hi]⟩
theorem wh_cells {W : World} {v : Value} {n : Nat} {l : List Nat} (h : IntsV W v (natI l)) (hl : l.length = n) (h0 : 0 < n) : ∃ b off cap, v = .slice (some ⟨b, off, none⟩) n cap ∧ n ≤ cap ∧ ∀ i, i < n → W.cell? ⟨b, off + i, none⟩ = some (.int .i64 ((ofL l i : Nat) : Int)) := by
  obtain ⟨b, off, cap, e, hc, hd⟩ := ints_natW h (by omega)
  rw [hl] at e hc hd
  exact ⟨b, off, cap, e, hc, hd⟩
theorem sum_bd {f : Nat → Nat} {B : Nat} (h : ∀ i, f i ≤ B) : ∀ n, sumN n f ≤ n * B
  | 0 => by simp [sumN]
  | n + 1 => by simp only [sumN]; have := sum_bd h n; have := h n; rw [Nat.succ_mul]; omega

set_option maxHeartbeats 2000000 in
theorem WheelsEnergy_walk (n : Int) (xs : List Int) (v : Value) (w : World) (_wf : (Lit.int .i64 n).wf = true) (hl : xs.length ≤ maxLen) (h : IntsV w v xs) :
    Calls Try.prog 12 #[.int .i64 n, v] w fun e w' => e = .returned (.bool true) ∧ Below w.heap.size w w' := by
  have hmx : Try.prog.follows .mixedOrders = true := by kernel_rfl
  have HAw := Lib.hid (fun W => wawake_any W)
  have HLi := Lib.hid (fun W (h : IntsV W v xs) => wlist_any xs v W hl h)
  have HRW := Lib.hid (fun W (h : IntsV W v xs) => RWheel_any n xs v W hl h)
  have HV := Lib.hid h
  cases hb : (circB n && wheelB n.toNat xs)
  · rw [hb] at HRW
    have HP := Lib.hid (fun u W (h : IntsV W u (xs.take 19)) => Power_bad n (xs.take 19) u W take19 h (bad1 hb))
    obtain ⟨ao, cap, rfl, _, _⟩ := h
    clear hb hl
    go_enter Try.func12, Try.ntmps12
    go_wp2_with fail
    refine (HLi.out _ HV.out).mono ?_
    rintro e w1 ⟨v1, rfl, i1, b1⟩
    have I1 := Lib.hid i1
    have B1 := Lib.hid b1
    clear i1 b1
    go_wp2_with fail
    refine (HP.out _ _ I1.out).mono ?_
    rintro e w2 ⟨rfl, b2⟩
    have B2 := Lib.hid (below_nx B1.out b2)
    clear b2
    go_wp2_with fail
    refine (HAw.out _).mono ?_
    rintro e w4 ⟨rfl, b4⟩
    go_wp2
    go_ret
    exact ⟨rfl, below_nx B2.out b4⟩
  · rw [hb] at HRW
    obtain ⟨m, l, rfl, rfl, hm, hw⟩ := good1 hb
    rw [hw.take hm] at HLi
    have HP := Lib.hid (fun u W (h : IntsV W u (natI l)) => Power_ok m hm l hw u W h)
    have HPr := Lib.hid (fun W => Prime_ok m hm W)
    have hm0 := hm.pos
    have hm17 := hm.2
    have hq := hm.q_le
    have hqn := hm.n_lt
    have hf := hw.wh hm
    have hp := po_wh hm (ofL l)
    have HEn := Lib.hid (show (((sumN m (poF m (ofL l)) : Nat) : Int) % ((qN m : Nat) : Int)) = (((m : Nat) : Int) * ((sumN m (fun x => ofL l x * ofL l x) : Nat) : Int)) % ((qN m : Nat) : Int) by
      have e := energy hm (ofL l)
      unfold Md at e
      rw [show ((m : Nat) : Int) * ((sumN m (fun x => ofL l x * ofL l x) : Nat) : Int) = ((m * sumN m (fun x => ofL l x * ofL l x) : Nat) : Int) by simp, ← Int.natCast_emod, ← Int.natCast_emod, e])
    have hfb := hf.lt
    have hpb := hp.lt
    have HSA := Lib.hid (fun k => sum_bd (f := poF m (ofL l)) (B := 97) (fun i => by have := hpb i; omega) k)
    have HSB := Lib.hid (fun k => sum_bd (f := fun x => ofL l x * ofL l x) (B := 9216) (fun i => by have := hfb i; exact Nat.le_trans (Nat.mul_le_mul (show ofL l i ≤ 96 by omega) (show ofL l i ≤ 96 by omega)) (by omega)) k)
    obtain ⟨fb, fo, fc, rfl, hfc, hfd⟩ := wh_cells h hw.len hm0
    have HFd := Lib.hid hfd
    have HFb := Lib.hid hfb
    have HPb := Lib.hid hpb
    clear hb hl hm hw hf hp hfd hfb hpb h
    generalize poF m (ofL l) = p at *
    generalize ofL l = f at *
    generalize natI l = zs at *
    generalize qN m = q at *
    go_enter Try.func12, Try.ntmps12
    go_wp2_with fail
    refine (HLi.out _ HV.out).mono ?_
    rintro e w1 ⟨v1, rfl, i1, b1⟩
    have I1 := Lib.hid i1
    have B1 := Lib.hid b1
    clear i1 b1
    go_wp2_with fail
    refine (HP.out _ _ I1.out).mono ?_
    rintro e w2 ⟨v2, rfl, i2, b2⟩
    have I2 := Lib.hid i2
    have B2 := Lib.hid (below_nx B1.out b2)
    clear b2 i2
    go_wp2_with fail
    refine (HRW.out _ (HV.out.later B2.out)).mono ?_
    rintro e w3 ⟨rfl, rfl⟩
    go_wp2_with fail
    refine (HPr.out _).mono ?_
    rintro e w3 ⟨rfl, b3⟩
    have B3 := Lib.hid (below_nx B2.out b3)
    have I3 := Lib.hid (I2.out.later b3)
    clear b3
    obtain ⟨pb, po, pc, rfl, hpc, hpd⟩ := tab_cells I3.out hm0
    have HPd := Lib.hid hpd
    have hmm : ((m : Int) == (m : Int)) = true := beq_self_eq_true _
    have HSa0 := Lib.hid (show sumN 0 p = 0 from rfl)
    have HSb0 := Lib.hid (show sumN 0 (fun x => f x * f x) = 0 from rfl)
    have HSas := Lib.hid (fun k => show sumN (k + 1) p = sumN k p + p k from rfl)
    have HSbs := Lib.hid (fun k => show sumN (k + 1) (fun x => f x * f x) = sumN k (fun x => f x * f x) + f k * f k from rfl)
    generalize hgg : (fun x => f x * f x) = g at *
    clear hpd hgg
    go_wp2_with fail
    go_loopw [9, 10, 55] (fun a b i wr => ∃ k : Nat, k ≤ m ∧ a = .int .i64 ((sumN k p : Nat) : Int) ∧ b = .int .i64 ((sumN k g : Nat) : Int) ∧ i = .int .i64 (k : Int) ∧ Below w3.heap.size w3 wr) (fun _ _ i _ => m - (intOf i).toNat)
    case atStart => exact ⟨0, Nat.zero_le _, by rw [HSa0.out]; rfl, by rw [HSb0.out]; rfl, rfl, Below.refl _ _⟩
    case round =>
      obtain ⟨k, hk, rfl, rfl, rfl, hbr⟩ := hrel
      have HBr := Lib.hid hbr
      clear hbr
      have hsa := HSA.out k
      have hsb := HSB.out k
      by_cases hlt : k < m
      · have e1 := cell_later HBr.out (HPd.out k hlt)
        have e2 := cell_later (B3.out.trans (HBr.out.mono B3.out.size)) (HFd.out k hlt)
        have h1 := HPb.out k
        have h2 := HFb.out k
        have hmm2 := mul_bd (show f k ≤ 100000 by omega) (show f k ≤ 100000 by omega)
        have HSak := Lib.hid (show ((sumN k p : Nat) : Int) + ((p k : Nat) : Int) = ((sumN (k + 1) p : Nat) : Int) by rw [HSas.out]; simp)
        have HSbk := Lib.hid (show ((sumN k g : Nat) : Int) + ((f k : Nat) : Int) * ((f k : Nat) : Int) = ((sumN (k + 1) g : Nat) : Int) by rw [HSbs.out]; simp)
        have hka : k * 97 ≤ 17 * 97 := Nat.mul_le_mul_right _ (by omega)
        have hkb : k * 10000 ≤ 17 * 10000 := Nat.mul_le_mul_right _ (by omega)
        generalize sumN k p = sa at *
        generalize sumN k g = sb at *
        generalize p k = y at *
        generalize f k = z at *
        go_upto_region 14 with fail
        go_quiet (fail)
        go_wp2
        go_roundw
        case rel => exact ⟨k + 1, by omega, by rw [← HSak.out], by rw [← HSbk.out], by go_num, by first | exact HBr.out | exact bl_drewN HBr.out _⟩
        case measure => simp only [intOf]; omega
      · obtain rfl : k = m := by omega
        have hkb : k * 10000 ≤ 17 * 10000 := Nat.mul_le_mul_right _ (by omega)
        have hmm2 : 0 ≤ (k : Int) * ((sumN k g : Nat) : Int) ∧ (k : Int) * ((sumN k g : Nat) : Int) ≤ 10000000000 := by
          have h1 : k * sumN k g ≤ 1000 * 1000000 := Nat.mul_le_mul (by omega) (by omega)
          have e : (k : Int) * ((sumN k g : Nat) : Int) = ((k * sumN k g : Nat) : Int) := by simp
          rw [e]; omega
        have hq0 : ((q : Int) == 0) = false := by rw [beq_eq_false_iff_ne]; omega
        have hE : ((((sumN k p : Nat) : Int) % (q : Int)) == ((k : Int) * ((sumN k g : Nat) : Int)) % (q : Int)) = true := by rw [beq_iff_eq]; exact HEn.out
        generalize sumN k p = sa at *
        generalize sumN k g = sb at *
        have HE := Lib.hid hE
        clear hE HEn
        go_upto_region 16 with fail
        refine region_calm_tail 10 hmx (by kernel_rfl) ?_
        simp only [List.take_succ_cons, List.take_zero, List.drop_succ_cons, List.drop_zero]
        intro S hSn fw hS1 hS2
        repeat (go_big_quiet_step (fail))
        refine wpQuiet_nil ?_
        rintro _ ⟨z, rfl⟩
        have HB4 := Lib.hid ((B3.out.trans (HBr.out.mono B3.out.size)).trans ((hS1 z).mono (by have := B3.out.size; have := HBr.out.size; omega)))
        generalize fw z = w4 at *
        clear hS1 hS2
        try dsimp only [Exit.then]
        simp only [HE.out]
        go_wp2_with fail
        refine (HAw.out _).mono ?_
        rintro e w5 ⟨rfl, b5⟩
        go_wp2
        go_ret
        exact ⟨rfl, HB4.out.trans (b5.mono HB4.out.size)⟩
end Go.Proofs.Ytcgaaebogkhefaa
