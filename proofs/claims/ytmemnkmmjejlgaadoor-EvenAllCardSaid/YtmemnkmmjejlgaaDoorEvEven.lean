/-
  isEven and Even of package even; the statement on the tones that are not in an even scale.
-/
import Derived.Test.YtmemnkmmjejlgaaDoorEvAlike
namespace Go.Proofs.YtmemnkmmjejlgaaDoor
open Go.RowKit Go.Shelf
attribute [local go_sem] Oper.semAt_some
set_option maxRecDepth 100000

theorem spans_le {n s j : Nat} (hk : 1 ≤ (tonesB n s).length) (hj : j ≤ (tonesB n s).length) : ∀ x ∈ spansL n (tonesB n s) j, x ≤ n := by
  intro x hx
  obtain ⟨i, _, h⟩ := mem_spansL.1 hx
  have he := tN_enum hk
  have h1 := he.le (show i + j ≤ i + (tonesB n s).length by omega)
  rw [he.per] at h1
  unfold spanN at h
  omega

theorem isEven_any (n s : Nat) (h1 : 2 ≤ n) (h2 : n ≤ 16) (h3 : 1 ≤ s) (h4 : s < 2 ^ n) (w : World) (hT : Tab w) :
    Calls Tryd.prog 49 #[.int .i64 n, .int .i64 s] w fun e w' => e = .returned (.bool (evenB n s)) ∧ Below w.heap.size w w' := by
  have HTn := Lib.hid (tones_slice n s h2 h4 h3 w hT)
  have hpos := tonesB_pos h2 h3 h4
  have hle := tonesB_le n s
  have HA : Hid (∀ (j g cap : Nat), 1 ≤ j → j < (tonesB n s).length → ∀ W : World, g < W.heap.size → (∀ i, i < (tonesB n s).length → W.cell? ⟨g, i, none⟩ = some (.int .i64 (((tonesB n s)[i]?.getD 0 : Nat) : Int))) →
      Calls Tryd.prog 71 #[.agg #[.int .i64 n, .slice (some ⟨g, 0, none⟩) (tonesB n s).length cap, .int .i64 j]] W fun e w' => e = .returned (.bool (aliL (spansL n (tonesB n s) j))) ∧ Below W.heap.size W w') :=
    Lib.hid (fun j g cap hj1 hj2 W hg hc => alike_any n _ j g cap _ (Spn.of h2 h3 h4 (by omega)) (spans_le hpos (by omega)) W hg hc)
  have HE := Lib.hid (show evTo n (tonesB n s) (tonesB n s).length = evenB n s from rfl)
  have HS := Lib.hid (evTo_succ n (tonesB n s))
  have HF : Hid (∀ j, 1 ≤ j → j < (tonesB n s).length → aliL (spansL n (tonesB n s) j) = false → evTo n (tonesB n s) (tonesB n s).length = false) := Lib.hid (fun j a b c => evTo_false a b c)
  have H1 := Lib.hid (show evTo n (tonesB n s) 1 = true from rfl)
  generalize evenB n s = ans at HE
  generalize hts : tonesB n s = ts at *
  obtain ⟨K, hK⟩ : ∃ K, ts.length = K := ⟨_, rfl⟩
  unfold ListAt at HTn
  rw [hK] at HTn HA HE HF hpos hle
  clear hT h4 h3 hK hts
  go_enter Tryd.func49, Tryd.ntmps49
  go_wp2_with fail
  refine HTn.out.mono ?_
  rintro e w1 ⟨_, rfl, ⟨g, cap, rfl, hg, hcap, hc⟩, hb⟩
  have HC := Lib.hid hc
  have hgl : g < w1.heap.size := by
    have := World.block_lt_of_cell? w1 _ (hc 0 hpos)
    exact this
  have HG := Lib.hid hgl
  clear hc hgl
  go_wp2
  go_loopw [6] (fun jv wr => ∃ j : Nat, 1 ≤ j ∧ j ≤ K ∧ jv = .int .i64 j ∧ evTo n ts j = true ∧ Below w1.heap.size w1 wr) (fun jv _ => K - (intOf jv).toNat)
  case atStart => exact ⟨1, Nat.le_refl _, hpos, rfl, H1.out, Below.refl _ _⟩
  case round =>
    obtain ⟨j, hj1, hj2, rfl, hev, hB⟩ := hrel
    have HEv := Lib.hid hev
    clear hev
    by_cases hlt : j < K
    · have hB2 : Below w1.heap.size w1 (wr.alloc (Obj.cells #[Value.int .i64 n, .slice (some ⟨g, 0, none⟩) K cap, Value.int .i64 j] 50)) := hB.alloc hB.size _
      have hal := HA.out j g cap hj1 hlt _ (by have := HG.out; have := hB2.size; omega) (fun i hi => cell_later hB2 (HC.out i hi))
      have hst := HS.out j
      rw [HEv.out, Bool.true_and, decide_eq_false (show ¬ j = 0 by omega), Bool.false_or] at hst
      have hff := HF.out j hj1 hlt
      have HB2 := Lib.hid hB2
      cases hq : aliL (spansL n ts j)
      · rw [hq] at hal
        have HFin := Lib.hid (show false = ans by rw [← HE.out]; exact (hff hq).symm)
        have HAl := Lib.hid hal
        clear hal hst hff hB2 hq
        go_wp2_with fail
        refine HAl.out.mono ?_
        rintro e w3 ⟨rfl, b3⟩
        have hbb := hb.trans ((HB2.out.trans (b3.mono HB2.out.size)).mono hb.size)
        clear b3
        go_wp2
        go_ret
        exact ⟨ret_bool HFin.out, hbb⟩
      · rw [hq] at hal hst
        have HAl := Lib.hid hal
        have HSt := Lib.hid hst
        clear hal hst hff hB2 hq
        go_wp2_with fail
        refine HAl.out.mono ?_
        rintro e w3 ⟨rfl, b3⟩
        have hbb := HB2.out.trans (b3.mono HB2.out.size)
        clear b3
        go_wp2
        go_roundw
        case rel => exact ⟨j + 1, by omega, by omega, by go_num, HSt.out, hbb⟩
        case measure => simp only [intOf]; omega
    · have HFin := Lib.hid (show true = ans by rw [← HE.out, ← HEv.out, show j = K by omega])
      have hbb := hb.trans (hB.mono hb.size)
      go_wp2
      go_ret
      exact ⟨ret_bool HFin.out, hbb⟩

theorem Even_bad (n s : Int) (h : vldB n s = false) (w : World) :
    Calls Tryd.prog 15 #[.int .i64 n, .int .i64 s] w fun e w' => e = .returned (.tuple #[.bool false, .int .i64 2]) ∧ Below w.heap.size w w' := by
  have HV := Lib.hid (valid1 n s _ h)
  clear h
  go_enter Tryd.func15, Tryd.ntmps15
  go_wp2_with (go_at_call 48; refine (HV.out _ _ _ (cell_at rfl)).mono ?_; rintro e w' ⟨rfl, rfl⟩)
  go_ret2
  exact ⟨rfl, below_two _ _⟩

theorem Even_ok (n s : Nat) (h1 : 2 ≤ n) (h2 : n ≤ 16) (h3 : 1 ≤ s) (h4 : s < 2 ^ n) (w : World) (hT : Tab w) :
    Calls Tryd.prog 15 #[.int .i64 n, .int .i64 s] w fun e w' => e = .returned (.tuple #[.bool (evenB n s), .int .i64 0]) ∧ Below w.heap.size w w' := by
  have HV := Lib.hid (valid1 n s _ (vldB_of_nat h1 h2 h3 h4))
  have hB := below_two w (.cells #[.int .i64 s] 3)
  have HS := Lib.hid (isEven_any n s h1 h2 h3 h4 _ (hT.same hB))
  generalize evenB n s = S at HS
  clear hT h4
  go_enter Tryd.func15, Tryd.ntmps15
  go_wp2_with (go_at_call 48; refine (HV.out _ _ _ (cell_at rfl)).mono ?_; rintro e w' ⟨rfl, rfl⟩)
  refine HS.out.mono ?_
  rintro e w2 ⟨rfl, hb⟩
  have hbb := hB.trans (hb.mono hB.size)
  go_wp2
  go_ret2
  exact ⟨rfl, hbb⟩

theorem full_even (n : Nat) (h1 : 2 ≤ n) (h2 : n ≤ 16) : evenB n (2 ^ n - 1) = true := by
  have hp := Nat.two_pow_pos n
  have hc := card_others (n := n) (s := 0) hp
  have h0 : (tonesB n 0).length = 0 := by rw [tonesB_card, show sumN n (bI 0) = sumN n (fun _ => 0) from sum_congr (fun i _ => by simp [bI]), sum_zero]
  rw [h0, Nat.sub_zero, Nat.add_zero] at hc
  rw [evenB_iff (by omega) (by omega), even_iff (by omega) (by omega) (by omega), hc]
  refine ⟨0, ?_⟩
  have h3 := spr_others (n := n) (k := 0) (m := n - 1) h2 (by omega) (by omega)
  rw [show sprN n 0 (n - 1) = 0 from rfl, Nat.sub_zero, Nat.sub_zero, Nat.sub_self] at h3
  exact h3

theorem EvenOthers_walk (n s : Int) (_w0 : (Lit.int .i64 n).wf = true) (_w1 : (Lit.int .i64 s).wf = true) (w : World) (hT : Tab w) :
    Calls Tryd.prog 8 #[.int .i64 n, .int .i64 s] w fun e w' => e = .returned (.bool true) ∧ Below w.heap.size w w' := by
  have HV := Lib.hid (Scale_any n s)
  by_cases hv : vldB n s = true
  · rw [hv] at HV
    obtain ⟨n, s, rfl, rfl, h1, h2, h3, h4⟩ := vldB_nat hv
    have hp := pow_bd (n : Int) (by omega) (by omega)
    simp only [Int.toNat_natCast] at hp
    have hE : (2 : Int) ^ n = ((2 ^ n : Nat) : Int) := by simp
    have H1 := Lib.hid (Even_ok n s h1 h2 h3 h4 w hT)
    by_cases hf : s = 2 ^ n - 1
    · have hq : ((s : Int) == (2 : Int) ^ n - 1) = true := by rw [beq_iff_eq, hE]; omega
      rw [show evenB n s = true by rw [hf]; exact full_even n h1 h2] at H1
      clear hv h3 h4 hT hf hE
      go_enter Tryd.func8, Tryd.ntmps8
      go_wp2_with fail
      refine H1.out.mono ?_
      rintro e w1 ⟨rfl, b1⟩
      go_wp2_with fail
      refine (HV.out _).mono ?_
      rintro e w4 ⟨rfl, rfl⟩
      go_wp2_with fail
      refine (awake_any _).mono ?_
      rintro e w5 ⟨rfl, b5⟩
      have c5 := below_next b1 b5
      clear b1 b5
      go_wp2
      go_ret
      exact ⟨rfl, c5⟩
    · have hq : ((s : Int) == (2 : Int) ^ n - 1) = false := by rw [beq_eq_false_iff_ne, hE]; omega
      have hlen := card_others h4
      have hpos := tonesB_pos h2 h3 h4
      have hk2 : (tonesB n s).length < n := by
        apply Nat.lt_of_not_le
        intro hle
        have h0 : (tonesB n (2 ^ n - 1 - s)).length = 0 := by omega
        have := tonesB_pos (n := n) (c := 2 ^ n - 1 - s) h2 (by omega) (by omega)
        omega
      have hev := even_others (s := s) (by omega) h2 h4 hpos hk2
      have H2 := Lib.hid (fun W (hW : Tab W) => Even_ok n (2 ^ n - 1 - s) h1 h2 (by omega) (by omega) W hW)
      rw [hev] at H2
      have he2 : (2 : Int) ^ n - 1 - (s : Int) = ((2 ^ n - 1 - s : Nat) : Int) := by rw [hE]; omega
      have HE2 := Lib.hid he2
      have hle3 : (s : Int) ≤ 65535 := by
        have := hp.2; rw [hE] at this; omega
      have hT' := hT
      generalize evenB n s = v at H1 H2
      clear hv h3 h4 hf hE he2 hlen hev hpos hk2
      cases v
      all_goals
        go_enter Tryd.func8, Tryd.ntmps8
        go_wp2_with fail
        refine H1.out.mono ?_
        rintro e w1 ⟨rfl, b1⟩
        have t1 := hT.same b1
        go_wp2_with fail
        refine (HV.out _).mono ?_
        rintro e w4 ⟨rfl, rfl⟩
        go_wp2_with fail
        rw [HE2.out]
        refine (H2.out _ t1).mono ?_
        rintro e w4 ⟨rfl, b4⟩
        have c4 := below_next b1 b4
        clear b1 b4 t1
        go_wp2_with fail
        refine (awake_any _).mono ?_
        rintro e w5 ⟨rfl, b5⟩
        have c5 := below_next c4 b5
        clear c4 b5
        go_wp2
        go_ret
        exact ⟨rfl, c5⟩
  · have hv' : vldB n s = false := by simpa using hv
    rw [hv'] at HV
    have H1 := Lib.hid (Even_bad n s hv')
    clear hv hv' hT
    go_enter Tryd.func8, Tryd.ntmps8
    go_wp2_with fail
    refine (H1.out _).mono ?_
    rintro e w1 ⟨rfl, b1⟩
    go_wp2_with fail
    refine (awake_any _).mono ?_
    rintro e w5 ⟨rfl, b5⟩
    have c5 := below_next b1 b5
    clear b1 b5
    go_wp2
    go_ret
    exact ⟨rfl, c5⟩

end Go.Proofs.YtmemnkmmjejlgaaDoor
