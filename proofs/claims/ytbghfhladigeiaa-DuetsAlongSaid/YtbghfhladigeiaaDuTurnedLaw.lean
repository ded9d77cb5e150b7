/-
  The statement on intervals after Swap.
-/
import Derived.Test.YtbghfhladigeiaaDuSwap
import Derived.Test.YtbghfhladigeiaaDuLiftsLaw
namespace Go.Proofs.Ytbghfhladigeiaa
open Go.ChangeShapes Go.WideShapes Go.ChangeAt Go.RowKit
set_option maxRecDepth 100000

theorem pair_parts {gs ss : List Int} (h : pairB gs ss = true) : dpartB gs = true ∧ dpartB ss = true ∧ gs.length = ss.length := by
  rw [pair_cases, Bool.and_eq_true, Bool.and_eq_true, decide_eq_true_eq] at h
  exact h
/-- right, for a pair. -/
theorem right_ok (gs ss : List Int) (g s : Value) (w : World) (hp : pairB gs ss = true) (h : IntsV w g gs) (k : IntsV w s ss) :
    Calls Try.prog 40 #[g, s] w fun e w' => e = .returned (.bool (keptB gs ss)) ∧ Below w.heap.size w w' := by
  obtain ⟨hg, hs, hl⟩ := pair_parts hp
  have g1 := dpart_len hg
  have s1 := dpart_len hs
  have HLg := Lib.hid (fun W hW => dlist_any gs g W (by unfold maxLen; omega) hW)
  have HLs := Lib.hid (fun W hW => dlist_any ss s W (by unfold maxLen; omega) hW)
  rw [dtake hg] at HLg
  rw [dtake hs] at HLs
  have HC := Lib.hid (fun a b W ha hb => Check_ok gs ss a b W hp ha hb)
  have H := Lib.hid h
  have K := Lib.hid k
  have HZ := Lib.hid (faultP_zero gs ss)
  have HE := Lib.hid (show keptB gs ss = true → faultP gs ss = (0, 0) from fun h => faultP_kept h)
  obtain ⟨ao, cap, hv, _⟩ := h
  obtain ⟨bo, cap', hu, _⟩ := k
  subst hv hu
  clear hp hg hs hl g1 s1
  cases hk : keptB gs ss
  · have HV := Lib.hid (show checkV gs ss = .tuple #[.int .i64 ((faultP gs ss).1 : Nat), .int .i64 ((faultP gs ss).2 : Nat), .int .i64 0] by unfold checkV; rw [hk]; rfl)
    rw [HV.out] at HC
    clear hk
    generalize (((faultP gs ss).1 : Nat) : Int) = f1 at *
    generalize (((faultP gs ss).2 : Nat) : Int) = f2 at *
    go_enter Try.func40, Try.ntmps40
    go_wp2_with fail
    refine (HLg.out _ H.out).mono ?_
    rintro e w1 ⟨v1, rfl, i1, b1⟩
    have B1 := Lib.hid b1
    have I1 := Lib.hid i1
    clear i1 b1
    go_wp2_with fail
    refine (HLs.out _ (K.out.later B1.out)).mono ?_
    rintro e w2 ⟨v2, rfl, i2, b2⟩
    have B2 := Lib.hid (below_nx B1.out b2)
    have C2 := Lib.hid (HC.out v1 v2 w2 (I1.out.later b2) i2)
    clear i2 b2
    go_wp2_with fail
    refine C2.out.mono ?_
    rintro e w3 ⟨rfl, b3⟩
    have B3 := Lib.hid (below_nx B2.out b3)
    clear b3
    go_wp2
    go_ret
    exact ⟨rfl, B3.out⟩
  · have HV := Lib.hid (show checkV gs ss = .tuple #[.int .i64 0, .int .i64 0, .int .i64 4] by unfold checkV; rw [hk, faultP_kept hk]; rfl)
    rw [HV.out] at HC
    clear hk
    go_enter Try.func40, Try.ntmps40
    go_wp2_with fail
    refine (HLg.out _ H.out).mono ?_
    rintro e w1 ⟨v1, rfl, i1, b1⟩
    have B1 := Lib.hid b1
    have I1 := Lib.hid i1
    clear i1 b1
    go_wp2_with fail
    refine (HLs.out _ (K.out.later B1.out)).mono ?_
    rintro e w2 ⟨v2, rfl, i2, b2⟩
    have B2 := Lib.hid (below_nx B1.out b2)
    have C2 := Lib.hid (HC.out v1 v2 w2 (I1.out.later b2) i2)
    clear i2 b2
    go_wp2_with fail
    refine C2.out.mono ?_
    rintro e w3 ⟨rfl, b3⟩
    have B3 := Lib.hid (below_nx B2.out b3)
    clear b3
    go_wp2
    go_ret
    exact ⟨rfl, B3.out⟩

set_option maxHeartbeats 4000000 in
theorem DuetsTurned_walk (gs ss : List Int) (g s : Value) (w : World) (hl : gs.length ≤ maxLen) (h : IntsV w g gs) (hm : ss.length ≤ maxLen) (k : IntsV w s ss) :
    Calls Try.prog 15 #[g, s] w fun e w' => e = .returned (.bool true) ∧ Below w.heap.size w w' := by
  have HAw := Lib.hid (fun W => dawake_any W)
  have HLg := Lib.hid (fun W hW => dlist_any gs g W hl hW)
  have HLs := Lib.hid (fun W hW => dlist_any ss s W hm hW)
  have HPr := Lib.hid (fun W a b => lpair_any gs ss g s W hl hm a b)
  have H := Lib.hid h
  have K := Lib.hid k
  cases hp : pairB gs ss
  · have hpt : pairB (gs.take 11) (ss.take 11) = false := by rw [pair_take]; exact hp
    have HB := Lib.hid (fun a b W ha hb => Swap_bad (gs.take 11) (ss.take 11) a b W take11 take11 hpt ha hb)
    obtain ⟨ao, cap, hv, _⟩ := h
    obtain ⟨bo, cap', hu, _⟩ := k
    subst hv hu
    clear hp hpt hl hm
    go_enter Try.func15, Try.ntmps15
    go_wp2_with fail
    refine (HLg.out _ H.out).mono ?_
    rintro e w1 ⟨v1, rfl, i1, b1⟩
    have B1 := Lib.hid b1
    have I1 := Lib.hid i1
    clear i1 b1
    go_wp2_with fail
    refine (HLs.out _ (K.out.later B1.out)).mono ?_
    rintro e w2 ⟨v2, rfl, i2, b2⟩
    have B2 := Lib.hid (below_nx B1.out b2)
    have C2 := Lib.hid (HB.out v1 v2 w2 (I1.out.later b2) i2)
    clear i2 b2
    go_wp2_with fail
    refine C2.out.mono ?_
    rintro e w3 ⟨rfl, rfl⟩
    go_wp2_with fail
    refine (HAw.out _).mono ?_
    rintro e w4 ⟨rfl, b4⟩
    go_wp2
    go_ret
    exact ⟨rfl, below_nx B2.out b4⟩
  · obtain ⟨hg, hs, hlen⟩ := pair_parts hp
    have g1 := dpart_len hg
    have s1 := dpart_len hs
    rw [dtake hg] at HLg
    rw [dtake hs] at HLs
    rw [hp] at HPr
    cases hb : swapB gs ss
    · have HB := Lib.hid (fun a b W ha hb' => Swap_none gs ss a b W hp hb ha hb')
      obtain ⟨ao, cap, hv, _⟩ := h
      obtain ⟨bo, cap', hu, _⟩ := k
      subst hv hu
      clear hp hl hm hb g1 s1 hg hs hlen
      go_enter Try.func15, Try.ntmps15
      go_wp2_with fail
      refine (HLg.out _ H.out).mono ?_
      rintro e w1 ⟨v1, rfl, i1, b1⟩
      have B1 := Lib.hid b1
      have I1 := Lib.hid i1
      clear i1 b1
      go_wp2_with fail
      refine (HLs.out _ (K.out.later B1.out)).mono ?_
      rintro e w2 ⟨v2, rfl, i2, b2⟩
      have B2 := Lib.hid (below_nx B1.out b2)
      have C2 := Lib.hid (HB.out v1 v2 w2 (I1.out.later b2) i2)
      clear i2 b2
      go_wp2_with fail
      refine C2.out.mono ?_
      rintro e w3 ⟨rfl, b3⟩
      have B3 := Lib.hid (below_nx B2.out b3)
      clear b3
      go_wp2_with fail
      refine (HAw.out _).mono ?_
      rintro e w4 ⟨rfl, b4⟩
      go_wp2
      go_ret
      exact ⟨rfl, below_nx B3.out b4⟩
    · have HB := Lib.hid (fun a b W ha hb' => Swap_in gs ss a b W hp hb ha hb')
      have HR := Lib.hid (fun W ha hb' => right_ok gs ss g s W hp ha hb')
      unfold swapB at hb
      rw [Bool.and_eq_true, Bool.and_eq_true, Bool.not_eq_true'] at hb
      obtain ⟨hk, hn, hx⟩ := hb
      rw [hk] at HR
      have HQ := Lib.hid (fun a W ha hb' => Equal_any ss ss a s W hm hm ha hb')
      rw [show (ss == ss) = true from beq_self_eq_true _] at HQ
      have HNx := Lib.hid (fun i (hi : i < gs.length) => show 0 ≤ nAt gs i ∧ nAt gs i ≤ 13 ∧ 0 ≤ nAt ss i ∧ nAt ss i ≤ 20 ∧ nAt ss i ≤ nAt gs i + 7 from by
        have a1 := note_at g1.2.2 hi
        have a2 := note_at s1.2.2 (show i < ss.length by omega)
        have e1 : nAt (liftP 7 gs) i = nAt gs i + 7 := by unfold nAt liftP; rw [List.getElem?_map, List.getElem?_eq_getElem hi]; rfl
        have a3 := note_at hn (show i < (liftP 7 gs).length by rw [liftP_len]; exact hi)
        have a4 : ¬ nAt (liftP 7 gs) i < nAt ss i := fun hh => by
          have := of_decide_eq_false hx
          exact this ⟨i, by omega, hh⟩
        omega)
      have HP7 := Lib.hid (fun i (hi : i < gs.length) => show nAt (liftP 7 gs) i = nAt gs i + 7 by unfold nAt liftP; rw [List.getElem?_map, List.getElem?_eq_getElem hi]; rfl)
      obtain ⟨b1', o1, c1', hv, hc1⟩ := d_cells h (by omega)
      obtain ⟨b2', o2, c2', hu, hc2⟩ := d_cells k (by omega)
      have HC1 := Lib.hid hc1
      have HC2 := Lib.hid hc2
      have HD := Lib.hid (fun (u : Value) W (hu : IntsV W u ss) => d_cells hu (by omega))
      have HE := Lib.hid (fun (u : Value) W (hu : IntsV W u (liftP 7 gs)) => d_cells hu (by rw [liftP_len]; omega))
      rw [liftP_len] at HE
      obtain ⟨L, hL⟩ : ∃ L, gs.length = L := ⟨_, rfl⟩
      have hL2 : ss.length = L := by omega
      have l1 : 1 ≤ L := by omega
      have l8 : L ≤ 8 := by omega
      rw [hL] at hv hc1 HC1 HE HNx HP7
      rw [hL2] at hu hc2 HC2 HD
      subst hv hu
      clear hp hl hm g1 s1 hg hs hlen hk hn hx h k hc1 hc2 hL hL2
      generalize liftP 7 gs = ls at *
      go_enter Try.func15, Try.ntmps15
      go_wp2_with fail
      refine (HLg.out _ H.out).mono ?_
      rintro e w1 ⟨v1, rfl, i1, b1⟩
      have B1 := Lib.hid b1
      have I1 := Lib.hid i1
      clear i1 b1
      go_wp2_with fail
      refine (HLs.out _ (K.out.later B1.out)).mono ?_
      rintro e w2 ⟨v2, rfl, i2, b2⟩
      have B2 := Lib.hid (below_nx B1.out b2)
      have C2 := Lib.hid (HB.out v1 v2 w2 (I1.out.later b2) i2)
      clear i2 b2
      go_wp2_with fail
      refine C2.out.mono ?_
      rintro e w3 ⟨v3, v4, rfl, i3, i4, b3⟩
      have B3 := Lib.hid (below_nx B2.out b3)
      obtain ⟨ba, oa, ca, ea, ha⟩ := HD.out v3 w3 i3
      obtain ⟨bb, ob, cb, eb, hbc⟩ := HE.out v4 w3 i4
      subst ea eb
      have I3 := Lib.hid i3
      have HA := Lib.hid ha
      have HBc := Lib.hid hbc
      clear b3 i3 i4 ha hbc
      go_wp2_with fail
      refine (HPr.out _ (H.out.later B3.out) (K.out.later B3.out)).mono ?_
      rintro e w4 ⟨rfl, rfl⟩
      go_wp2_with fail
      refine (HR.out _ (H.out.later B3.out) (K.out.later B3.out)).mono ?_
      rintro e w4 ⟨rfl, b4⟩
      have B4 := Lib.hid (below_nx B3.out b4)
      have HA4 := Lib.hid (fun i hi => cell_later b4 (HA.out i hi))
      have HB4 := Lib.hid (fun i hi => cell_later b4 (HBc.out i hi))
      have Q4 := Lib.hid (HQ.out _ w4 (I3.out.later b4) (K.out.later B4.out))
      clear b4
      have hLL : ((L : Int) != (L : Int)) = false := by rw [bne_eq_false_iff_eq]
      go_wp2_with fail
      refine Q4.out.mono ?_
      rintro e w5 ⟨rfl, q, rfl⟩
      have B5 := Lib.hid (below_drewN B4.out q)
      have HA5 := Lib.hid (show ∀ i, i < L → (w4.drewN q).cell? ⟨ba, oa + i, none⟩ = some (.int .i64 (nAt ss i)) from HA4.out)
      have HB5 := Lib.hid (show ∀ i, i < L → (w4.drewN q).cell? ⟨bb, ob + i, none⟩ = some (.int .i64 (nAt ls i)) from HB4.out)
      generalize w4.drewN q = w5 at *
      go_wp2
      go_loopw [61] (fun t wr => ∃ j d : Nat, j ≤ L ∧ t = .int .i64 j ∧ wr = w5.drewN d) (fun t _ => L - (intOf t).toNat)
      case atStart => exact ⟨0, 0, Nat.zero_le _, rfl, rfl⟩
      case round =>
        obtain ⟨j, d, hj, rfl, rfl⟩ := hrel
        by_cases hlt : j < L
        · have a1 : (w5.drewN d).cell? ⟨ba, oa + j, none⟩ = some (.int .i64 (nAt ss j)) := HA5.out j hlt
          have a2 : (w5.drewN d).cell? ⟨bb, ob + j, none⟩ = some (.int .i64 (nAt ls j)) := HB5.out j hlt
          have a3 : (w5.drewN d).cell? ⟨b1', o1 + j, none⟩ = some (.int .i64 (nAt gs j)) := cell_later (below_drewN B5.out d) (HC1.out j hlt)
          have a4 : (w5.drewN d).cell? ⟨b2', o2 + j, none⟩ = some (.int .i64 (nAt ss j)) := cell_later (below_drewN B5.out d) (HC2.out j hlt)
          have hn := HNx.out j hlt
          rw [HP7.out j hlt] at a2
          generalize nAt gs j = x at *
          generalize nAt ss j = y at *
          obtain ⟨n1, n2, n3, n4, n5⟩ := hn
          have q1 : ((x + 7 - y) != (7 - (y - x))) = false := by rw [bne_eq_false_iff_eq]; omega
          have q2 : decide (x + 7 < y) = false := decide_eq_false (by omega)
          have q3 : decide (20 < x + 7) = false := decide_eq_false (by omega)
          obtain ⟨wj, hwj⟩ : ∃ wj, w5.drewN d = wj := ⟨_, rfl⟩
          rw [hwj] at a1 a2 a3 a4 ⊢
          have HWJ := Lib.hid hwj
          clear hwj
          go_wp2
          go_quiet (fail)
          go_wp2
          go_roundw
          case rel => exact ⟨j + 1, d + nq, by omega, by go_num, by rw [← HWJ.out]; first | rfl | simp only [World.drewN_drewN]⟩
          case measure => simp only [intOf]; omega
        · go_wp2_with fail
          refine (HAw.out _).mono ?_
          rintro e w6 ⟨rfl, b6⟩
          go_wp2
          go_ret
          exact ⟨rfl, below_nx (below_drewN B5.out d) b6⟩
end Go.Proofs.Ytbghfhladigeiaa
