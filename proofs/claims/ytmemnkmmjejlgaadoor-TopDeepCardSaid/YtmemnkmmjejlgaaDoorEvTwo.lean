/-
  Two of package even; Two and Maker of the reference.
-/
import Derived.Test.YtmemnkmmjejlgaaDoorEvWords2
import Derived.Test.YtmemnkmmjejlgaaDoorEvMake
namespace Go.Proofs.YtmemnkmmjejlgaaDoor
open Go.RowKit Go.Shelf
attribute [local go_sem] Oper.semAt_some
set_option maxRecDepth 100000

/-- Up to j steps there are just two sizes. -/
def twTo (n : Nat) (ts : List Nat) (J : Nat) : Bool := (List.range J).all fun j => decide (j = 0) || (spL n ts j).length == 2
theorem twTo_succ (n : Nat) (ts : List Nat) (J : Nat) : twTo n ts (J + 1) = (twTo n ts J && (decide (J = 0) || (spL n ts J).length == 2)) := by
  unfold twTo; rw [List.range_succ, List.all_append]; simp
theorem twTo_false {n : Nat} {ts : List Nat} {j J : Nat} (hj : 1 ≤ j) (hJ : j < J) (h : ((spL n ts j).length == 2) = false) : twTo n ts J = false := by
  unfold twTo
  rw [List.all_eq_false]
  exact ⟨j, List.mem_range.2 hJ, by rw [h, decide_eq_false (by omega)]; simp⟩
theorem spL_length_le2 (n : Nat) (ts : List Nat) (j : Nat) : (spL n ts j).length ≤ n := by
  unfold spL; exact Nat.le_trans (List.length_filter_le _ _) (by simp)
/-- Whether a scale has the two sizes. -/
def twoB (n s : Nat) : Bool := twTo n (tonesB n s) (tonesB n s).length && decide (1 < (tonesB n s).length)

theorem hasTwo_any (n s : Nat) (h1 : 2 ≤ n) (h2 : n ≤ 16) (h3 : 1 ≤ s) (h4 : s < 2 ^ n) (w : World) (hT : Tab w) :
    Calls Tryd.prog 57 #[.int .i64 n, .int .i64 s] w fun e w' => e = .returned (.bool (twoB n s)) ∧ Below w.heap.size w w' := by
  have HTn := Lib.hid (tones_slice n s h2 h4 h3 w hT)
  have hpos := tonesB_pos h2 h3 h4
  have hle := tonesB_le n s
  have HA : Hid (∀ (j g cap : Nat), 1 ≤ j → j < (tonesB n s).length → ∀ W : World, g < W.heap.size → (∀ i, i < (tonesB n s).length → W.cell? ⟨g, i, none⟩ = some (.int .i64 (((tonesB n s)[i]?.getD 0 : Nat) : Int))) →
      Calls Tryd.prog 54 #[.agg #[.int .i64 n, .slice (some ⟨g, 0, none⟩) (tonesB n s).length cap, .int .i64 j]] W fun e w' => ∃ v, e = .returned v ∧ ListAt w' W.heap.size v (spL n (tonesB n s) j) ∧ Below W.heap.size W w') :=
    Lib.hid (fun j g cap hj1 hj2 W hg hc => different_any n _ j g cap _ (Spn.of h2 h3 h4 (by omega)) (spans_lt hpos hj2) W hg hc)
  have HE := Lib.hid (show (twTo n (tonesB n s) (tonesB n s).length && decide (1 < (tonesB n s).length)) = twoB n s from rfl)
  have HS := Lib.hid (twTo_succ n (tonesB n s))
  have HF : Hid (∀ j, 1 ≤ j → j < (tonesB n s).length → ((spL n (tonesB n s) j).length == 2) = false → twTo n (tonesB n s) (tonesB n s).length = false) := Lib.hid (fun j a b c => twTo_false a b c)
  have H1 := Lib.hid (show twTo n (tonesB n s) 1 = true from rfl)
  have HLe := Lib.hid (fun j => spL_length_le2 n (tonesB n s) j)
  generalize twoB n s = ans at HE
  generalize tonesB n s = ts at *
  obtain ⟨K, hK⟩ : ∃ K, ts.length = K := ⟨_, rfl⟩
  unfold ListAt at HTn HA
  rw [hK] at HTn HA HE HF hpos hle
  clear hT h4 h3 hK
  go_enter Tryd.func57, Tryd.ntmps57
  go_wp2_with fail
  refine HTn.out.mono ?_
  rintro e w1 ⟨_, rfl, ⟨g, cap, rfl, hg, hcap, hc⟩, hb⟩
  have HC := Lib.hid hc
  have hgl : g < w1.heap.size := World.block_lt_of_cell? w1 _ (hc 0 hpos)
  have HG := Lib.hid hgl
  clear hc hgl
  go_wp2
  go_loopw [6] (fun jv wr => ∃ j : Nat, 1 ≤ j ∧ j ≤ K ∧ jv = .int .i64 j ∧ twTo n ts j = true ∧ Below w1.heap.size w1 wr) (fun jv _ => K - (intOf jv).toNat)
  case atStart => exact ⟨1, Nat.le_refl _, hpos, rfl, H1.out, Below.refl _ _⟩
  case round =>
    obtain ⟨j, hj1, hj2, rfl, hev, hB⟩ := hrel
    have HEv := Lib.hid hev
    clear hev
    by_cases hlt : j < K
    · have hB2 : Below w1.heap.size w1 (wr.alloc (Obj.cells #[Value.int .i64 n, .slice (some ⟨g, 0, none⟩) K cap, Value.int .i64 j] 50)) := hB.alloc hB.size _
      have hal := HA.out j g cap hj1 hlt _ (by have := HG.out; have := hB2.size; omega) (fun i hi => cell_later hB2 (HC.out i hi))
      have hst := HS.out j
      rw [HEv.out, Bool.true_and, decide_eq_false (show ¬ j = 0 by omega), Bool.false_or] at hst
      have hff := HF.out j hj1 hlt
      have HB2 := Lib.hid hB2
      have hll := HLe.out j
      have HAl := Lib.hid hal
      generalize (spL n ts j).length = L at HAl hst hff hll
      cases hq : (L == 2)
      · have HFin := Lib.hid (show false = ans by rw [← HE.out, hff hq]; rfl)
        have hq2 : ((L : Int) != 2) = true := by
          rw [bne_iff_ne]
          intro e
          have : L = 2 := by omega
          subst this; cases hq
        clear hal hst hff hB2 hq
        go_wp2_with fail
        refine HAl.out.mono ?_
        rintro e w3 ⟨_, rfl, ⟨g3, cap3, rfl, _, _, _⟩, b3⟩
        have hbb := hb.trans ((HB2.out.trans (b3.mono HB2.out.size)).mono hb.size)
        clear b3
        go_wp2
        go_ret
        exact ⟨ret_bool HFin.out, hbb⟩
      · rw [hq] at hst
        have hq2 : ((L : Int) != 2) = false := by
          rw [bne_eq_false_iff_eq]
          have := eq_of_beq hq
          omega
        have HSt := Lib.hid hst
        clear hal hst hff hB2 hq
        go_wp2_with fail
        refine HAl.out.mono ?_
        rintro e w3 ⟨_, rfl, ⟨g3, cap3, rfl, _, _, _⟩, b3⟩
        have hbb := HB2.out.trans (b3.mono HB2.out.size)
        clear b3
        go_wp2
        go_roundw
        case rel => exact ⟨j + 1, by omega, by omega, by go_num, HSt.out, hbb⟩
        case measure => simp only [intOf]; omega
    · have HFin := Lib.hid (show decide (1 < K) = ans by rw [← HE.out, ← show j = K by omega, HEv.out, Bool.true_and])
      have hbb := hb.trans (hB.mono hb.size)
      go_wp2
      go_ret
      refine ⟨ret_bool ?_, hbb⟩
      rw [← HFin.out, Bool.eq_iff_iff, decide_eq_true_eq, decide_eq_true_eq]
      omega

theorem Two_bad (n s : Int) (h : vldB n s = false) (w : World) :
    Calls Tryd.prog 26 #[.int .i64 n, .int .i64 s] w fun e w' => e = .returned (.tuple #[.bool false, .int .i64 2]) ∧ Below w.heap.size w w' := by
  have HV := Lib.hid (valid1 n s _ h)
  clear h
  go_enter Tryd.func26, Tryd.ntmps26
  go_wp2_with (go_at_call 48; refine (HV.out _ _ _ (cell_at rfl)).mono ?_; rintro e w' ⟨rfl, rfl⟩)
  go_ret2
  exact ⟨rfl, below_two _ _⟩

theorem Two_ok (n s : Nat) (h1 : 2 ≤ n) (h2 : n ≤ 16) (h3 : 1 ≤ s) (h4 : s < 2 ^ n) (w : World) (hT : Tab w) :
    Calls Tryd.prog 26 #[.int .i64 n, .int .i64 s] w fun e w' => e = .returned (.tuple #[.bool (twoB n s), .int .i64 0]) ∧ Below w.heap.size w w' := by
  have HV := Lib.hid (valid1 n s _ (vldB_of_nat h1 h2 h3 h4))
  have hB := below_two w (.cells #[.int .i64 s] 3)
  have HS := Lib.hid (hasTwo_any n s h1 h2 h3 h4 _ (hT.same hB))
  generalize twoB n s = S at HS
  clear hT h4
  go_enter Tryd.func26, Tryd.ntmps26
  go_wp2_with (go_at_call 48; refine (HV.out _ _ _ (cell_at rfl)).mono ?_; rintro e w' ⟨rfl, rfl⟩)
  refine HS.out.mono ?_
  rintro e w2 ⟨rfl, hb⟩
  have hbb := hB.trans (hb.mono hB.size)
  go_wp2
  go_ret2
  exact ⟨rfl, hbb⟩

theorem refTwo_any (n s : Nat) (h1 : 2 ≤ n) (h2 : n ≤ 16) (h3 : 1 ≤ s) (h4 : s < 2 ^ n) (w : World) :
    Calls Tryd.prog 28 #[.int .i64 n, .int .i64 s] w fun e w' => e = .returned (.bool (twoB n s)) ∧ Below w.heap.size w w' := by
  have hpos := tonesB_pos h2 h3 h4
  have hle := tonesB_le n s
  have HT := Lib.hid (refTones_any n s h2 h3 h4 w)
  have HP := Lib.hid (fun j a b W => refSpans_any n s j h1 h2 h3 h4 a b W)
  have HE := Lib.hid (show (twTo n (tonesB n s) (tonesB n s).length && decide (1 < (tonesB n s).length)) = twoB n s from rfl)
  have HS := Lib.hid (twTo_succ n (tonesB n s))
  have HF : Hid (∀ j, 1 ≤ j → j < (tonesB n s).length → ((spL n (tonesB n s) j).length == 2) = false → twTo n (tonesB n s) (tonesB n s).length = false) := Lib.hid (fun j a b c => twTo_false a b c)
  have H1 := Lib.hid (show twTo n (tonesB n s) 1 = true from rfl)
  have HLe := Lib.hid (fun j => spL_length_le2 n (tonesB n s) j)
  generalize twoB n s = ans at HE
  generalize tonesB n s = ts at *
  obtain ⟨K, hK⟩ : ∃ K, ts.length = K := ⟨_, rfl⟩
  unfold ListAt at HT HP
  rw [hK] at HT HP HE HF hpos hle
  clear h3 h4 hK
  go_enter Tryd.func28, Tryd.ntmps28
  go_wp2_with fail
  refine HT.out.mono ?_
  rintro e w1 ⟨_, rfl, ⟨g2, cap2, rfl, _, _, _⟩, hb⟩
  go_wp2
  go_loopw [6] (fun jv wr => ∃ j : Nat, 1 ≤ j ∧ j ≤ K ∧ jv = .int .i64 j ∧ twTo n ts j = true ∧ Below w1.heap.size w1 wr) (fun jv _ => K - (intOf jv).toNat)
  case atStart => exact ⟨1, Nat.le_refl _, hpos, rfl, H1.out, Below.refl _ _⟩
  case round =>
    obtain ⟨j, hj1, hj2, rfl, hev, hB⟩ := hrel
    have HEv := Lib.hid hev
    clear hev
    by_cases hlt : j < K
    · have hst := HS.out j
      rw [HEv.out, Bool.true_and, decide_eq_false (show ¬ j = 0 by omega), Bool.false_or] at hst
      have hff := HF.out j hj1 hlt
      have hll := HLe.out j
      have HAl := Lib.hid (HP.out j hj1 hlt wr)
      generalize (spL n ts j).length = L at HAl hst hff hll
      cases hq : (L == 2)
      · have HFin := Lib.hid (show false = ans by rw [← HE.out, hff hq]; rfl)
        have hq2 : ((L : Int) != 2) = true := by
          rw [bne_iff_ne]
          intro e
          have : L = 2 := by omega
          subst this; cases hq
        clear hst hff hq
        go_wp2_with fail
        refine HAl.out.mono ?_
        rintro e w3 ⟨_, rfl, ⟨g3, cap3, rfl, _, _, _⟩, b3⟩
        have hbb := hb.trans ((hB.trans (b3.mono hB.size)).mono hb.size)
        clear b3
        go_wp2
        go_ret
        exact ⟨ret_bool HFin.out, hbb⟩
      · rw [hq] at hst
        have hq2 : ((L : Int) != 2) = false := by
          rw [bne_eq_false_iff_eq]
          have := eq_of_beq hq
          omega
        have HSt := Lib.hid hst
        clear hst hff hq
        go_wp2_with fail
        refine HAl.out.mono ?_
        rintro e w3 ⟨_, rfl, ⟨g3, cap3, rfl, _, _, _⟩, b3⟩
        have hbb := hB.trans (b3.mono hB.size)
        clear b3
        go_wp2
        go_roundw
        case rel => exact ⟨j + 1, by omega, by omega, by go_num, HSt.out, hbb⟩
        case measure => simp only [intOf]; omega
    · have HFin := Lib.hid (show decide (1 < K) = ans by rw [← HE.out, ← show j = K by omega, HEv.out, Bool.true_and])
      have hbb := hb.trans (hB.mono hb.size)
      go_wp2
      go_ret
      refine ⟨ret_bool ?_, hbb⟩
      rw [← HFin.out, Bool.eq_iff_iff, decide_eq_true_eq, decide_eq_true_eq]
      omega

/-! ### the reference's Maker -/

theorem card_or {n a x : Nat} (hx : x < n) : cardN n (a ||| 2 ^ x) = cardN n a + if a.testBit x then 0 else 1 := by
  unfold cardN
  have h := sum_single n x (fun _ => if a.testBit x then 0 else 1)
  rw [if_pos hx] at h
  rw [← h, ← sum_add]
  refine sum_congr (fun i _ => ?_)
  unfold bI
  rw [Nat.testBit_or, Nat.testBit_two_pow]
  by_cases e : x = i
  · subst e
    rw [if_pos rfl]
    cases a.testBit x <;> simp
  · rw [decide_eq_false e, Bool.or_false, if_neg (show ¬ i = x from fun h => e h.symm), Nat.add_zero]

set_option maxHeartbeats 2000000 in
theorem refMaker_any (n s : Nat) (h1 : 2 ≤ n) (h2 : n ≤ 16) (h3 : 1 ≤ s) (h4 : s < 2 ^ n) (w : World) :
    Calls Tryd.prog 27 #[.int .i64 n, .int .i64 s] w fun e w' => MakerIs n (fun g => makesB n g s) e ∧ Below w.heap.size w w' := by
  have hpos := tonesB_pos h2 h3 h4
  have hle := tonesB_le n s
  have HT := Lib.hid (refTones_any n s h2 h3 h4 w)
  have HCard : Hid (cardN n s = (tonesB n s).length) := Lib.hid (tonesB_card n s).symm
  have HM : Hid (∀ g, makesB n g s = true ↔ ∃ c, c < n ∧ mkN n g (tonesB n s).length c = s) := Lib.hid (fun g => makesB_iff hpos)
  have hp16 : 2 ^ n ≤ 2 ^ 16 := Nat.pow_le_pow_right (by omega) h2
  have HP := Lib.hid hp16
  have hs16 : s < 65536 := by omega
  obtain ⟨p, hp⟩ : ∃ p : Nat → Bool, (fun g => makesB n g s) = p := ⟨_, rfl⟩
  have hpg : ∀ g, makesB n g s = p g := fun g => by rw [← hp]
  have HMp : Hid (∀ g, p g = true ↔ ∃ c, c < n ∧ mkN n g (tonesB n s).length c = s) := Lib.hid (fun g => by rw [← hpg]; exact HM.out g)
  rw [hp]
  clear hp hpg HM
  obtain ⟨K, hK⟩ : ∃ K, (tonesB n s).length = K := ⟨_, rfl⟩
  unfold ListAt at HT
  rw [hK] at HT HCard HMp hpos hle
  clear hK h3 h4 hp16
  go_enter Tryd.func27, Tryd.ntmps27
  go_wp2_with fail
  refine HT.out.mono ?_
  rintro e w1 ⟨_, rfl, ⟨g2, cap2, rfl, _, _, _⟩, hb⟩
  go_wp2
  go_loopw [7] (fun gv wr => ∃ g m : Nat, 1 ≤ g ∧ g ≤ n ∧ gv = .int .i64 g ∧ (∀ h, 1 ≤ h → h < g → p h = false) ∧ wr = w1.drewN m) (fun gv _ => n - (intOf gv).toNat)
  case atStart => exact ⟨1, 0, Nat.le_refl _, by omega, rfl, fun h a b => by omega, rfl⟩
  case round =>
    obtain ⟨g, m, hg1, hg2, rfl, hno, rfl⟩ := hrel
    have HNo := Lib.hid hno
    clear hno
    by_cases hltg : g < n
    · go_wp2
      go_loopw [23] (fun i wr => ∃ c m : Nat, c ≤ n ∧ i = .int .i64 c ∧ (∀ c', c' < c → mkN n g K c' ≠ s) ∧ wr = w1.drewN m) (fun i _ => n - (intOf i).toNat)
      case atStart => exact ⟨0, m, Nat.zero_le _, rfl, fun c' h => by omega, rfl⟩
      case round =>
        obtain ⟨c, m2, hc, rfl, hno2, rfl⟩ := hrel
        have HNo2 := Lib.hid hno2
        clear hno2
        by_cases hltc : c < n
        · go_wp2
          go_loopw [9, 10, 27] (fun t ag i wr => ∃ (b m' : Nat) (q : Bool), b ≤ K ∧ i = .int .i64 b ∧ t = .int .i64 (mkN n g b c : Nat) ∧ ag = .bool q ∧ cardN n (mkN n g b c) + (if q then 1 else 0) ≤ b ∧ wr = w1.drewN m') (fun _ _ i _ => K - (intOf i).toNat)
          case atStart => exact ⟨0, m2, false, Nat.zero_le _, rfl, rfl, rfl, by
            rw [show mkN n g 0 c = 0 from rfl, show cardN n 0 = 0 from by unfold cardN; rw [show sumN n (bI 0) = sumN n (fun _ => 0) from sum_congr (fun i _ => by simp [bI]), sum_zero]]; simp, rfl⟩
          case round =>
            obtain ⟨b, m', q, hb', rfl, rfl, rfl, hcard, rfl⟩ := hrel
            by_cases hltb : b < K
            · have hbg : (b : Int) * g ≤ 256 ∧ 0 ≤ (b : Int) * g := by
                have h9 : b * g ≤ 16 * 16 := Nat.mul_le_mul (by omega) (by omega)
                have : ((b * g : Nat) : Int) = (b : Int) * g := by simp
                omega
              have hu : (c + b * g) % n < n := Nat.mod_lt _ (by omega)
              have ht : ((c : Int) + (b : Int) * g).tmod n = (((c + b * g) % n : Nat) : Int) := by
                rw [Int.tmod_eq_emod_of_nonneg (by omega)]; simp
              have hpw := pow_bd (((c + b * g) % n : Nat) : Int) (by omega) (by omega)
              simp only [Int.toNat_natCast] at hpw
              have hml : mkN n g b c < 2 ^ n := mkN_lt (by omega)
              have hpp := HP.out
              have hbit := bit_int (mkN n g b c) ((c + b * g) % n) (by omega)
              have E2 : Hid (bits .or .i64 ((mkN n g b c : Nat) : Int) ((2 : Int) ^ ((c + b * g) % n)) = ((mkN n g (b + 1) c : Nat) : Int)) := by
                have b3 : 2 ^ ((c + b * g) % n) ≤ 2 ^ 16 := Nat.pow_le_pow_right (by omega) (by omega)
                have e : (2 : Int) ^ ((c + b * g) % n) = ((2 ^ ((c + b * g) % n) : Nat) : Int) := by simp
                rw [e, or_nat _ _ (by omega) (by omega), mkN_succ]
                exact Lib.hid rfl
              have hcs := card_or (a := mkN n g b c) hu
              rw [← mkN_succ] at hcs
              obtain ⟨s', hs2⟩ : ∃ s', mkN n g (b + 1) c = s' := ⟨_, rfl⟩
              rw [hs2] at E2 hcs
              have HS2 := Lib.hid hs2
              have hml2 : ((mkN n g b c : Nat) : Int) ≤ 65536 := by omega
              clear hs2 hml hpp
              generalize mkN n g b c = t at *
              generalize (c + b * g) % n = u at *
              cases hq : t.testBit u
              · rw [hq] at hbit hcs
                simp only [Bool.false_eq_true, if_false] at hbit hcs
                cases q
                all_goals
                  simp only [Bool.false_eq_true, if_false, if_true] at hcard
                  have HC1 := Lib.hid hcs
                  have HC2 := Lib.hid hcard
                  clear hcs hcard hq
                  go_wp2
                  go_roundw
                  case rel => exact ⟨b + 1, m', _, by omega, by go_num, by rw [HS2.out, E2.out], rfl, by rw [HS2.out]; have := HC1.out; have := HC2.out; simp; omega, rfl⟩
                  case measure => simp only [intOf]; omega
              · rw [hq] at hbit hcs
                simp only [if_true] at hbit hcs
                cases q
                all_goals
                  simp only [Bool.false_eq_true, if_false, if_true] at hcard
                  have HC1 := Lib.hid hcs
                  have HC2 := Lib.hid hcard
                  clear hcs hcard hq
                  go_wp2
                  go_roundw
                  case rel => exact ⟨b + 1, m', _, by omega, by go_num, by rw [HS2.out, E2.out], rfl, by rw [HS2.out]; have := HC1.out; have := HC2.out; simp; omega, rfl⟩
                  case measure => simp only [intOf]; omega
            · have HB : Hid (b = K) := Lib.hid (by omega)
              obtain ⟨z, hz⟩ : ∃ z, (((mkN n g b c : Nat) : Int) == (s : Int)) = z := ⟨_, rfl⟩
              have HZ := Lib.hid hz
              cases z
              · have HNo3 := Lib.hid (show ∀ c', c' < c + 1 → mkN n g K c' ≠ s from fun c' h e => by
                  by_cases e2 : c' = c
                  · have h8 := HZ.out
                    rw [beq_eq_false_iff_ne] at h8
                    apply h8
                    rw [HB.out, ← e2, e]
                  · exact HNo2.out c' (by omega) e)
                clear hcard
                generalize ((mkN n g b c : Nat) : Int) = y at hz
                cases q
                all_goals
                  go_wp2
                  go_roundw
                  case rel => exact ⟨c + 1, m', by omega, by go_num, HNo3.out, rfl⟩
                  case measure => simp only [intOf]; omega
              · have hms : mkN n g K c = s := by
                  have h8 := HZ.out
                  rw [beq_iff_eq, HB.out] at h8
                  omega
                have hqf : q = false := by
                  cases q with
                  | false => rfl
                  | true =>
                    have h9 := HCard.out
                    rw [HB.out, hms] at hcard
                    simp at hcard
                    omega
                subst hqf
                have HPg := Lib.hid ((HMp.out g).2 ⟨c, hltc, hms⟩)
                have hbb := below_drewN hb m'
                clear hcard hms
                generalize ((mkN n g b c : Nat) : Int) = y at hz
                go_wp2
                go_ret2
                exact ⟨Or.inl ⟨g, hg1, hltg, HPg.out, HNo.out, rfl⟩, hbb⟩
        · have HNog := Lib.hid (show ∀ h, 1 ≤ h → h < g + 1 → p h = false from fun h a b => by
            by_cases e : h = g
            · subst e
              cases hpv : p h with
              | false => rfl
              | true =>
                obtain ⟨c', hc', he⟩ := (HMp.out h).1 hpv
                exact absurd he (HNo2.out c' (by omega))
            · exact HNo.out h a (by omega))
          go_wp2
          go_roundw
          case rel => exact ⟨g + 1, m2, by omega, by omega, by go_num, HNog.out, rfl⟩
          case measure => simp only [intOf]; omega
    · have HNo3 := Lib.hid (show ∀ h, 1 ≤ h → h < n → p h = false from fun h a b => HNo.out h a (by omega))
      have hbb := below_drewN hb m
      go_wp2
      go_ret2
      exact ⟨Or.inr ⟨HNo3.out, rfl⟩, hbb⟩

end Go.Proofs.YtmemnkmmjejlgaaDoor
