/-
  The walk of the statement on entries.
-/
import Derived.Test.YtehjdhegnpmfaabDoorCaTilesLaw
namespace Go.Proofs.YtehjdhegnpmfaabDoor
open Go.RowKit Go.Shelf
attribute [local go_sem] Oper.semAt_some
set_option maxRecDepth 100000

theorem back_mod (beat y n : Nat) (h : y ≤ n) : ((beat : Int) - (y : Int)) % (n : Int) = (((beat + n - y) % n : Nat) : Int) := by
  rw [← Int.add_emod_right]
  have e : (beat : Int) - y + n = ((beat + n - y : Nat) : Int) := by omega
  rw [e]; simp

set_option maxHeartbeats 2000000 in
theorem CanonEnters_walk (n a b beat : Int) (_w0 : (Lit.int .i64 n).wf = true) (_w1 : (Lit.int .i64 a).wf = true) (_w2 : (Lit.int .i64 b).wf = true) (_w3 : (Lit.int .i64 beat).wf = true) (w : World) (hT : Tab w) :
    Calls Tryd.prog 13 #[.int .i64 n, .int .i64 a, .int .i64 b, .int .i64 beat] w fun e w' => e = .returned (.bool true) ∧ Below w.heap.size w w' := by
  by_cases hok : entOk n a b beat
  · obtain ⟨hv, q1, q2⟩ := hok
    obtain ⟨hva, hvb⟩ := vldB_split hv
    have HVa := Lib.hid (Rhythm_any n a)
    have HVb := Lib.hid (Rhythm_any n b)
    rw [hva] at HVa
    rw [hvb] at HVb
    obtain ⟨n, a, rfl, rfl, hn, hn2, ha, ha1⟩ := vldB_nat hva
    obtain ⟨n', b, hnn, rfl, _, _, hb, hb1⟩ := vldB_nat hvb
    obtain rfl : n = n' := by omega
    obtain ⟨beat, rfl⟩ := Int.eq_ofNat_of_zero_le q1
    have hbt : beat < n := by omega
    clear hnn hv hva hvb
    cases ht : tileB n a b
    · have H2 := Lib.hid (Enter_none n a b beat hn hn2 ha hb ha1 hb1 hbt ht)
      clear ht ha hb ha1 hb1
      go_enter Tryd.func13, Tryd.ntmps13
      go_wp2_with fail
      refine (H2.out _ hT).mono ?_
      rintro e w1 ⟨rfl, b1⟩
      have t1 := hT.same b1
      go_wp2_with fail
      refine (awake2_any _ t1).mono ?_
      rintro e w4 ⟨rfl, b4⟩
      go_wp2
      go_ret
      exact ⟨rfl, below_next b1 b4⟩
    · obtain ⟨y0, h1, h2, h3, h4⟩ := entry_of ht hbt
      have H2 := Lib.hid (Enter_ok n a b beat y0 hn hn2 ha hb ha1 hb1 hbt ht h4)
      have hp24 : 2 ^ n ≤ 2 ^ 24 := Nat.pow_le_pow_right (by omega) hn2
      have HB := Lib.hid (fun x => bit_int b x (by omega))
      have HA := Lib.hid (fun x => bit_int a x (by omega))
      have HU := Lib.hid h3
      have HC := Lib.hid h2
      have hcc := h2
      unfold comes at hcc
      rw [Bool.and_eq_true] at hcc
      have hb0 : (bits .and .i64 ((b : Int) / 2 ^ y0) 1 == 0) = false := by rw [HB.out y0, hcc.1]; rfl
      have hbm := back_mod beat y0 n (by omega)
      have hul : (beat + n - y0) % n < n := Nat.mod_lt _ (by omega)
      have ha0 : (bits .and .i64 ((a : Int) / 2 ^ ((beat + n - y0) % n)) 1 == 0) = false := by rw [HA.out, hcc.2]; rfl
      generalize (beat + n - y0) % n = u at hbm hul ha0
      clear ht ha hb ha1 hb1 h2 h3 h4 hcc
      go_enter Tryd.func13, Tryd.ntmps13
      go_wp2_with fail
      refine (H2.out _ hT).mono ?_
      rintro e w1 ⟨rfl, b1⟩
      have t1 := hT.same b1
      go_wp2_with fail
      refine (HVa.out _).mono ?_
      rintro e w3 ⟨rfl, rfl⟩
      go_wp2_with fail
      refine (HVb.out _).mono ?_
      rintro e w3 ⟨rfl, rfl⟩
      go_wp2_with fail
      clear hbm hul ha0 hb0
      go_loop [11, 80] (fun _ i => ∃ k : Nat, k ≤ n ∧ i = .int .i64 k) (fun _ i => n - (intOf i).toNat)
      case atStart => exact ⟨0, Nat.zero_le _, rfl⟩
      case round =>
        obtain ⟨k, hk, rfl⟩ := hrel
        by_cases hlt : k < n
        · by_cases hk0 : k = y0
          · have hne : ((k : Int) != (y0 : Int)) = false := by rw [hk0]; simp
            clear hk0
            go_wp2
            go_round
            case rel => exact ⟨k + 1, by omega, by go_num⟩
            case measure => simp only [intOf]; omega
          · have hne : ((k : Int) != (y0 : Int)) = true := by rw [bne_iff_ne]; omega
            have hnc : comes n a b beat k = false := by
              cases h : comes n a b beat k
              · rfl
              · exact absurd (HU.out k hlt h) hk0
            unfold comes at hnc
            cases hbk : b.testBit k
            · have hb2 : (bits .and .i64 ((b : Int) / 2 ^ k) 1 == 1) = false := by rw [HB.out k, hbk]; rfl
              clear hk0 hnc hbk
              go_wp2
              go_round
              case rel => exact ⟨k + 1, by omega, by go_num⟩
              case measure => simp only [intOf]; omega
            · have hb2 : (bits .and .i64 ((b : Int) / 2 ^ k) 1 == 1) = true := by rw [HB.out k, hbk]; rfl
              rw [hbk, Bool.true_and] at hnc
              have hbm := back_mod beat k n (by omega)
              have hul : (beat + n - k) % n < n := Nat.mod_lt _ (by omega)
              have ha2 : (bits .and .i64 ((a : Int) / 2 ^ ((beat + n - k) % n)) 1 == 1) = false := by rw [HA.out, hnc]; rfl
              generalize (beat + n - k) % n = u2 at hbm hul ha2 hnc
              clear hk0 hnc hbk
              go_wp2
              go_round
              case rel => exact ⟨k + 1, by omega, by go_num⟩
              case measure => simp only [intOf]; omega
        · go_wp2_with fail
          refine (awake2_any _ t1).mono ?_
          rintro e w4 ⟨rfl, b4⟩
          go_wp2
          go_ret
          exact ⟨rfl, below_next b1 b4⟩
  · have H2 := Lib.hid (Enter_bad n a b beat hok)
    clear hok
    go_enter Tryd.func13, Tryd.ntmps13
    go_wp2_with fail
    refine (H2.out _).mono ?_
    rintro e w1 ⟨rfl, b1⟩
    have t1 := hT.same b1
    go_wp2_with fail
    refine (awake2_any _ t1).mono ?_
    rintro e w4 ⟨rfl, b4⟩
    go_wp2
    go_ret
    exact ⟨rfl, below_next b1 b4⟩

end Go.Proofs.YtehjdhegnpmfaabDoor
