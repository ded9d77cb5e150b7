/-
  Contracts of the small functions of package voices and of its reference: distances, movements, whether slices are voicings or leadings.
-/
import Derived.Test.YtkpiakoijkflmaaRoCut
import Derived.Test.YtkpiakoijkflmaaVoCost
namespace Go.Proofs.Ytkpiakoijkflmaa
open Go.ChangeShapes Go.WideShapes Go.ChangeAt Go.RowKit
set_option maxRecDepth 100000

theorem vmodulo_any (x n : Int) (h0 : 1 ≤ n) (h1 : n ≤ 4294967296) (w : World) :
    Calls Try.prog 68 #[.int .i64 x, .int .i64 n] w fun e w' => e = .returned (.int .i64 (x % n)) ∧ w = w' := by
  have h2 : x.tmod n < n := Int.tmod_lt_of_pos x (by omega)
  have h3 : -n < x.tmod n := Int.lt_tmod_of_pos x (by omega)
  have H := Lib.hid (mod_fix x n)
  go_enter Try.func68, Try.ntmps68
  go_wp2
  go_ret
  exact ⟨ret_int H.out, rfl⟩
theorem vrefmod_any (x n : Int) (h0 : 1 ≤ n) (h1 : n ≤ 4294967296) (w : World) :
    Calls Try.prog 79 #[.int .i64 x, .int .i64 n] w fun e w' => e = .returned (.int .i64 (x % n)) ∧ w = w' := by
  have h2 : x.tmod n < n := Int.tmod_lt_of_pos x (by omega)
  have h3 : -n < x.tmod n := Int.lt_tmod_of_pos x (by omega)
  have H := Lib.hid (mod_fix x n)
  go_enter Try.func79, Try.ntmps79
  go_wp2
  go_ret
  exact ⟨ret_int H.out, rfl⟩

theorem distance_any (n x y : Nat) (hn : n ≤ 16) (hx : x < n) (hy : y < n) (w : World) :
    Calls Try.prog 82 #[.int .i64 n, .int .i64 x, .int .i64 y] w fun e w' => e = .returned (.int .i64 (dsN n x y : Nat)) ∧ w = w' := by
  have HA := Lib.hid (vmodulo_any ((y : Int) - x) n (by omega) (by omega))
  have HB := Lib.hid (vmodulo_any ((x : Int) - y) n (by omega) (by omega))
  rw [up_int hx] at HA
  rw [up_int hy] at HB
  have HD := Lib.hid (show (min (upN n x y : Int) (upN n y x : Int)) = ((dsN n x y : Nat) : Int) by unfold dsN; omega)
  generalize upN n x y = a at *
  generalize upN n y x = b at *
  generalize dsN n x y = d at *
  go_enter Try.func82, Try.ntmps82
  go_wp2_with fail
  refine (HA.out _).mono ?_
  rintro e w1 ⟨rfl, rfl⟩
  go_wp2_with fail
  refine (HB.out _).mono ?_
  rintro e w1 ⟨rfl, rfl⟩
  go_wp2
  go_ret
  exact ⟨ret_int HD.out, rfl⟩

theorem movement_any (n x y : Nat) (hn : n ≤ 16) (hx : x < n) (hy : y < n) (w : World) :
    Calls Try.prog 67 #[.int .i64 n, .int .i64 x, .int .i64 y] w fun e w' => e = .returned (.int .i64 (mvN' n x y)) ∧ w = w' := by
  have HA := Lib.hid (vmodulo_any ((y : Int) - x) n (by omega) (by omega))
  rw [up_int hx] at HA
  have hlt := upN_lt (show 0 < n by omega) x y
  by_cases h : n < 2 * upN n x y
  · have HD := Lib.hid (show mvN' n x y = (upN n x y : Int) - n by unfold mvN'; rw [if_pos h])
    generalize mvN' n x y = d at *
    generalize upN n x y = a at *
    go_enter Try.func67, Try.ntmps67
    go_wp2_with fail
    refine (HA.out _).mono ?_
    rintro e w1 ⟨rfl, rfl⟩
    go_wp2
    go_ret
    exact ⟨ret_int HD.out.symm, rfl⟩
  · have HD := Lib.hid (show mvN' n x y = (upN n x y : Int) by unfold mvN'; rw [if_neg h])
    generalize mvN' n x y = d at *
    generalize upN n x y = a at *
    go_enter Try.func67, Try.ntmps67
    go_wp2_with fail
    refine (HA.out _).mono ?_
    rintro e w1 ⟨rfl, rfl⟩
    go_wp2
    go_ret
    exact ⟨ret_int HD.out.symm, rfl⟩

theorem RMove_any (n x y : Nat) (hn : n ≤ 16) (hx : x < n) (hy : y < n) (w : World) :
    Calls Try.prog 96 #[.int .i64 n, .int .i64 x, .int .i64 y] w fun e w' => e = .returned (.int .i64 (mvN' n x y)) ∧ w = w' := by
  have HA := Lib.hid (vrefmod_any ((y : Int) - x) n (by omega) (by omega))
  rw [up_int hx] at HA
  have hlt := upN_lt (show 0 < n by omega) x y
  by_cases h : n < 2 * upN n x y
  · have HD := Lib.hid (show mvN' n x y = (upN n x y : Int) - n by unfold mvN'; rw [if_pos h])
    generalize mvN' n x y = d at *
    generalize upN n x y = a at *
    go_enter Try.func96, Try.ntmps96
    go_wp2_with fail
    refine (HA.out _).mono ?_
    rintro e w1 ⟨rfl, rfl⟩
    go_wp2
    go_ret
    exact ⟨ret_int HD.out.symm, rfl⟩
  · have HD := Lib.hid (show mvN' n x y = (upN n x y : Int) by unfold mvN'; rw [if_neg h])
    generalize mvN' n x y = d at *
    generalize upN n x y = a at *
    go_enter Try.func96, Try.ntmps96
    go_wp2_with fail
    refine (HA.out _).mono ?_
    rintro e w1 ⟨rfl, rfl⟩
    go_wp2
    go_ret
    exact ⟨ret_int HD.out.symm, rfl⟩

theorem mv_bound {n x y : Nat} (h : 0 < n) : -(n : Int) ≤ mvN' n x y ∧ mvN' n x y ≤ n := by
  have := upN_lt h x y
  unfold mvN'; split <;> omega

theorem RDist_any (n x y : Nat) (hn : n ≤ 16) (hx : x < n) (hy : y < n) (w : World) :
    Calls Try.prog 72 #[.int .i64 n, .int .i64 x, .int .i64 y] w fun e w' => e = .returned (.int .i64 (dsN n x y : Nat)) ∧ w = w' := by
  have HM := Lib.hid (RMove_any n x y hn hx hy)
  obtain ⟨b1, b2⟩ := mv_bound (n := n) (x := x) (y := y) (by omega)
  have HD := Lib.hid (ds_mv hx hy)
  generalize mvN' n x y = m at *
  generalize dsN n x y = d at *
  go_enter Try.func72, Try.ntmps72
  go_wp2_with fail
  refine (HM.out _).mono ?_
  rintro e w1 ⟨rfl, rfl⟩
  go_wp2_with fail
  refine (HM.out _).mono ?_
  rintro e w1 ⟨rfl, rfl⟩
  go_wp2
  go_ret
  exact ⟨ret_int HD.out, rfl⟩

/-! ### voicings -/
def inB (n : Int) (xs : List Int) : Bool := decide (∀ x ∈ xs, 0 ≤ x ∧ x < n)
def voicB (n : Int) (xs : List Int) : Bool := decide (1 ≤ xs.length ∧ xs.length ≤ 6) && inB n xs
def circB (n : Int) : Bool := decide (2 ≤ n ∧ n ≤ 16)

theorem isVoicing_zero (n : Int) (ao : Option Addr) (cap : Nat) (w : World) :
    Calls Try.prog 91 #[.int .i64 n, .slice ao 0 cap] w fun e w' => e = .returned (.bool false) ∧ w = w' := by
  go_enter Try.func91, Try.ntmps91
  go_wp2
  go_ret
  exact ⟨rfl, rfl⟩

theorem in_false {n : Int} {xs : List Int} {x : Int} (hx : x ∈ xs) (h : ¬ (0 ≤ x ∧ x < n)) : inB n xs = false := by
  unfold inB; exact decide_eq_false (fun hh => h (hh x hx))

set_option maxHeartbeats 2000000 in
theorem isVoicing_any (n : Int) (xs : List Int) (v : Value) (w : World) (hl : xs.length ≤ maxLen) (h : IntsV w v xs) :
    Calls Try.prog 91 #[.int .i64 n, v] w fun e w' => e = .returned (.bool (voicB n xs)) ∧ w = w' := by
  unfold maxLen at hl
  obtain ⟨ao, cap, rfl, _, hc⟩ := h
  by_cases h0 : 0 < xs.length
  · obtain ⟨b, off, rfl, hd⟩ := hc h0
    by_cases h6 : xs.length ≤ 6
    · have HV := Lib.hid (show voicB n xs = inB n xs by unfold voicB; rw [decide_eq_true ⟨by omega, h6⟩, Bool.true_and])
      have HC := Lib.hid hd
      clear hc hd
      go_enter Try.func91, Try.ntmps91
      go_wp2
      go_loopw [6, 17] (fun _ i wr => ∃ (k : Nat), k ≤ xs.length ∧ i = .int .i64 k ∧ (∀ x ∈ xs.take k, 0 ≤ x ∧ x < n) ∧ w = wr) (fun _ i _ => xs.length - (intOf i).toNat)
      case atStart => exact ⟨0, Nat.zero_le _, rfl, by simp, rfl⟩
      case round =>
        obtain ⟨k, hk, rfl, hpre, rfl⟩ := hrel
        by_cases hlk : k < xs.length
        · have ck := HC.out k hlk
          have hge : xs[k]?.getD 0 = xs[k] := by rw [List.getElem?_eq_getElem hlk]; rfl
          have HM := Lib.hid (show xs[k] ∈ xs from List.getElem_mem hlk)
          have HT := Lib.hid (show xs.take (k + 1) = xs.take k ++ [xs[k]] from List.take_succ_eq_append_getElem hlk)
          have HP := Lib.hid hpre
          rw [hge] at ck
          clear hge hpre
          generalize xs[k] = x at ck HM HT
          by_cases hx0 : x < 0
          · have HF := Lib.hid (in_false (n := n) HM.out (fun h => by omega))
            go_wp2
            go_ret
            exact ⟨ret_bool (HV.out.trans HF.out).symm, rfl⟩
          · by_cases hx1 : n ≤ x
            · have HF := Lib.hid (in_false (n := n) HM.out (fun h => by omega))
              go_wp2
              go_ret
              exact ⟨ret_bool (HV.out.trans HF.out).symm, rfl⟩
            · go_wp2
              go_roundw
              case rel =>
                refine ⟨k + 1, by omega, by go_num, fun y hy => ?_, trivial⟩
                rw [HT.out] at hy
                rcases List.mem_append.1 hy with hy | hy
                · exact HP.out y hy
                · rw [List.mem_singleton] at hy; omega
              case measure => simp only [intOf]; omega
        · have HE := Lib.hid (show inB n xs = true by
            unfold inB; refine decide_eq_true ?_
            rw [List.take_of_length_le (by omega)] at hpre; exact hpre)
          clear hpre
          go_wp2
          go_ret
          exact ⟨ret_bool (HV.out.trans HE.out).symm, rfl⟩
    · have HV := Lib.hid (show voicB n xs = false by unfold voicB; rw [decide_eq_false (fun h => h6 h.2), Bool.false_and])
      clear hc hd
      go_enter Try.func91, Try.ntmps91
      go_wp2
      go_ret
      exact ⟨ret_bool HV.out.symm, rfl⟩
  · obtain rfl := List.eq_nil_of_length_eq_zero (show xs.length = 0 by omega)
    exact (isVoicing_zero n ao cap w).mono fun e w' h => ⟨h.1.trans (ret_bool (by simp [voicB])), h.2⟩

theorem voic_parts {n : Int} {xs : List Int} (hi : inB n xs = true) : (circB n && voicB n xs) = (decide (2 ≤ n) && (decide (n ≤ 16) && (decide (1 ≤ xs.length) && decide (xs.length ≤ 6)))) := by
  unfold circB voicB
  rw [hi, Bool.decide_and, Bool.decide_and]
  simp [Bool.and_assoc]
theorem voic_false {n : Int} {xs : List Int} (hi : inB n xs = false) : (circB n && voicB n xs) = false := by
  unfold voicB; rw [hi]; simp

theorem RVoicing_zero (n : Int) (ao : Option Addr) (cap : Nat) (w : World) :
    Calls Try.prog 36 #[.int .i64 n, .slice ao 0 cap] w fun e w' => e = .returned (.bool false) ∧ w = w' := by
  go_enter Try.func36, Try.ntmps36
  go_wp2
  go_loopw [6, 9] (fun _ i wr => i = .int .i64 0 ∧ w = wr) (fun _ _ _ => 0)
  case atStart => exact ⟨rfl, rfl⟩
  case round =>
    obtain ⟨rfl, rfl⟩ := hrel
    by_cases h2 : 2 ≤ n
    · by_cases h3 : n ≤ 16
      · go_wp2
        go_ret
        exact ⟨rfl, rfl⟩
      · go_wp2
        go_ret
        exact ⟨rfl, rfl⟩
    · go_wp2
      go_ret
      exact ⟨rfl, rfl⟩

set_option maxHeartbeats 2000000 in
theorem RVoicing_any (n : Int) (xs : List Int) (v : Value) (w : World) (hl : xs.length ≤ maxLen) (h : IntsV w v xs) :
    Calls Try.prog 36 #[.int .i64 n, v] w fun e w' => e = .returned (.bool (circB n && voicB n xs)) ∧ w = w' := by
  unfold maxLen at hl
  obtain ⟨ao, cap, rfl, _, hc⟩ := h
  by_cases h0 : 0 < xs.length
  · obtain ⟨b, off, rfl, hd⟩ := hc h0
    have HC := Lib.hid hd
    clear hc hd
    go_enter Try.func36, Try.ntmps36
    go_wp2
    go_loopw [6, 9] (fun _ i wr => ∃ (k : Nat), k ≤ xs.length ∧ i = .int .i64 k ∧ (∀ x ∈ xs.take k, 0 ≤ x ∧ x < n) ∧ w = wr) (fun _ i _ => xs.length - (intOf i).toNat)
    case atStart => exact ⟨0, Nat.zero_le _, rfl, by simp, rfl⟩
    case round =>
      obtain ⟨k, hk, rfl, hpre, rfl⟩ := hrel
      by_cases hlk : k < xs.length
      · have ck := HC.out k hlk
        have hge : xs[k]?.getD 0 = xs[k] := by rw [List.getElem?_eq_getElem hlk]; rfl
        have HM := Lib.hid (show xs[k] ∈ xs from List.getElem_mem hlk)
        have HT := Lib.hid (show xs.take (k + 1) = xs.take k ++ [xs[k]] from List.take_succ_eq_append_getElem hlk)
        have HP := Lib.hid hpre
        rw [hge] at ck
        clear hge hpre
        generalize xs[k] = x at ck HM HT
        by_cases hx0 : x < 0
        · have HF := Lib.hid (voic_false (in_false (n := n) HM.out (fun h => by omega)))
          go_wp2
          go_ret
          exact ⟨ret_bool HF.out.symm, rfl⟩
        · by_cases hx1 : n ≤ x
          · have HF := Lib.hid (voic_false (in_false (n := n) HM.out (fun h => by omega)))
            go_wp2
            go_ret
            exact ⟨ret_bool HF.out.symm, rfl⟩
          · go_wp2
            go_roundw
            case rel =>
              refine ⟨k + 1, by omega, by go_num, fun y hy => ?_, trivial⟩
              rw [HT.out] at hy
              rcases List.mem_append.1 hy with hy | hy
              · exact HP.out y hy
              · rw [List.mem_singleton] at hy; omega
            case measure => simp only [intOf]; omega
      · have HE := Lib.hid (voic_parts (n := n) (xs := xs) (show inB n xs = true by
          unfold inB; refine decide_eq_true ?_
          rw [List.take_of_length_le (by omega)] at hpre; exact hpre))
        clear hpre
        by_cases h2 : 2 ≤ n
        · by_cases h3 : n ≤ 16
          · by_cases h4 : xs.length ≤ 6
            · go_wp2
              go_ret
              exact ⟨ret_bool (by rw [HE.out, Bool.eq_iff_iff]; simp only [Bool.and_eq_true, decide_eq_true_eq, Bool.false_eq_true, false_iff, true_iff, not_and]; intros; omega), rfl⟩
            · go_wp2
              go_ret
              exact ⟨ret_bool (by rw [HE.out, Bool.eq_iff_iff]; simp only [Bool.and_eq_true, decide_eq_true_eq, Bool.false_eq_true, false_iff, true_iff, not_and]; intros; omega), rfl⟩
          · go_wp2
            go_ret
            exact ⟨ret_bool (by rw [HE.out, Bool.eq_iff_iff]; simp only [Bool.and_eq_true, decide_eq_true_eq, Bool.false_eq_true, false_iff, true_iff, not_and]; intros; omega), rfl⟩
        · go_wp2
          go_ret
          exact ⟨ret_bool (by rw [HE.out, Bool.eq_iff_iff]; simp only [Bool.and_eq_true, decide_eq_true_eq, Bool.false_eq_true, false_iff, true_iff, not_and]; intros; omega), rfl⟩
  · obtain rfl := List.eq_nil_of_length_eq_zero (show xs.length = 0 by omega)
    exact (RVoicing_zero n ao cap w).mono fun e w' h => ⟨h.1.trans (ret_bool (by simp [voicB])), h.2⟩

/-- Two voicings of one length. -/
def twoB (n : Int) (xs zs : List Int) : Bool := circB n && voicB n xs && (circB n && voicB n zs) && decide (xs.length = zs.length)
theorem RTwo_any (n : Int) (xs zs : List Int) (v u : Value) (w : World) (hl : xs.length ≤ maxLen) (hm : zs.length ≤ maxLen) (h : IntsV w v xs) (k : IntsV w u zs) :
    Calls Try.prog 19 #[.int .i64 n, v, u] w fun e w' => e = .returned (.bool (twoB n xs zs)) ∧ w = w' := by
  have HX := Lib.hid (RVoicing_any n xs v w hl h)
  have HZ := Lib.hid (RVoicing_any n zs u w hm k)
  obtain ⟨ao, cap, rfl, _, _⟩ := h
  obtain ⟨bo, cap', rfl, _, _⟩ := k
  have HE := Lib.hid (show twoB n xs zs = ((circB n && voicB n xs) && ((circB n && voicB n zs) && decide (xs.length = zs.length))) by unfold twoB; rw [Bool.and_assoc])
  generalize (circB n && voicB n xs) = p at *
  generalize (circB n && voicB n zs) = q at *
  unfold maxLen at hl hm
  cases p
  · go_enter Try.func19, Try.ntmps19
    go_wp2_with fail
    refine HX.out.mono ?_
    rintro e w1 ⟨rfl, rfl⟩
    go_wp2
    go_ret
    exact ⟨ret_bool (by rw [HE.out]; simp), rfl⟩
  · cases q
    · go_enter Try.func19, Try.ntmps19
      go_wp2_with fail
      refine HX.out.mono ?_
      rintro e w1 ⟨rfl, rfl⟩
      go_wp2_with fail
      refine HZ.out.mono ?_
      rintro e w1 ⟨rfl, rfl⟩
      go_wp2
      go_ret
      exact ⟨ret_bool (by rw [HE.out]; simp), rfl⟩
    · go_enter Try.func19, Try.ntmps19
      go_wp2_with fail
      refine HX.out.mono ?_
      rintro e w1 ⟨rfl, rfl⟩
      go_wp2_with fail
      refine HZ.out.mono ?_
      rintro e w1 ⟨rfl, rfl⟩
      by_cases hlen : xs.length = zs.length
      · have q1 : ((xs.length : Int) == (zs.length : Int)) = true := by rw [beq_iff_eq]; omega
        have HL := Lib.hid hlen
        clear hlen
        go_wp2
        go_ret
        exact ⟨ret_bool (by rw [HE.out]; simp [HL.out]), rfl⟩
      · have q1 : ((xs.length : Int) == (zs.length : Int)) = false := by rw [beq_eq_false_iff_ne]; omega
        have HL := Lib.hid hlen
        clear hlen
        go_wp2
        go_ret
        exact ⟨ret_bool (by rw [HE.out]; simp [HL.out]), rfl⟩
end Go.Proofs.Ytkpiakoijkflmaa
