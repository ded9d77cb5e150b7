/-
  Whether a part crosses another one; Swap; whether Check finds nothing.
-/
import Derived.Test.YtlmfmfbnbbooaaaDuLift
namespace Go.Proofs.Ytlmfmfbnbbooaaa
open Go.RowKit Go.Shelf Go.ChangeShapes Go.WideShapes Go.ChangeAt
set_option maxRecDepth 100000

def crossD (ls us : List Int) : Bool := decide (∃ i, i < ls.length ∧ nAt us i < nAt ls i)
set_option maxHeartbeats 1000000 in
theorem crosses_any (ls us : List Int) (v u : Value) (w : World) (h0 : 1 ≤ ls.length) (h8 : ls.length ≤ 8) (he : us.length = ls.length) (h : IntsV w v ls) (k : IntsV w u us) :
    Calls Try.prog 97 #[v, u] w fun e w' => e = .returned (.bool (crossD ls us)) ∧ w = w' := by
  obtain ⟨b, off, cap, rfl, hc⟩ := d_cells h (by omega)
  obtain ⟨b', off', cap', rfl, hd⟩ := d_cells k (by omega)
  have HC := Lib.hid hc
  have HD := Lib.hid hd
  have HT := Lib.hid (fun i (hi : i < ls.length) (hx : nAt us i < nAt ls i) => show crossD ls us = true from decide_eq_true ⟨i, hi, hx⟩)
  have HF := Lib.hid (fun (hx : ∀ i, i < ls.length → ¬ nAt us i < nAt ls i) => show crossD ls us = false from decide_eq_false (fun ⟨i, hi, hh⟩ => hx i hi hh))
  obtain ⟨L, hL⟩ : ∃ L, ls.length = L := ⟨_, rfl⟩
  rw [he, hL] at HD
  rw [he]
  rw [hL] at HC HT HF h0 h8 ⊢
  clear h k hc hd hL he
  go_enter Try.func97, Try.ntmps97
  go_wp2
  go_loopw [9] (fun t wr => ∃ j : Nat, j ≤ L ∧ t = .int .i64 j ∧ (∀ i, i < j → ¬ nAt us i < nAt ls i) ∧ w = wr) (fun t _ => L - (intOf t).toNat)
  case atStart => exact ⟨0, Nat.zero_le _, rfl, fun i hi => by omega, rfl⟩
  case round =>
    obtain ⟨j, hj, rfl, hp, rfl⟩ := hrel
    by_cases hlt : j < L
    · have c1 := HC.out j hlt
      have c2 := HD.out j hlt
      have HT1 := Lib.hid (HT.out j hlt)
      have HP := Lib.hid (show ¬ nAt us j < nAt ls j → ∀ i, i < j + 1 → ¬ nAt us i < nAt ls i from fun h i hi => by
        by_cases e : i = j
        · subst e; exact h
        · exact hp i (by omega))
      clear hp
      generalize nAt us j = x at c2 HT1 HP
      generalize nAt ls j = y at c1 HT1 HP
      by_cases hx : x < y
      · have HV := Lib.hid (HT1.out hx)
        go_wp2
        go_ret
        exact ⟨ret_bool HV.out.symm, rfl⟩
      · have HQ := Lib.hid (HP.out hx)
        go_wp2
        go_roundw
        case rel => exact ⟨j + 1, by omega, by go_num, HQ.out, trivial⟩
        case measure => simp only [intOf]; omega
    · have HV := Lib.hid (HF.out (fun i hi => by have := hp i (by omega); omega))
      clear hp
      go_wp2
      go_ret
      exact ⟨ret_bool HV.out.symm, rfl⟩

/-- Whether Swap goes. -/
def swapB (gs ss : List Int) : Bool := keptB gs ss && (notesB (liftP 7 gs) && !crossD ss (liftP 7 gs))
theorem liftP_len (b' : Int) (xs : List Int) : (liftP b' xs).length = xs.length := by unfold liftP; rw [List.length_map]

set_option maxHeartbeats 1000000 in
theorem Swap_in (gs ss : List Int) (g s : Value) (w : World) (hp : pairB gs ss = true) (hb : swapB gs ss = true) (h : IntsV w g gs) (k : IntsV w s ss) :
    Calls Try.prog 57 #[g, s] w fun e w' => ∃ v1 v2, e = .returned (.tuple #[v1, v2, .int .i64 0]) ∧ IntsV w' v1 ss ∧ IntsV w' v2 (liftP 7 gs) ∧ Below w.heap.size w w' := by
  have hp' := hp
  rw [pair_cases, Bool.and_eq_true, Bool.and_eq_true, decide_eq_true_eq] at hp'
  obtain ⟨hg, hs, hl⟩ := hp'
  have g1 := dpart_len hg
  have s1 := dpart_len hs
  unfold swapB at hb
  rw [Bool.and_eq_true, Bool.and_eq_true, Bool.not_eq_true'] at hb
  obtain ⟨hk, hn, hx⟩ := hb
  have HV := Lib.hid (validPair_any gs ss g s w (by unfold maxLen; omega) (by unfold maxLen; omega) h k)
  rw [hp] at HV
  have HL := Lib.hid (lift_any gs 7 g w g1.1 g1.2.1 g1.2.2 h)
  rw [lift_in g1.2.2 (by omega) (by omega)] at HL
  have HK := Lib.hid (fun W (hb : Below w.heap.size w W) => keepsRules_any gs ss g s W g1.2.1 g1.2.2 s1.2.2 (by omega) (h.later hb) (k.later hb))
  rw [hk] at HK
  have HN := Lib.hid (fun u W hu => areNotes_any (liftP 7 gs) u W (by rw [liftP_len]; unfold maxLen; omega) hu)
  rw [hn] at HN
  have HX := Lib.hid (fun u W (hb : Below w.heap.size w W) hu => crosses_any ss (liftP 7 gs) s u W s1.1 s1.2.1 (by rw [liftP_len]; exact hl) (k.later hb) hu)
  rw [hx] at HX
  have HC := Lib.hid (fun W (hb : Below w.heap.size w W) => Clone_any ss s W (by omega) (k.later hb))
  have H := Lib.hid h
  obtain ⟨ao, cap, rfl, _⟩ := h
  obtain ⟨bo, cap', rfl, _⟩ := k
  clear hp hg hs hl g1 s1 hk hn hx
  generalize liftP 7 gs = ls at *
  go_enter Try.func57, Try.ntmps57
  go_wp2_with fail
  refine HV.out.mono ?_
  rintro e w1 ⟨rfl, rfl⟩
  go_wp2_with fail
  refine HL.out.mono ?_
  rintro e w1 ⟨v1, rfl, i1, b1⟩
  have I1 := Lib.hid i1
  have B1 := Lib.hid b1
  clear i1 b1
  go_wp2_with fail
  refine (HK.out _ B1.out).mono ?_
  rintro e w2 ⟨rfl, b2⟩
  have B2 := Lib.hid (below_nx B1.out b2)
  have I2 := Lib.hid (I1.out.later b2)
  clear b2
  go_wp2_with fail
  refine (HN.out _ _ I2.out).mono ?_
  rintro e w3 ⟨rfl, rfl⟩
  go_wp2_with fail
  refine (HX.out _ _ B2.out I2.out).mono ?_
  rintro e w3 ⟨rfl, rfl⟩
  go_wp2_with fail
  refine (HC.out _ B2.out).mono ?_
  rintro e w4 ⟨v4, rfl, i4, b4⟩
  have B4 := Lib.hid (below_nx B2.out b4)
  have I4 := Lib.hid (I2.out.later b4)
  have J4 := Lib.hid i4
  clear i4 b4
  go_wp2
  go_ret3
  exact ⟨_, _, rfl, J4.out, I4.out, B4.out⟩

set_option maxHeartbeats 1000000 in
theorem Swap_none (gs ss : List Int) (g s : Value) (w : World) (hp : pairB gs ss = true) (hb : swapB gs ss = false) (h : IntsV w g gs) (k : IntsV w s ss) :
    Calls Try.prog 57 #[g, s] w fun e w' => e = .returned (.tuple #[.slice none 0 0, .slice none 0 0, .int .i64 4]) ∧ Below w.heap.size w w' := by
  have hp' := hp
  rw [pair_cases, Bool.and_eq_true, Bool.and_eq_true, decide_eq_true_eq] at hp'
  obtain ⟨hg, hs, hl⟩ := hp'
  have g1 := dpart_len hg
  have s1 := dpart_len hs
  unfold swapB at hb
  have HV := Lib.hid (validPair_any gs ss g s w (by unfold maxLen; omega) (by unfold maxLen; omega) h k)
  rw [hp] at HV
  have HL := Lib.hid (lift_any gs 7 g w g1.1 g1.2.1 g1.2.2 h)
  rw [lift_in g1.2.2 (by omega) (by omega)] at HL
  have HK := Lib.hid (fun W (hb : Below w.heap.size w W) => keepsRules_any gs ss g s W g1.2.1 g1.2.2 s1.2.2 (by omega) (h.later hb) (k.later hb))
  have HN := Lib.hid (fun u W hu => areNotes_any (liftP 7 gs) u W (by rw [liftP_len]; unfold maxLen; omega) hu)
  have HX := Lib.hid (fun u W (hb : Below w.heap.size w W) hu => crosses_any ss (liftP 7 gs) s u W s1.1 s1.2.1 (by rw [liftP_len]; exact hl) (k.later hb) hu)
  have H := Lib.hid h
  obtain ⟨ao, cap, rfl, _⟩ := h
  obtain ⟨bo, cap', rfl, _⟩ := k
  clear hp hg hs hl g1 s1
  generalize liftP 7 gs = ls at *
  generalize keptB gs ss = K at *
  generalize notesB ls = N at *
  generalize crossD ss ls = X at *
  cases K
  · clear hb
    go_enter Try.func57, Try.ntmps57
    go_wp2_with fail
    refine HV.out.mono ?_
    rintro e w1 ⟨rfl, rfl⟩
    go_wp2_with fail
    refine HL.out.mono ?_
    rintro e w1 ⟨v1, rfl, i1, b1⟩
    have I1 := Lib.hid i1
    have B1 := Lib.hid b1
    clear i1 b1
    go_wp2_with fail
    refine (HK.out _ B1.out).mono ?_
    rintro e w2 ⟨rfl, b2⟩
    have B2 := Lib.hid (below_nx B1.out b2)
    clear b2
    go_wp2
    go_ret3
    exact ⟨rfl, B2.out⟩
  cases N
  · clear hb
    go_enter Try.func57, Try.ntmps57
    go_wp2_with fail
    refine HV.out.mono ?_
    rintro e w1 ⟨rfl, rfl⟩
    go_wp2_with fail
    refine HL.out.mono ?_
    rintro e w1 ⟨v1, rfl, i1, b1⟩
    have I1 := Lib.hid i1
    have B1 := Lib.hid b1
    clear i1 b1
    go_wp2_with fail
    refine (HK.out _ B1.out).mono ?_
    rintro e w2 ⟨rfl, b2⟩
    have B2 := Lib.hid (below_nx B1.out b2)
    have I2 := Lib.hid (I1.out.later b2)
    clear b2
    go_wp2_with fail
    refine (HN.out _ _ I2.out).mono ?_
    rintro e w3 ⟨rfl, rfl⟩
    go_wp2
    go_ret3
    exact ⟨rfl, B2.out⟩
  · obtain rfl : X = true := by simpa using hb
    clear hb
    go_enter Try.func57, Try.ntmps57
    go_wp2_with fail
    refine HV.out.mono ?_
    rintro e w1 ⟨rfl, rfl⟩
    go_wp2_with fail
    refine HL.out.mono ?_
    rintro e w1 ⟨v1, rfl, i1, b1⟩
    have I1 := Lib.hid i1
    have B1 := Lib.hid b1
    clear i1 b1
    go_wp2_with fail
    refine (HK.out _ B1.out).mono ?_
    rintro e w2 ⟨rfl, b2⟩
    have B2 := Lib.hid (below_nx B1.out b2)
    have I2 := Lib.hid (I1.out.later b2)
    clear b2
    go_wp2_with fail
    refine (HN.out _ _ I2.out).mono ?_
    rintro e w3 ⟨rfl, rfl⟩
    go_wp2_with fail
    refine (HX.out _ _ B2.out I2.out).mono ?_
    rintro e w3 ⟨rfl, rfl⟩
    go_wp2
    go_ret3
    exact ⟨rfl, B2.out⟩

theorem Swap_bad (gs ss : List Int) (g s : Value) (w : World) (hl : gs.length ≤ maxLen) (hm : ss.length ≤ maxLen) (hp : pairB gs ss = false) (h : IntsV w g gs) (k : IntsV w s ss) :
    Calls Try.prog 57 #[g, s] w fun e w' => e = .returned (.tuple #[.slice none 0 0, .slice none 0 0, .int .i64 2]) ∧ w = w' := by
  have HV := Lib.hid (validPair_any gs ss g s w hl hm h k)
  rw [hp] at HV
  obtain ⟨ga, gc, rfl, _⟩ := h
  obtain ⟨sa, sc, rfl, _⟩ := k
  go_enter Try.func57, Try.ntmps57
  go_wp2_with fail
  refine HV.out.mono ?_
  rintro e w1 ⟨rfl, rfl⟩
  go_wp2
  go_ret3
  exact ⟨rfl, rfl⟩
end Go.Proofs.Ytlmfmfbnbbooaaa
