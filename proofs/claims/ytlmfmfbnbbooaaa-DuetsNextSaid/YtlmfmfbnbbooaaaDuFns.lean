/-
  Parts, pairs; the first fault; Check; Count; what each statement asks of them first.
-/
import Derived.Test.YtlmfmfbnbbooaaaDuSeq
namespace Go.Proofs.Ytlmfmfbnbbooaaa
open Go.RowKit Go.Shelf Go.ChangeShapes Go.WideShapes Go.ChangeAt
attribute [local go_sem] Oper.semAt_some
set_option maxRecDepth 100000

theorem notes_false {xs : List Int} {x : Int} (hm : x ∈ xs) (h : ¬ (0 ≤ x ∧ x ≤ 20)) : notesB xs = false := by
  unfold notesB
  rw [List.all_eq_false]
  exact ⟨x, hm, by unfold noteB; rw [decide_eq_false h]; simp⟩
theorem notes_all {xs : List Int} (h : ∀ i, i < xs.length → 0 ≤ nAt xs i ∧ nAt xs i ≤ 20) : notesB xs = true := by
  unfold notesB
  rw [List.all_eq_true]
  intro x hx
  obtain ⟨i, hi, rfl⟩ := List.mem_iff_getElem.1 hx
  have := h i hi
  unfold nAt at this
  rw [List.getElem?_eq_getElem hi] at this
  exact decide_eq_true this
theorem nAt_mem {xs : List Int} {i : Nat} (h : i < xs.length) : nAt xs i ∈ xs := by
  unfold nAt; rw [List.getElem?_eq_getElem h]; exact List.getElem_mem h
theorem d_cells {W : World} {v : Value} {xs : List Int} (h : IntsV W v xs) (h0 : 0 < xs.length) : ∃ b off cap, v = .slice (some ⟨b, off, none⟩) xs.length cap ∧ ∀ i, i < xs.length → W.cell? ⟨b, off + i, none⟩ = some (.int .i64 (nAt xs i)) := by
  obtain ⟨ao, cap, rfl, _, hc⟩ := h
  obtain ⟨b, off, rfl, hd⟩ := hc h0
  exact ⟨b, off, cap, rfl, hd⟩

theorem areNotes_any (xs : List Int) (v : Value) (w : World) (hl : xs.length ≤ maxLen) (h : IntsV w v xs) :
    Calls Try.prog 92 #[v] w fun e w' => e = .returned (.bool (notesB xs)) ∧ w = w' := by
  have HX := Lib.hid (fun h0 => d_cells h h0)
  obtain ⟨ao, cap, rfl, _⟩ := h
  unfold maxLen at hl
  go_enter Try.func92, Try.ntmps92
  go_wp2
  go_loopw [7] (fun t wr => ∃ j : Nat, j ≤ xs.length ∧ t = .int .i64 j ∧ (∀ i, i < j → 0 ≤ nAt xs i ∧ nAt xs i ≤ 20) ∧ w = wr) (fun t _ => xs.length - (intOf t).toNat)
  case atStart => exact ⟨0, Nat.zero_le _, rfl, fun i hi => by omega, rfl⟩
  case round =>
    obtain ⟨j, hj, rfl, hp, rfl⟩ := hrel
    by_cases hlk : j < xs.length
    · obtain ⟨b, off, c, e1, hc⟩ := HX.out (by omega)
      cases e1
      have c1 := hc j hlk
      have HM := Lib.hid (nAt_mem hlk)
      have HP := Lib.hid (show (0 ≤ nAt xs j ∧ nAt xs j ≤ 20) → ∀ i, i < j + 1 → 0 ≤ nAt xs i ∧ nAt xs i ≤ 20 from fun h i hi => by
        by_cases e : i = j
        · subst e; exact h
        · exact hp i (by omega))
      clear hc hp
      generalize nAt xs j = x at c1 HM HP
      by_cases h0 : x < 0
      · have HV := Lib.hid (notes_false HM.out (fun h => by omega))
        go_wp2
        go_ret
        exact ⟨ret_bool HV.out.symm, rfl⟩
      · by_cases h1 : 20 < x
        · have HV := Lib.hid (notes_false HM.out (fun h => by omega))
          go_wp2
          go_ret
          exact ⟨ret_bool HV.out.symm, rfl⟩
        · have HQ := Lib.hid (HP.out (by omega))
          go_wp2
          go_roundw
          case rel => exact ⟨j + 1, by omega, by go_num, HQ.out, trivial⟩
          case measure => simp only [intOf]; omega
    · obtain rfl : j = xs.length := by omega
      have HV := Lib.hid (notes_all hp)
      clear hp
      go_wp2
      go_ret
      exact ⟨ret_bool HV.out.symm, rfl⟩

theorem RNotes_any (xs : List Int) (v : Value) (w : World) (hl : xs.length ≤ maxLen) (h : IntsV w v xs) :
    Calls Try.prog 55 #[v] w fun e w' => e = .returned (.bool (notesB xs && decide (xs.length ≤ 8))) ∧ w = w' := by
  have HX := Lib.hid (fun h0 => d_cells h h0)
  obtain ⟨ao, cap, rfl, _⟩ := h
  unfold maxLen at hl
  go_enter Try.func55, Try.ntmps55
  go_wp2
  go_loopw [7] (fun t wr => ∃ j : Nat, j ≤ xs.length ∧ t = .int .i64 j ∧ (∀ i, i < j → 0 ≤ nAt xs i ∧ nAt xs i ≤ 20) ∧ w = wr) (fun t _ => xs.length - (intOf t).toNat)
  case atStart => exact ⟨0, Nat.zero_le _, rfl, fun i hi => by omega, rfl⟩
  case round =>
    obtain ⟨j, hj, rfl, hp, rfl⟩ := hrel
    by_cases hlk : j < xs.length
    · obtain ⟨b, off, c, e1, hc⟩ := HX.out (by omega)
      cases e1
      have c1 := hc j hlk
      have HM := Lib.hid (nAt_mem hlk)
      have HP := Lib.hid (show (0 ≤ nAt xs j ∧ nAt xs j ≤ 20) → ∀ i, i < j + 1 → 0 ≤ nAt xs i ∧ nAt xs i ≤ 20 from fun h i hi => by
        by_cases e : i = j
        · subst e; exact h
        · exact hp i (by omega))
      clear hc hp
      generalize nAt xs j = x at c1 HM HP
      by_cases h0 : x < 0
      · have HV := Lib.hid (notes_false HM.out (fun h => by omega))
        go_wp2
        go_ret
        exact ⟨ret_bool (by rw [HV.out]; rfl), rfl⟩
      · by_cases h1 : 20 < x
        · have HV := Lib.hid (notes_false HM.out (fun h => by omega))
          go_wp2
          go_ret
          exact ⟨ret_bool (by rw [HV.out]; rfl), rfl⟩
        · have HQ := Lib.hid (HP.out (by omega))
          go_wp2
          go_roundw
          case rel => exact ⟨j + 1, by omega, by go_num, HQ.out, trivial⟩
          case measure => simp only [intOf]; omega
    · obtain rfl : j = xs.length := by omega
      have HV := Lib.hid (notes_all hp)
      clear hp
      by_cases h8 : xs.length ≤ 8
      · have h9 : (xs.length : Int) ≤ 8 := by omega
        have HD := Lib.hid (decide_eq_true h8)
        go_wp2
        go_ret
        exact ⟨ret_bool (by rw [HV.out, HD.out]; rfl), rfl⟩
      · have h9 : ¬ (xs.length : Int) ≤ 8 := by omega
        have HD := Lib.hid (decide_eq_false h8)
        go_wp2
        go_ret
        exact ⟨ret_bool (by first | rfl | (rw [HV.out, HD.out]; rfl) | (rw [HD.out]; simp)), rfl⟩

theorem isPart_any (xs : List Int) (v : Value) (w : World) (hl : xs.length ≤ maxLen) (h : IntsV w v xs) :
    Calls Try.prog 86 #[v] w fun e w' => e = .returned (.bool (dpartB xs)) ∧ w = w' := by
  have HN := Lib.hid (areNotes_any xs v w hl h)
  have HE := Lib.hid (show dpartB xs = (decide (1 ≤ xs.length ∧ xs.length ≤ 8) && notesB xs) from rfl)
  obtain ⟨ao, cap, rfl, _⟩ := h
  unfold maxLen at hl
  generalize notesB xs = N at *
  by_cases h1 : 1 ≤ xs.length
  · by_cases h8 : xs.length ≤ 8
    · have HV := Lib.hid (show dpartB xs = N by rw [HE.out, decide_eq_true ⟨h1, h8⟩]; rfl)
      go_enter Try.func86, Try.ntmps86
      go_wp2_with fail
      refine HN.out.mono ?_
      rintro e w1 ⟨rfl, rfl⟩
      go_wp2
      go_ret
      exact ⟨ret_bool HV.out.symm, rfl⟩
    · have HV := Lib.hid (show dpartB xs = false by rw [HE.out, decide_eq_false (fun h => h8 h.2)]; rfl)
      go_enter Try.func86, Try.ntmps86
      go_wp2
      go_ret
      exact ⟨ret_bool HV.out.symm, rfl⟩
  · have HV := Lib.hid (show dpartB xs = false by rw [HE.out, decide_eq_false (fun h => h1 h.1)]; rfl)
    go_enter Try.func86, Try.ntmps86
    go_wp2
    go_ret
    exact ⟨ret_bool HV.out.symm, rfl⟩

theorem RPartD_any (xs : List Int) (v : Value) (w : World) (hl : xs.length ≤ maxLen) (h : IntsV w v xs) :
    Calls Try.prog 45 #[v] w fun e w' => e = .returned (.bool (dpartB xs)) ∧ w = w' := by
  have HN := Lib.hid (RNotes_any xs v w hl h)
  have HE := Lib.hid (show dpartB xs = (decide (1 ≤ xs.length ∧ xs.length ≤ 8) && notesB xs) from rfl)
  obtain ⟨ao, cap, rfl, _⟩ := h
  unfold maxLen at hl
  generalize hNb : notesB xs = N at *
  cases hb : (N && decide (xs.length ≤ 8)) <;> rw [hb] at HN
  · have HV := Lib.hid (show dpartB xs = false by
      rw [HE.out]
      cases N
      · simp
      · have : ¬ xs.length ≤ 8 := by simpa using hb
        rw [decide_eq_false (fun h => this h.2)]; rfl)
    clear hb hNb
    go_enter Try.func45, Try.ntmps45
    go_wp2_with fail
    refine HN.out.mono ?_
    rintro e w1 ⟨rfl, rfl⟩
    go_wp2
    go_ret
    exact ⟨ret_bool HV.out.symm, rfl⟩
  · rw [Bool.and_eq_true, decide_eq_true_eq] at hb
    obtain ⟨rfl, h8⟩ := hb
    have HV := Lib.hid (show decide (0 < xs.length) = dpartB xs by
      rw [HE.out, Bool.and_true, decide_eq_decide]; omega)
    clear hNb h8
    go_enter Try.func45, Try.ntmps45
    go_wp2_with fail
    refine HN.out.mono ?_
    rintro e w1 ⟨rfl, rfl⟩
    go_wp2
    go_ret
    exact ⟨ret_bool HV.out, rfl⟩
end Go.Proofs.Ytlmfmfbnbbooaaa
