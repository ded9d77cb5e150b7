/-
  Pairs of parts; the first fault; Check; copies of arguments; Count; that one note has three right ones.
-/
import Derived.Test.YtlmfmfbnbbooaaaDuFns
namespace Go.Proofs.Ytlmfmfbnbbooaaa
open Go.RowKit Go.Shelf Go.ChangeShapes Go.WideShapes Go.ChangeAt
attribute [local go_sem] Oper.semAt_some
set_option maxRecDepth 100000

theorem pair_cases (a b : List Int) : pairB a b = (dpartB a && (dpartB b && decide (a.length = b.length))) := by unfold pairB; rw [Bool.and_assoc]
theorem validPair_any (xs zs : List Int) (v u : Value) (w : World) (hl : xs.length ≤ maxLen) (hm : zs.length ≤ maxLen) (h : IntsV w v xs) (k : IntsV w u zs) :
    Calls Try.prog 83 #[v, u] w fun e w' => e = .returned (.bool (pairB xs zs)) ∧ w = w' := by
  have H1 := Lib.hid (isPart_any xs v w hl h)
  have H2 := Lib.hid (isPart_any zs u w hm k)
  have HE := Lib.hid (pair_cases xs zs)
  obtain ⟨ao, cap, rfl, _⟩ := h
  obtain ⟨bo, cap', rfl, _⟩ := k
  obtain ⟨D, hD⟩ : ∃ D, decide (xs.length = zs.length) = D := ⟨_, rfl⟩
  have hq : ((xs.length : Int) == (zs.length : Int)) = D := by rw [← hD, Bool.eq_iff_iff, beq_iff_eq, decide_eq_true_eq]; omega
  rw [hD] at HE
  unfold maxLen at hl hm
  clear hD
  generalize pairB xs zs = B at *
  cases h1 : dpartB xs <;> rw [h1] at H1 HE
  · go_enter Try.func83, Try.ntmps83
    go_wp2_with fail
    refine H1.out.mono ?_
    rintro e w1 ⟨rfl, rfl⟩
    go_wp2
    go_ret
    exact ⟨ret_bool (by rw [HE.out]; rfl), rfl⟩
  · cases h2 : dpartB zs <;> rw [h2] at H2 HE
    · go_enter Try.func83, Try.ntmps83
      go_wp2_with fail
      refine H1.out.mono ?_
      rintro e w1 ⟨rfl, rfl⟩
      go_wp2_with fail
      refine H2.out.mono ?_
      rintro e w1 ⟨rfl, rfl⟩
      go_wp2
      go_ret
      exact ⟨ret_bool (by rw [HE.out]; rfl), rfl⟩
    · go_enter Try.func83, Try.ntmps83
      go_wp2_with fail
      refine H1.out.mono ?_
      rintro e w1 ⟨rfl, rfl⟩
      go_wp2_with fail
      refine H2.out.mono ?_
      rintro e w1 ⟨rfl, rfl⟩
      go_wp2
      go_ret
      exact ⟨ret_bool (by first | (rw [HE.out]; exact hq) | (rw [HE.out]; simp only [Bool.true_and]; exact hq) | (rw [HE.out]; rfl) | rw [HE.out]), rfl⟩
theorem lpair_any (xs zs : List Int) (v u : Value) (w : World) (hl : xs.length ≤ maxLen) (hm : zs.length ≤ maxLen) (h : IntsV w v xs) (k : IntsV w u zs) :
    Calls Try.prog 40 #[v, u] w fun e w' => e = .returned (.bool (pairB xs zs)) ∧ w = w' := by
  have H1 := Lib.hid (RPartD_any xs v w hl h)
  have H2 := Lib.hid (RPartD_any zs u w hm k)
  have HE := Lib.hid (pair_cases xs zs)
  obtain ⟨ao, cap, rfl, _⟩ := h
  obtain ⟨bo, cap', rfl, _⟩ := k
  obtain ⟨D, hD⟩ : ∃ D, decide (xs.length = zs.length) = D := ⟨_, rfl⟩
  have hq : ((xs.length : Int) == (zs.length : Int)) = D := by rw [← hD, Bool.eq_iff_iff, beq_iff_eq, decide_eq_true_eq]; omega
  rw [hD] at HE
  unfold maxLen at hl hm
  clear hD
  generalize pairB xs zs = B at *
  cases h1 : dpartB xs <;> rw [h1] at H1 HE
  · go_enter Try.func40, Try.ntmps40
    go_wp2_with fail
    refine H1.out.mono ?_
    rintro e w1 ⟨rfl, rfl⟩
    go_wp2
    go_ret
    exact ⟨ret_bool (by rw [HE.out]; rfl), rfl⟩
  · cases h2 : dpartB zs <;> rw [h2] at H2 HE
    · go_enter Try.func40, Try.ntmps40
      go_wp2_with fail
      refine H1.out.mono ?_
      rintro e w1 ⟨rfl, rfl⟩
      go_wp2_with fail
      refine H2.out.mono ?_
      rintro e w1 ⟨rfl, rfl⟩
      go_wp2
      go_ret
      exact ⟨ret_bool (by rw [HE.out]; rfl), rfl⟩
    · go_enter Try.func40, Try.ntmps40
      go_wp2_with fail
      refine H1.out.mono ?_
      rintro e w1 ⟨rfl, rfl⟩
      go_wp2_with fail
      refine H2.out.mono ?_
      rintro e w1 ⟨rfl, rfl⟩
      go_wp2
      go_ret
      exact ⟨ret_bool (by first | (rw [HE.out]; exact hq) | (rw [HE.out]; simp only [Bool.true_and]; exact hq) | (rw [HE.out]; rfl) | rw [HE.out]), rfl⟩

theorem dlist_any (xs : List Int) (v : Value) (w : World) (hl : xs.length ≤ maxLen) (h : IntsV w v xs) :
    Calls Try.prog 39 #[v] w fun e w' => ∃ v', e = .returned v' ∧ IntsV w' v' (xs.take 11) ∧ Below w.heap.size w w' := by
  have HT := Lib.hid (IntsV.cut h 11)
  obtain ⟨ao, cap, rfl, hlc, _⟩ := h
  unfold maxLen at hl
  have h0 : 0 ≤ min (xs.length : Int) 11 := by omega
  have h2 : min (xs.length : Int) 11 ≤ cap := by omega
  have HM := Lib.hid (show (min (xs.length : Int) 11).toNat = (xs.take 11).length by rw [List.length_take]; omega)
  go_enter Try.func39, Try.ntmps39
  go_wp2_with fail
  rw [HM.out]
  have HC := Lib.hid (Clone_any (xs.take 11) (.slice ao (xs.take 11).length cap) w (by rw [List.length_take]; omega) (HT.out ao cap rfl))
  refine HC.out.mono ?_
  rintro e w1 ⟨v', rfl, h3, h4⟩
  have H3 := Lib.hid h3
  clear h3
  go_wp2
  go_ret
  exact ⟨v', rfl, H3.out, h4⟩
theorem take11 {xs : List Int} : (xs.take 11).length ≤ maxLen := by rw [List.length_take]; unfold maxLen; omega
theorem dpart_take (xs : List Int) : dpartB (xs.take 11) = dpartB xs := by
  by_cases h : xs.length ≤ 11
  · rw [List.take_of_length_le h]
  · unfold dpartB
    rw [decide_eq_false (fun hh => by have := hh.2; rw [List.length_take] at this; omega), decide_eq_false (fun hh => by have := hh.2; omega)]; rfl
theorem dpart_len {xs : List Int} (h : dpartB xs = true) : 1 ≤ xs.length ∧ xs.length ≤ 8 ∧ notesB xs = true := by
  unfold dpartB at h
  rw [Bool.and_eq_true, decide_eq_true_eq] at h
  exact ⟨h.1.1, h.1.2, h.2⟩
theorem dtake {xs : List Int} (h : dpartB xs = true) : xs.take 11 = xs := List.take_of_length_le (by have := dpart_len h; omega)
theorem pair_take (xs zs : List Int) : pairB (xs.take 11) (zs.take 11) = pairB xs zs := by
  rw [pair_cases, pair_cases, dpart_take, dpart_take]
  cases h1 : dpartB xs
  · rfl
  · cases h2 : dpartB zs
    · rfl
    · rw [dtake h1, dtake h2]

/-- The first place at which a rule is not kept, and the rule; 0 and 0: there is none. -/
def faultP (gs ss : List Int) : Nat × Nat := (firstF gs ss).getD (0, 0)
theorem firstF_none {gs ss : List Int} (h : ∀ i, i < ss.length → faultN gs ss i = 0) : firstF gs ss = none := by
  unfold firstF
  rw [Option.map_eq_none_iff, List.find?_eq_none]
  intro i hi
  rw [List.mem_range] at hi
  simpa using h i hi
theorem firstF_some {gs ss : List Int} {k : Nat} (hk : k < ss.length) (h : ∀ i, i < k → faultN gs ss i = 0) (hf : faultN gs ss k ≠ 0) : firstF gs ss = some (k, faultN gs ss k) := by
  unfold firstF
  rw [Option.map_eq_some_iff]
  refine ⟨k, ?_, rfl⟩
  rw [List.find?_eq_some_iff_append]
  refine ⟨by simpa using hf, List.range k, (List.range (ss.length - (k + 1))).map (fun i => k + 1 + i), ?_, fun a ha => ?_⟩
  · rw [← List.singleton_append, ← List.append_assoc, ← List.range_succ, ← List.range_add]
    congr 1
    omega
  · rw [List.mem_range] at ha
    have := h a ha
    simp [this]

set_option maxHeartbeats 1000000 in
theorem firstFault_any (gs ss : List Int) (g s : Value) (w : World) (g8 : gs.length ≤ 8) (hgn : notesB gs = true) (hsn : notesB ss = true) (hle : ss.length ≤ gs.length) (h : IntsV w g gs) (k : IntsV w s ss) :
    Calls Try.prog 84 #[g, s] w fun e w' => e = .returned (.tuple #[.int .i64 ((faultP gs ss).1 : Nat), .int .i64 ((faultP gs ss).2 : Nat)]) ∧ Below w.heap.size w w' := by
  have HF := Lib.hid (fun i (hi : i < ss.length) W (hb : Below w.heap.size w W) => fault_any (i := i) (w := W) ⟨h.later hb, k.later hb, by omega, hi, hgn, hsn, g8⟩)
  have HS := Lib.hid (fun k hk h hf => show faultP gs ss = (k, faultN gs ss k) by unfold faultP; rw [firstF_some (k := k) hk h hf]; rfl)
  have HN := Lib.hid (fun h => show faultP gs ss = (0, 0) by unfold faultP; rw [firstF_none h]; rfl)
  obtain ⟨ao, cap, rfl, _⟩ := h
  obtain ⟨bo, cap', rfl, _⟩ := k
  have hs8 : ss.length ≤ 8 := by omega
  unfold plV at HF
  generalize faultP gs ss = FP at *
  go_enter Try.func84, Try.ntmps84
  go_wp2
  go_loopw [5, 9] (fun r t wr => ∃ j : Nat, j ≤ ss.length ∧ r = .int .i64 0 ∧ t = .int .i64 j ∧ (∀ i, i < j → faultN gs ss i = 0) ∧ Below w.heap.size w wr) (fun _ t _ => ss.length - (intOf t).toNat)
  case atStart => exact ⟨0, Nat.zero_le _, rfl, rfl, fun i hi => by omega, Below.refl _ _⟩
  case round =>
    obtain ⟨j, hj, rfl, rfl, hp, hb⟩ := hrel
    have HB := Lib.hid hb
    have HP := Lib.hid hp
    clear hb hp
    by_cases hlk : j < ss.length
    · have HFj := Lib.hid (HF.out j hlk wr HB.out)
      by_cases hf : faultN gs ss j = 0
      · have HQ := Lib.hid (show ∀ i, i < j + 1 → faultN gs ss i = 0 from fun i hi => by
          by_cases e : i = j
          · subst e; exact hf
          · exact HP.out i (by omega))
        rw [hf] at HFj
        clear hf
        go_wp2_with fail
        refine HFj.out.mono ?_
        rintro e w1 ⟨rfl, b1⟩
        have HB1 := Lib.hid (below_nx HB.out b1)
        clear b1
        go_wp2
        go_roundw
        case rel => exact ⟨j + 1, by omega, by first | rfl | trivial, by go_num, HQ.out, HB1.out⟩
        case measure => simp only [intOf]; omega
      · have HV := Lib.hid (HS.out j hlk HP.out hf)
        have hf' : ((faultN gs ss j : Nat) : Int) ≠ 0 := by omega
        clear hf
        obtain ⟨F, hF⟩ : ∃ F : Int, ((faultN gs ss j : Nat) : Int) = F := ⟨_, rfl⟩
        rw [hF] at HFj hf'
        have HFF := Lib.hid hF
        have qf : (F != 0) = true := by rw [bne_iff_ne]; exact hf'
        clear hf' hF
        go_wp2_with fail
        refine HFj.out.mono ?_
        rintro e w1 ⟨rfl, b1⟩
        have HB1 := Lib.hid (below_nx HB.out b1)
        clear b1
        go_wp2
        go_ret2
        exact ⟨by rw [HV.out, ← HFF.out]; rfl, HB1.out⟩
    · have HV := Lib.hid (HN.out (fun i hi => HP.out i (by omega)))
      go_wp2
      go_ret2
      exact ⟨by rw [HV.out]; rfl, HB.out⟩

theorem faultP_zero (gs ss : List Int) : (faultP gs ss).2 = 0 ↔ keptB gs ss = true := by
  unfold faultP keptB
  cases h : firstF gs ss with
  | none => simp
  | some p =>
    unfold firstF at h
    obtain ⟨i, h1, h2⟩ := Option.map_eq_some_iff.1 h
    have h3 := List.find?_some h1
    subst h2
    simp at h3 ⊢
    exact h3
theorem keepsRules_any (gs ss : List Int) (g s : Value) (w : World) (g8 : gs.length ≤ 8) (hgn : notesB gs = true) (hsn : notesB ss = true) (hle : ss.length ≤ gs.length) (h : IntsV w g gs) (k : IntsV w s ss) :
    Calls Try.prog 89 #[g, s] w fun e w' => e = .returned (.bool (keptB gs ss)) ∧ Below w.heap.size w w' := by
  have HF := Lib.hid (firstFault_any gs ss g s w g8 hgn hsn hle h k)
  obtain ⟨K, hK⟩ : ∃ K, keptB gs ss = K := ⟨_, rfl⟩
  have hq : ((((faultP gs ss).2 : Nat) : Int) == 0) = K := by
    rw [← hK, Bool.eq_iff_iff, beq_iff_eq, ← faultP_zero]; omega
  obtain ⟨ao, cap, rfl, _⟩ := h
  obtain ⟨bo, cap', rfl, _⟩ := k
  rw [hK]
  clear hK
  generalize (((faultP gs ss).1 : Nat) : Int) = f1 at *
  generalize (((faultP gs ss).2 : Nat) : Int) = f2 at *
  go_enter Try.func89, Try.ntmps89
  go_wp2_with fail
  refine HF.out.mono ?_
  rintro e w1 ⟨rfl, b1⟩
  have HB := Lib.hid b1
  clear b1
  go_wp2
  go_ret
  exact ⟨ret_bool (by first | rfl | exact hq), HB.out⟩

/-- What Check says: index, rule, and 4 for none. -/
def checkV (gs ss : List Int) : Value := .tuple #[.int .i64 ((faultP gs ss).1 : Nat), .int .i64 ((faultP gs ss).2 : Nat), .int .i64 (if keptB gs ss = true then 4 else 0)]
theorem faultP_kept {gs ss : List Int} (h : keptB gs ss = true) : faultP gs ss = (0, 0) := by
  unfold keptB at h
  unfold faultP
  cases e : firstF gs ss with
  | none => rfl
  | some p => rw [e] at h; cases h
theorem Check_ok (gs ss : List Int) (g s : Value) (w : World) (hp : pairB gs ss = true) (h : IntsV w g gs) (k : IntsV w s ss) :
    Calls Try.prog 38 #[g, s] w fun e w' => e = .returned (checkV gs ss) ∧ Below w.heap.size w w' := by
  have hp' := hp
  rw [pair_cases, Bool.and_eq_true, Bool.and_eq_true, decide_eq_true_eq] at hp'
  obtain ⟨hg, hs, hl⟩ := hp'
  have g1 := dpart_len hg
  have s1 := dpart_len hs
  have HV := Lib.hid (validPair_any gs ss g s w (by unfold maxLen; omega) (by unfold maxLen; omega) h k)
  rw [hp] at HV
  have HF := Lib.hid (firstFault_any gs ss g s w g1.2.1 g1.2.2 s1.2.2 (by omega) h k)
  have HZ := Lib.hid (faultP_zero gs ss)
  obtain ⟨ao, cap, rfl, _⟩ := h
  obtain ⟨bo, cap', rfl, _⟩ := k
  clear hp hg hs hl g1 s1
  cases hk : keptB gs ss
  · have HC := Lib.hid (show checkV gs ss = .tuple #[.int .i64 ((faultP gs ss).1 : Nat), .int .i64 ((faultP gs ss).2 : Nat), .int .i64 0] by unfold checkV; rw [hk]; rfl)
    have hne : (((faultP gs ss).2 : Nat) : Int) ≠ 0 := fun e => by
      have := HZ.out.1 (by omega)
      rw [hk] at this; cases this
    have hq : ((((faultP gs ss).2 : Nat) : Int) == 0) = false := by rw [beq_eq_false_iff_ne]; exact hne
    clear hne hk
    rw [HC.out]
    generalize (((faultP gs ss).1 : Nat) : Int) = f1 at *
    generalize (((faultP gs ss).2 : Nat) : Int) = f2 at *
    go_enter Try.func38, Try.ntmps38
    go_wp2_with fail
    refine HV.out.mono ?_
    rintro e w1 ⟨rfl, rfl⟩
    go_wp2_with fail
    refine HF.out.mono ?_
    rintro e w1 ⟨rfl, b1⟩
    have HB := Lib.hid b1
    clear b1
    go_wp2
    go_ret3
    exact ⟨rfl, HB.out⟩
  · have HC := Lib.hid (show checkV gs ss = .tuple #[.int .i64 0, .int .i64 0, .int .i64 4] by unfold checkV; rw [hk, faultP_kept hk]; rfl)
    rw [faultP_kept hk] at HF
    clear hk
    rw [HC.out]
    go_enter Try.func38, Try.ntmps38
    go_wp2_with fail
    refine HV.out.mono ?_
    rintro e w1 ⟨rfl, rfl⟩
    go_wp2_with fail
    refine HF.out.mono ?_
    rintro e w1 ⟨rfl, b1⟩
    have HB := Lib.hid b1
    clear b1
    go_wp2
    go_ret3
    exact ⟨rfl, HB.out⟩
theorem Check_bad (gs ss : List Int) (g s : Value) (w : World) (hl : gs.length ≤ maxLen) (hm : ss.length ≤ maxLen) (hp : pairB gs ss = false) (h : IntsV w g gs) (k : IntsV w s ss) :
    Calls Try.prog 38 #[g, s] w fun e w' => e = .returned (.tuple #[.int .i64 0, .int .i64 0, .int .i64 2]) ∧ w = w' := by
  have HV := Lib.hid (validPair_any gs ss g s w hl hm h k)
  rw [hp] at HV
  obtain ⟨ao, cap, rfl, _⟩ := h
  obtain ⟨bo, cap', rfl, _⟩ := k
  go_enter Try.func38, Try.ntmps38
  go_wp2_with fail
  refine HV.out.mono ?_
  rintro e w1 ⟨rfl, rfl⟩
  go_wp2
  go_ret3
  exact ⟨rfl, rfl⟩
end Go.Proofs.Ytlmfmfbnbbooaaa
