/-
  What run does, as lists of numbers; no accepted script costs less than the least cost, no accepted heights are above it.
-/
import Derived.Test.YtkpmkeklopfhdaaEdCheck
import Derived.Test.YtkpmkeklopfhdaaEdHts2
import Derived.Test.YtkpmkeklopfhdaaEdScrMath
namespace Go.Proofs.Ytkpmkeklopfhdaa
open Go.ChangeShapes Go.WideShapes Go.ChangeAt Go.RowKit
set_option linter.unusedVariables false
set_option maxRecDepth 100000

def toN (e : Int × Int) : Nat × Nat := (e.1.toNat, e.2.toNat)
def sumNE (pi po ps : Nat) (es : List (Int × Int)) : Nat := (es.map fun e => prc pi po ps e.1.toNat).sum
theorem sumP_N (pi po ps : Nat) : ∀ es : List (Int × Int), sumP pi po ps es = ((sumNE pi po ps es : Nat) : Int)
  | [] => rfl
  | e :: l => by
    have ih := sumP_N pi po ps l
    unfold sumP sumNE at ih ⊢
    simp only [List.map_cons, List.sum_cons, ih]
    push_cast; rfl
theorem editP_byte {e : Int × Int} (h : editP e = true) (hk : e.1 = 1 ∨ e.1 = 3) : ∃ b : Nat, e.2 = b ∧ b < 256 := by
  unfold editP at h
  rw [editB_odd hk, Bool.and_eq_true] at h
  have h1 := of_decide_eq_true h.1
  have h2 := of_decide_eq_true h.2
  exact ⟨e.2.toNat, by omega, by omega⟩
theorem bsN_cons {s : ByteArray} (h : ¬ s.size = 0) : bsN s = atB (bsN s) 0 :: bsN (s.extract 1 s.size) := by
  rw [bsN_rest]
  have := drop_at (L := bsN s) (i := 0) (by rw [bsN_length]; omega)
  simpa using this
theorem bsN_nil {s : ByteArray} (h : s.size = 0) : bsN s = [] := List.eq_nil_of_length_eq_zero (by rw [bsN_length]; exact h)

theorem run_doE (pi po ps : Nat) : ∀ (es : List (Int × Int)) (s s' : ByteArray) (c c' : List UInt8) (cost : Nat), es.all editP = true → runL es s c = some (s', c') →
    doE pi po ps (es.map toN) (bsN s, c.map UInt8.toNat, cost) = some (bsN s', c'.map UInt8.toNat, cost + sumNE pi po ps es)
  | [], s, s', c, c', cost, _, h => by
    simp only [runL, Option.some.injEq, Prod.mk.injEq] at h
    obtain ⟨rfl, rfl⟩ := h
    simp [doE, sumNE]
  | e :: es, s, s', c, c', cost, ha, h => by
    rw [List.all_cons, Bool.and_eq_true] at ha
    have hk := editP_kind ha.1
    have hS : sumNE pi po ps (e :: es) = prc pi po ps e.1.toNat + sumNE pi po ps es := by simp [sumNE]
    rw [hS]
    simp only [runL] at h
    split at h
    case isFalse => cases h
    rename_i hcan
    have ih := run_doE pi po ps es _ _ _ _ (cost + prc pi po ps e.1.toNat) ha.2 h
    rw [List.map_append] at ih
    rw [List.map_cons, ← Nat.add_assoc, ← ih]
    have hone : ∀ b : Nat, b < 256 → (oneS (b : Int)).data.toList.map UInt8.toNat = [b] := fun b hb => bsN_one b hb
    rcases hk with hk | hk | hk | hk
    · have e1 : (toN e) = (0, (toN e).2) := by unfold toN; rw [hk]; rfl
      unfold doneV at hcan ⊢
      rw [hk] at hcan ⊢
      simp only [Int.toNat_zero] at hcan ⊢
      unfold doneC at hcan ⊢
      by_cases hs : s.size = 0
      · simp [hs] at hcan
      · rw [if_neg (by omega), if_neg hs, if_pos rfl] at *
        rw [e1, bsN_cons hs]
        have : (s.extract 0 1).data.toList.map UInt8.toNat = [atB (bsN s) 0] := bsN_first s (by omega)
        simp only [doE, this]
        simp [prc]
    · obtain ⟨b, hb, hb2⟩ := editP_byte ha.1 (Or.inl hk)
      have e1 : (toN e) = (1, b) := by unfold toN; rw [hk, hb]; rfl
      unfold doneV at hcan ⊢
      rw [hk, hb] at hcan ⊢
      simp only [Int.toNat_one] at hcan ⊢
      unfold doneC at hcan ⊢
      by_cases hs : s.size = 0
      · simp [hs] at hcan
      · rw [if_neg (by omega), if_neg hs, if_neg (by omega), if_pos rfl] at *
        simp only [Bool.not_eq_true', str_eq, bsN_one b hb2, bsN_first s (by omega), decide_eq_false_iff_not] at hcan
        rw [e1, bsN_cons hs]
        have hne : ¬ atB (bsN s) 0 = b := fun h => hcan (by rw [h])
        simp only [doE, hone b hb2]
        simp [prc, hne]
    · have e1 : (toN e) = (2, (toN e).2) := by unfold toN; rw [hk]; rfl
      unfold doneV at hcan ⊢
      rw [hk] at hcan ⊢
      rw [show (2 : Int).toNat = 2 from rfl] at hcan ⊢
      unfold doneC at hcan ⊢
      by_cases hs : s.size = 0
      · simp [hs] at hcan
      · rw [if_neg (by omega), if_neg hs, if_neg (by omega), if_neg (by omega)] at *
        rw [e1, bsN_cons hs]
        simp only [doE]
        simp [prc]
    · obtain ⟨b, hb, hb2⟩ := editP_byte ha.1 (Or.inr hk)
      have e1 : (toN e) = (3, b) := by unfold toN; rw [hk, hb]; rfl
      unfold doneV at hcan ⊢
      rw [hk, hb] at hcan ⊢
      rw [show (3 : Int).toNat = 3 from rfl] at hcan ⊢
      unfold doneC at hcan ⊢
      rw [if_pos rfl] at *
      rw [e1]
      simp only [doE, hone b hb2]
      simp [prc]

/-- No script that is accepted costs less than the least cost. -/
theorem chk_ge {a b : ByteArray} {pi po ps : Nat} (hp : Pr pi po ps) {es : List (Int × Int)} (h : chkB a b es = true) : cst a b pi po ps ≤ chkC a b pi po ps es := by
  unfold chkC
  rw [if_pos h, sumP_N]
  unfold chkB at h
  rw [Bool.and_eq_true] at h
  obtain ⟨h1, h2⟩ := h
  have hall := runR_all h1
  cases hr : runL es a [] with
  | none => rw [runR_none hall hr] at h1; cases h1
  | some x =>
    obtain ⟨s', c'⟩ := x
    rw [runR_some hall hr] at h1 h2
    simp only at h1 h2
    have hs := of_decide_eq_true h1
    rw [str_eq] at h2
    have hb := of_decide_eq_true h2
    have hc : c'.map UInt8.toNat = bsN b := hb
    have hd := run_doE pi po ps es a s' [] c' 0 hall hr
    rw [hc, bsN_nil hs, Nat.zero_add] at hd
    have := doE_ge (bsN a) (bsN b) hp (es.map toN) 0 0 0 (sumNE pi po ps es) (Nat.zero_le _) (Nat.zero_le _) (by rw [pl_00]; exact Int.le_refl _) (by simpa using hd)
    rw [bsN_length, bsN_length] at this
    exact this
theorem nx_mem {A B : List Nat} {r c q : Nat} {x : Nx} (hq : q < 4) (h : nx A B r c q = some x) : x ∈ nextL A B r c := by
  unfold nextL
  rw [List.mem_filterMap]
  exact ⟨q, List.mem_range.2 hq, h⟩
theorem pairs_mem {la lb i j : Nat} (hi : i ≤ la) (hj : j ≤ lb) : (i, j) ∈ pairs la lb := by
  unfold pairs
  rw [List.mem_flatMap]
  exact ⟨i, List.mem_range.2 (by omega), List.mem_map.2 ⟨j, List.mem_range.2 (by omega), rfl⟩⟩
/-- What is accepted are heights. -/
theorem heights_ht {A B : List Nat} {pi po ps : Nat} {t : List (List Int)} (h : heightsB A B pi po ps t = true) : HtB A B pi po ps (ht t) := by
  unfold heightsB at h
  rw [Bool.and_eq_true, Bool.and_eq_true, Bool.and_eq_true] at h
  obtain ⟨_, _, h0, hp⟩ := h
  rw [List.all_eq_true] at hp
  have key : ∀ i j x, i ≤ A.length → j ≤ B.length → x ∈ nextL A B i j → ht t x.i x.j ≤ ht t i j + ((prc pi po ps x.k : Nat) : Int) := fun i j x hi hj hx => by
    have := hp _ (pairs_mem hi hj)
    unfold okP at this
    rw [List.all_eq_true] at this
    exact of_decide_eq_true (this x hx)
  refine ⟨of_decide_eq_true h0, fun i j hi hj => ?_, fun i j hi hj => ?_, fun i j hi hj => ?_⟩
  · exact key i j ⟨2, 0, i + 1, j⟩ (by omega) hj (nx_mem (q := 2) (by omega) (by unfold nx; rw [if_neg (by omega), if_neg (by omega), if_pos rfl, if_pos hi]))
  · exact key i j ⟨3, atB B j, i, j + 1⟩ hi (by omega) (nx_mem (q := 3) (by omega) (by unfold nx; rw [if_neg (by omega), if_neg (by omega), if_neg (by omega), if_pos hj]))
  · by_cases e : atB A i = atB B j
    · rw [if_pos e]
      have := key i j ⟨0, 0, i + 1, j + 1⟩ (by omega) (by omega) (nx_mem (q := 0) (by omega) (by unfold nx; rw [if_pos rfl, if_pos ⟨hi, hj, e⟩]))
      simpa [prc] using this
    · rw [if_neg e]
      have := key i j ⟨1, atB B j, i + 1, j + 1⟩ (by omega) (by omega) (nx_mem (q := 1) (by omega) (by unfold nx; rw [if_neg (by omega), if_pos rfl, if_pos ⟨hi, hj, e⟩]))
      simpa [prc] using this
/-- No heights that are accepted are above the least cost. -/
theorem heights_le {a b : ByteArray} {pi po ps : Nat} (hp : Pr pi po ps) {t : List (List Int)} (h : heightsB (bsN a) (bsN b) pi po ps t = true) : ht t a.size b.size ≤ cst a b pi po ps :=
  ht_le hp (heights_ht h) _ a.size b.size (Nat.le_refl _) (by rw [bsN_length]; exact Nat.le_refl _) (by rw [bsN_length]; exact Nat.le_refl _)
theorem chk_zero {a b : ByteArray} {pi po ps : Nat} {es : List (Int × Int)} (h : chkB a b es = false) : chkC a b pi po ps es = 0 := by unfold chkC; rw [h]; rfl
end Go.Proofs.Ytkpmkeklopfhdaa
