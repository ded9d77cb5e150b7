/-
  The program's script does what it has to: run makes the other line of the first, at the least cost.
-/
import Derived.Test.YtkpmkeklopfhdaaEdScriptP
import Derived.Test.YtkpmkeklopfhdaaEdRDone
import Derived.Test.YtkpmkeklopfhdaaEdTriLaw
namespace Go.Proofs.Ytkpmkeklopfhdaa
open Go.ChangeShapes Go.WideShapes Go.ChangeAt Go.RowKit
set_option linter.unusedVariables false
set_option maxRecDepth 100000

theorem toN_ofN (e : Nat × Nat) : toN (ofN e) = e := by unfold toN ofN; simp
theorem map_toN (l : List (Nat × Nat)) : (l.map ofN).map toN = l := by
  rw [List.map_map]
  conv => rhs; rw [← List.map_id l]
  exact List.map_congr_left fun e _ => toN_ofN e

/-- What can be done on numbers can be done on bytes. -/
theorem doE_can (pi po ps : Nat) (a : ByteArray) : ∀ (es : List (Int × Int)) (i : Nat) (C : List Nat) (c : List UInt8) (cost : Nat) (y : List Nat × List Nat × Nat), i ≤ a.size → es.all editP = true → doE pi po ps (es.map toN) ((bsN a).drop i, C, cost) = some y → ∃ x, runL es (a.extract i a.size) c = some x
  | [], i, C, c, cost, y, hi, _, _ => ⟨_, rfl⟩
  | (k, b) :: es, i, C, c, cost, y, hi, ha, h => by
    rw [List.all_cons, Bool.and_eq_true] at ha
    have hg := edit_good ha.1
    have hnil : ¬ i < a.size → (bsN a).drop i = [] := fun h => List.drop_of_length_le (by rw [bsN_length]; omega)
    have hcons : i < a.size → (bsN a).drop i = atB (bsN a) i :: (bsN a).drop (i + 1) := fun h => drop_at (by rw [bsN_length]; exact h)
    simp only [runL]
    rcases hg with ⟨rfl, rfl⟩ | ⟨rfl, rfl⟩ | ⟨n, hn, rfl, rfl | rfl⟩
    · by_cases hl : i < a.size
      · obtain ⟨e1, _⟩ := at_keep hl 0
        have e2 : (doneV (0, 0) (a.extract i a.size)).2.1 = a.extract (i + 1) a.size := by rw [e1]
        have e3 : (doneV (0, 0) (a.extract i a.size)).2.2 = true := by rw [e1]
        rw [if_pos e3, e2]
        rw [hcons hl] at h
        simp [toN, doE] at h
        exact doE_can pi po ps a es (i + 1) _ _ _ y hl ha.2 h
      · rw [hnil hl] at h; simp [toN, doE] at h
    · by_cases hl : i < a.size
      · have e1 := at_out hl 0
        have e2 : (doneV (2, 0) (a.extract i a.size)).2.1 = a.extract (i + 1) a.size := by rw [e1]
        have e3 : (doneV (2, 0) (a.extract i a.size)).2.2 = true := by rw [e1]
        rw [if_pos e3, e2]
        rw [hcons hl] at h
        simp [toN, doE] at h
        exact doE_can pi po ps a es (i + 1) _ _ _ y hl ha.2 h
      · rw [hnil hl] at h; simp [toN, doE] at h
    · by_cases hl : i < a.size
      · rw [hcons hl] at h
        simp [toN, doE] at h
        obtain ⟨h1, h2⟩ := h
        have e1 := at_swap (b := n) hl hn
        have e2 : (doneV (1, (n : Int)) (a.extract i a.size)).2.1 = a.extract (i + 1) a.size := by rw [e1]
        have e3 : (doneV (1, (n : Int)) (a.extract i a.size)).2.2 = true := by rw [e1, decide_eq_false h1]; rfl
        rw [if_pos e3, e2]
        exact doE_can pi po ps a es (i + 1) _ _ _ y hl ha.2 h2
      · rw [hnil hl] at h; simp [toN, doE] at h
    · have e1 := at_in (n : Int) (a.extract i a.size)
      have e2 : (doneV (3, (n : Int)) (a.extract i a.size)).2.1 = a.extract i a.size := by rw [e1]
      have e3 : (doneV (3, (n : Int)) (a.extract i a.size)).2.2 = true := by rw [e1]
      rw [if_pos e3, e2]
      simp [toN, doE] at h
      exact doE_can pi po ps a es i _ _ _ y hi ha.2 h

theorem scr_edits (A B : List Nat) (pi po ps : Nat) (hB : ∀ i, atB B i < 256) : ∀ (n i j : Nat), ((scrF A B pi po ps n i j).map ofN).all editP = true
  | 0, _, _ => rfl
  | n + 1, i, j => by
    unfold scrF
    by_cases h0 : i = 0 ∧ j = 0
    · rw [if_pos h0]; rfl
    · rw [if_neg h0, List.map_append, List.all_append, scr_edits A B pi po ps hB n, Bool.true_and]
      have h1 : ∀ k b : Int, (k = 0 ∨ k = 2) ∧ b = 0 ∨ (k = 1 ∨ k = 3) ∧ (0 ≤ b ∧ b ≤ 255) → editP (k, b) = true := fun k b h => by
        unfold editP
        rcases h with ⟨h, hb⟩ | ⟨h, hb⟩
        · rw [editB_even h, decide_eq_true hb]
        · rw [editB_odd h, decide_eq_true hb.1, decide_eq_true hb.2]; rfl
      have key : editP (ofN ((pl A B pi po ps i j).k.toNat, (pl A B pi po ps i j).b.toNat)) = true := by
        unfold ofN
        cases pl_last A B pi po ps i j h0 with
        | keep r c e1 e2 e hk hb _ _ _ => rw [hk, hb]; exact h1 _ _ (by simp)
        | swap r c e1 e2 e hk hb _ _ _ => rw [hk, hb]; exact h1 _ _ (by have := hB c; simp; omega)
        | out r e1 hk hb _ _ _ => rw [hk, hb]; exact h1 _ _ (by simp)
        | inn c e1 hk hb _ _ _ => rw [hk, hb]; exact h1 _ _ (by have := hB c; simp; omega)
      simpa using key
theorem scr_len (A B : List Nat) (pi po ps : Nat) : ∀ (n i j : Nat), (scrF A B pi po ps n i j).length ≤ n
  | 0, _, _ => Nat.le_refl _
  | n + 1, i, j => by
    unfold scrF
    by_cases h0 : i = 0 ∧ j = 0
    · rw [if_pos h0]; exact Nat.zero_le _
    · rw [if_neg h0, List.length_append]
      have := scr_len A B pi po ps n (pl A B pi po ps i j).i.toNat (pl A B pi po ps i j).j.toNat
      simpa using this

theorem scrI_edits (a b : ByteArray) (pi po ps : Nat) : (scrI a b pi po ps).all editP = true := scr_edits _ _ _ _ _ (bsN_lt b) _ _ _
theorem scrI_len (a b : ByteArray) (pi po ps : Nat) : (scrI a b pi po ps).length ≤ a.size + b.size := by
  unfold scrI; rw [List.length_map]; exact scr_len _ _ _ _ _ _ _ _
/-- run makes the other line of the first; the script's sum is the least cost. -/
theorem scrI_run (a b : ByteArray) {pi po ps : Nat} (h : Pr pi po ps) : runR (scrI a b pi po ps) a = (b, true) ∧ sumP pi po ps (scrI a b pi po ps) = cst a b pi po ps := by
  have hd := scr_done (bsN a) (bsN b) h (a.size + b.size) a.size b.size (Nat.le_refl _) (by rw [bsN_length]; exact Nat.le_refl _) (by rw [bsN_length]; exact Nat.le_refl _)
  have hm : (scrI a b pi po ps).map toN = scrF (bsN a) (bsN b) pi po ps (a.size + b.size) a.size b.size := map_toN _
  have ha := scrI_edits a b pi po ps
  have hd2 := hd
  rw [← hm] at hd
  obtain ⟨⟨s', c'⟩, hx⟩ := doE_can pi po ps a (scrI a b pi po ps) 0 [] [] 0 _ (Nat.zero_le _) ha hd
  rw [ext_all] at hx
  have hr := run_doE pi po ps (scrI a b pi po ps) a s' [] c' 0 ha hx
  rw [List.map_nil, hd] at hr
  simp only [Option.some.injEq, Prod.mk.injEq, Nat.zero_add] at hr
  obtain ⟨r1, r2, r3⟩ := hr
  have hs : s'.size = 0 := by
    have := congrArg List.length r1
    rw [List.length_drop, bsN_length, bsN_length] at this
    omega
  refine ⟨?_, ?_⟩
  · rw [runR_some ha hx, decide_eq_true hs]
    congr 1
    apply bsN_inj
    show c'.map UInt8.toNat = _
    rw [← r2, List.take_of_length_le (by rw [bsN_length]; exact Nat.le_refl _)]
  · rw [sumP_N, ← r3]
    have := (pl_pos (bsN a) (bsN b) h a.size b.size).1
    unfold cst
    omega
end Go.Proofs.Ytkpmkeklopfhdaa
