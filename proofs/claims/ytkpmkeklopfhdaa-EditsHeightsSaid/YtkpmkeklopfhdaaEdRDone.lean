/-
  What run does, as lists of numbers; no accepted script costs less than the least cost, no accepted heights are above it.
-/
import Derived.Test.YtkpmkeklopfhdaaEdCheck
import Derived.Test.YtkpmkeklopfhdaaEdHts2
import Derived.Test.YtkpmkeklopfhdaaEdScrMath
import Derived.Laws.BytesArg
namespace Go.Proofs.Ytkpmkeklopfhdaa

section
open Go.ChangeShapes Go.WideShapes Go.ChangeAt Go.RowKit
set_option linter.unusedVariables false
set_option maxRecDepth 100000

def toN (e : Int × Int) : Nat × Nat := (e.1.toNat, e.2.toNat)
def sumNE (pi po ps : Nat) (es : List (Int × Int)) : Nat := (es.map fun e => prc pi po ps e.1.toNat).sum
theorem sumP_N (pi po ps : Nat) : ∀ es : List (Int × Int), sumP pi po ps es = ((sumNE pi po ps es : Nat) : Int)
  | [] => rfl
  | e :: l => by
    have ih := sumP_N pi po ps l
    unfold sumP sumNE at ih ⊢
    simp only [List.map_cons, List.sum_cons, ih]
    push_cast; rfl
theorem editP_byte {e : Int × Int} (h : editP e = true) (hk : e.1 = 1 ∨ e.1 = 3) : ∃ b : Nat, e.2 = b ∧ b < 256 := by
  unfold editP at h
  rw [editB_odd hk, Bool.and_eq_true] at h
  have h1 := of_decide_eq_true h.1
  have h2 := of_decide_eq_true h.2
  exact ⟨e.2.toNat, by omega, by omega⟩
theorem bsN_cons {s : ByteArray} (h : ¬ s.size = 0) : bsN s = atB (bsN s) 0 :: bsN (s.extract 1 s.size) := by
  rw [bsN_rest]
  have := drop_at (L := bsN s) (i := 0) (by rw [bsN_length]; omega)
  simpa using this
theorem bsN_nil {s : ByteArray} (h : s.size = 0) : bsN s = [] := List.eq_nil_of_length_eq_zero (by rw [bsN_length]; exact h)

theorem run_doE (pi po ps : Nat) : ∀ (es : List (Int × Int)) (s s' : ByteArray) (c c' : List UInt8) (cost : Nat), es.all editP = true → runL es s c = some (s', c') →
    doE pi po ps (es.map toN) (bsN s, c.map UInt8.toNat, cost) = some (bsN s', c'.map UInt8.toNat, cost + sumNE pi po ps es)
  | [], s, s', c, c', cost, _, h => by
    simp only [runL, Option.some.injEq, Prod.mk.injEq] at h
    obtain ⟨rfl, rfl⟩ := h
    simp [doE, sumNE]
  | e :: es, s, s', c, c', cost, ha, h => by
    rw [List.all_cons, Bool.and_eq_true] at ha
    have hk := editP_kind ha.1
    have hS : sumNE pi po ps (e :: es) = prc pi po ps e.1.toNat + sumNE pi po ps es := by simp [sumNE]
    rw [hS]
    simp only [runL] at h
    split at h
    case isFalse => cases h
    rename_i hcan
    have ih := run_doE pi po ps es _ _ _ _ (cost + prc pi po ps e.1.toNat) ha.2 h
    rw [List.map_append] at ih
    rw [List.map_cons, ← Nat.add_assoc, ← ih]
    have hone : ∀ b : Nat, b < 256 → (oneS (b : Int)).data.toList.map UInt8.toNat = [b] := fun b hb => bsN_one b hb
    rcases hk with hk | hk | hk | hk
    · have e1 : (toN e) = (0, (toN e).2) := by unfold toN; rw [hk]; rfl
      unfold doneV at hcan ⊢
      rw [hk] at hcan ⊢
      simp only [Int.toNat_zero] at hcan ⊢
      unfold doneC at hcan ⊢
      by_cases hs : s.size = 0
      · simp [hs] at hcan
      · rw [if_neg (by omega), if_neg hs, if_pos rfl] at *
        rw [e1, bsN_cons hs]
        have : (s.extract 0 1).data.toList.map UInt8.toNat = [atB (bsN s) 0] := bsN_first s (by omega)
        simp only [doE, this]
        simp [prc]
    · obtain ⟨b, hb, hb2⟩ := editP_byte ha.1 (Or.inl hk)
      have e1 : (toN e) = (1, b) := by unfold toN; rw [hk, hb]; rfl
      unfold doneV at hcan ⊢
      rw [hk, hb] at hcan ⊢
      simp only [Int.toNat_one] at hcan ⊢
      unfold doneC at hcan ⊢
      by_cases hs : s.size = 0
      · simp [hs] at hcan
      · rw [if_neg (by omega), if_neg hs, if_neg (by omega), if_pos rfl] at *
        simp only [Bool.not_eq_true', str_eq, bsN_one b hb2, bsN_first s (by omega), decide_eq_false_iff_not] at hcan
        rw [e1, bsN_cons hs]
        have hne : ¬ atB (bsN s) 0 = b := fun h => hcan (by rw [h])
        simp only [doE, hone b hb2]
        simp [prc, hne]
    · have e1 : (toN e) = (2, (toN e).2) := by unfold toN; rw [hk]; rfl
      unfold doneV at hcan ⊢
      rw [hk] at hcan ⊢
      rw [show (2 : Int).toNat = 2 from rfl] at hcan ⊢
      unfold doneC at hcan ⊢
      by_cases hs : s.size = 0
      · simp [hs] at hcan
      · rw [if_neg (by omega), if_neg hs, if_neg (by omega), if_neg (by omega)] at *
        rw [e1, bsN_cons hs]
        simp only [doE]
        simp [prc]
    · obtain ⟨b, hb, hb2⟩ := editP_byte ha.1 (Or.inr hk)
      have e1 : (toN e) = (3, b) := by unfold toN; rw [hk, hb]; rfl
      unfold doneV at hcan ⊢
      rw [hk, hb] at hcan ⊢
      rw [show (3 : Int).toNat = 3 from rfl] at hcan ⊢
      unfold doneC at hcan ⊢
      rw [if_pos rfl] at *
      rw [e1]
      simp only [doE, hone b hb2]
      simp [prc]

/-- No script that is accepted costs less than the least cost. -/
theorem chk_ge {a b : ByteArray} {pi po ps : Nat} (hp : Pr pi po ps) {es : List (Int × Int)} (h : chkB a b es = true) : cst a b pi po ps ≤ chkC a b pi po ps es := by
  unfold chkC
  rw [if_pos h, sumP_N]
  unfold chkB at h
  rw [Bool.and_eq_true] at h
  obtain ⟨h1, h2⟩ := h
  have hall := runR_all h1
  cases hr : runL es a [] with
  | none => rw [runR_none hall hr] at h1; cases h1
  | some x =>
    obtain ⟨s', c'⟩ := x
    rw [runR_some hall hr] at h1 h2
    simp only at h1 h2
    have hs := of_decide_eq_true h1
    rw [str_eq] at h2
    have hb := of_decide_eq_true h2
    have hc : c'.map UInt8.toNat = bsN b := hb
    have hd := run_doE pi po ps es a s' [] c' 0 hall hr
    rw [hc, bsN_nil hs, Nat.zero_add] at hd
    have := doE_ge (bsN a) (bsN b) hp (es.map toN) 0 0 0 (sumNE pi po ps es) (Nat.zero_le _) (Nat.zero_le _) (by rw [pl_00]; exact Int.le_refl _) (by simpa using hd)
    rw [bsN_length, bsN_length] at this
    exact this
theorem nx_mem {A B : List Nat} {r c q : Nat} {x : Nx} (hq : q < 4) (h : nx A B r c q = some x) : x ∈ nextL A B r c := by
  unfold nextL
  rw [List.mem_filterMap]
  exact ⟨q, List.mem_range.2 hq, h⟩
theorem pairs_mem {la lb i j : Nat} (hi : i ≤ la) (hj : j ≤ lb) : (i, j) ∈ pairs la lb := by
  unfold pairs
  rw [List.mem_flatMap]
  exact ⟨i, List.mem_range.2 (by omega), List.mem_map.2 ⟨j, List.mem_range.2 (by omega), rfl⟩⟩
/-- What is accepted are heights. -/
theorem heights_ht {A B : List Nat} {pi po ps : Nat} {t : List (List Int)} (h : heightsB A B pi po ps t = true) : HtB A B pi po ps (ht t) := by
  unfold heightsB at h
  rw [Bool.and_eq_true, Bool.and_eq_true, Bool.and_eq_true] at h
  obtain ⟨_, _, h0, hp⟩ := h
  rw [List.all_eq_true] at hp
  have key : ∀ i j x, i ≤ A.length → j ≤ B.length → x ∈ nextL A B i j → ht t x.i x.j ≤ ht t i j + ((prc pi po ps x.k : Nat) : Int) := fun i j x hi hj hx => by
    have := hp _ (pairs_mem hi hj)
    unfold okP at this
    rw [List.all_eq_true] at this
    exact of_decide_eq_true (this x hx)
  refine ⟨of_decide_eq_true h0, fun i j hi hj => ?_, fun i j hi hj => ?_, fun i j hi hj => ?_⟩
  · exact key i j ⟨2, 0, i + 1, j⟩ (by omega) hj (nx_mem (q := 2) (by omega) (by unfold nx; rw [if_neg (by omega), if_neg (by omega), if_pos rfl, if_pos hi]))
  · exact key i j ⟨3, atB B j, i, j + 1⟩ hi (by omega) (nx_mem (q := 3) (by omega) (by unfold nx; rw [if_neg (by omega), if_neg (by omega), if_neg (by omega), if_pos hj]))
  · by_cases e : atB A i = atB B j
    · rw [if_pos e]
      have := key i j ⟨0, 0, i + 1, j + 1⟩ (by omega) (by omega) (nx_mem (q := 0) (by omega) (by unfold nx; rw [if_pos rfl, if_pos ⟨hi, hj, e⟩]))
      simpa [prc] using this
    · rw [if_neg e]
      have := key i j ⟨1, atB B j, i + 1, j + 1⟩ (by omega) (by omega) (nx_mem (q := 1) (by omega) (by unfold nx; rw [if_neg (by omega), if_pos rfl, if_pos ⟨hi, hj, e⟩]))
      simpa [prc] using this
/-- No heights that are accepted are above the least cost. -/
theorem heights_le {a b : ByteArray} {pi po ps : Nat} (hp : Pr pi po ps) {t : List (List Int)} (h : heightsB (bsN a) (bsN b) pi po ps t = true) : ht t a.size b.size ≤ cst a b pi po ps :=
  ht_le hp (heights_ht h) _ a.size b.size (Nat.le_refl _) (by rw [bsN_length]; exact Nat.le_refl _) (by rw [bsN_length]; exact Nat.le_refl _)
theorem chk_zero {a b : ByteArray} {pi po ps : Nat} {es : List (Int × Int)} (h : chkB a b es = false) : chkC a b pi po ps es = 0 := by unfold chkC; rw [h]; rfl
end

section
/-
  An edit at an index of a line: what doneV says of what is left from there on.
-/
section
open Go.ChangeShapes Go.WideShapes Go.ChangeAt Go.RowKit
set_option linter.unusedVariables false
set_option maxRecDepth 100000

theorem ext_size (a : ByteArray) {i : Nat} (h : i ≤ a.size) : (a.extract i a.size).size = a.size - i := size_ext a i h
theorem ext_rest (a : ByteArray) (i : Nat) : (a.extract i a.size).extract 1 (a.extract i a.size).size = a.extract (i + 1) a.size := by
  apply bsN_inj
  rw [bsN_rest, bsN_rest, bsN_rest, List.drop_drop]
theorem ext_first (a : ByteArray) {i : Nat} (h : i < a.size) : bsN ((a.extract i a.size).extract 0 1) = [atB (bsN a) i] := by
  rw [bsN_first _ (by rw [ext_size a (by omega)]; omega), at_rest]
/-- An edit that puts a byte in. -/
theorem at_in (b : Int) (s : ByteArray) : doneV (3, b) s = (oneS b, s, true) := by
  unfold doneV doneC
  rw [show ((3 : Int), b).1.toNat = 3 from rfl, if_pos rfl]
/-- At the line's end nothing else can be done. -/
theorem at_end {a : ByteArray} {k b : Int} (hk : k = 0 ∨ k = 1 ∨ k = 2) : (doneV (k, b) (a.extract a.size a.size)).2.2 = false := by
  unfold doneV doneC
  have h0 : (a.extract a.size a.size).size = 0 := by rw [ext_size a (Nat.le_refl _)]; omega
  rw [if_neg (by simp only []; omega), if_pos h0]
theorem at_keep {a : ByteArray} {i : Nat} (h : i < a.size) (b : Int) : (doneV (0, b) (a.extract i a.size)).2 = (a.extract (i + 1) a.size, true) ∧ bsN (doneV (0, b) (a.extract i a.size)).1 = [atB (bsN a) i] := by
  have h0 : ¬ (a.extract i a.size).size = 0 := by rw [ext_size a (by omega)]; omega
  have e : doneV (0, b) (a.extract i a.size) = ((a.extract i a.size).extract 0 1, a.extract (i + 1) a.size, true) := by
    show doneC 0 b _ = _
    unfold doneC
    rw [if_neg (show ¬ (0 : Nat) = 3 by decide), if_neg h0, if_pos rfl, ext_rest]
  rw [e]
  exact ⟨rfl, ext_first a h⟩
theorem at_out {a : ByteArray} {i : Nat} (h : i < a.size) (b : Int) : doneV (2, b) (a.extract i a.size) = (noS, a.extract (i + 1) a.size, true) := by
  have h0 : ¬ (a.extract i a.size).size = 0 := by rw [ext_size a (by omega)]; omega
  show doneC 2 b _ = _
  unfold doneC
  rw [if_neg (show ¬ (2 : Nat) = 3 by decide), if_neg h0, if_neg (show ¬ (2 : Nat) = 0 by decide), if_neg (show ¬ (2 : Nat) = 1 by decide), ext_rest]
theorem at_swap {a : ByteArray} {i b : Nat} (h : i < a.size) (hb : b < 256) : doneV (1, (b : Int)) (a.extract i a.size) = (oneS (b : Int), a.extract (i + 1) a.size, !decide (atB (bsN a) i = b)) := by
  have h0 : ¬ (a.extract i a.size).size = 0 := by rw [ext_size a (by omega)]; omega
  show doneC 1 (b : Int) _ = _
  unfold doneC
  have e : decide ([b] = [atB (bsN a) i]) = decide (atB (bsN a) i = b) := by
    by_cases e : atB (bsN a) i = b
    · rw [e]; simp
    · rw [decide_eq_false e, decide_eq_false (fun h => e (List.cons.inj h).1.symm)]
  rw [if_neg (show ¬ (1 : Nat) = 3 by decide), if_neg h0, if_neg (show ¬ (1 : Nat) = 0 by decide), if_pos rfl, ext_rest, str_eq, bsN_one b hb, ext_first a h, e]
end

section
/-
  The reference's Done: a script done on a line of any length, at any prices: it gives what run gives; its cost is the sum where the prices are valid.
-/
open Go.ChangeShapes Go.WideShapes Go.ChangeAt Go.RowKit
set_option linter.unusedVariables false
set_option maxRecDepth 100000

theorem ext_all (a : ByteArray) : a.extract 0 a.size = a := by
  apply bsN_inj
  rw [bsN_rest, List.drop_zero]
theorem cells_bs (s : ByteArray) : Lib.byteCells s.data.toList = (bsN s).map fun n : Nat => Value.int .u8 (n : Int) := by
  unfold Lib.byteCells bsN
  rw [List.map_map]; rfl

/-- What holds when k edits are done. -/
structure DI (a : ByteArray) (es : List (Int × Int)) (k i : Nat) (c : List UInt8) : Prop where
  all : (es.take k).all editP = true
  run : runL (es.take k) a [] = some (a.extract i a.size, c)
  le : i ≤ a.size
  len : c.length ≤ k
theorem DI.start (a : ByteArray) (es : List (Int × Int)) : DI a es 0 0 [] := ⟨rfl, by rw [ext_all]; rfl, Nat.zero_le _, Nat.le_refl _⟩

theorem all_take {es : List (Int × Int)} {k : Nat} (hk : k < es.length) : (es.take (k + 1)).all editP = ((es.take k).all editP && editP es[k]) := by
  rw [List.take_succ_eq_append_getElem hk, List.all_append]; simp
theorem DI.step {a : ByteArray} {es : List (Int × Int)} {k i j : Nat} {c : List UInt8} (h : DI a es k i c) (hk : k < es.length) {came : ByteArray} (hE : editP es[k] = true)
    (hd : doneV es[k] (a.extract i a.size) = (came, a.extract j a.size, true)) (hj : j ≤ a.size) (hc : came.size ≤ 1) : DI a es (k + 1) j (c ++ came.data.toList) := by
  refine ⟨by rw [all_take hk, h.all, hE]; rfl, ?_, hj, ?_⟩
  · rw [runL_take hk h.run, hd]; rfl
  · have := h.len
    have e : came.data.toList.length = came.size := by simp
    rw [List.length_append]; omega
/-- An edit that can't be done: run gives nothing. -/
theorem DI.fail {a : ByteArray} {es : List (Int × Int)} {k i : Nat} {c : List UInt8} (h : DI a es k i c) (hk : k < es.length) (hf : editP es[k] = false ∨ (doneV es[k] (a.extract i a.size)).2.2 = false) : runR es a = (noS, false) := by
  cases hall : es.all editP
  · exact runR_bad hall
  · rcases hf with hf | hf
    · have := List.all_eq_true.1 hall _ (List.getElem_mem hk)
      rw [hf] at this; cases this
    · refine runR_none hall (runL_fail (k := k + 1) ?_)
      rw [runL_take hk h.run, hf]; rfl
theorem DI.keep {a : ByteArray} {es : List (Int × Int)} {k i : Nat} {c : List UInt8} {b : Int} (h : DI a es k i c) (hk : k < es.length) (he : es[k] = (0, b)) (hE : editP (0, b) = true) (hi : i < a.size) :
    ∃ r, DI a es (k + 1) (i + 1) (c ++ r) ∧ Lib.byteCells r = [.int .u8 (atB (bsN a) i : Nat)] := by
  obtain ⟨e1, e2⟩ := at_keep hi b
  refine ⟨(doneV (0, b) (a.extract i a.size)).1.data.toList, h.step hk (by rw [he]; exact hE) ?_ hi (doneV_size _ _), by rw [cells_bs, e2]; rfl⟩
  rw [he]
  exact Prod.ext rfl e1
theorem DI.out {a : ByteArray} {es : List (Int × Int)} {k i : Nat} {c : List UInt8} {b : Int} (h : DI a es k i c) (hk : k < es.length) (he : es[k] = (2, b)) (hE : editP (2, b) = true) (hi : i < a.size) : DI a es (k + 1) (i + 1) c := by
  have := h.step hk (by rw [he]; exact hE) (came := noS) (j := i + 1) (by rw [he]; exact at_out hi b) hi (Nat.zero_le _)
  simpa using this
theorem DI.swap {a : ByteArray} {es : List (Int × Int)} {k i b : Nat} {c : List UInt8} (h : DI a es k i c) (hk : k < es.length) (he : es[k] = (1, (b : Int))) (hE : editP (1, (b : Int)) = true) (hi : i < a.size) (hb : b < 256) (hne : ¬ atB (bsN a) i = b) :
    ∃ r, DI a es (k + 1) (i + 1) (c ++ r) ∧ Lib.byteCells r = [.int .u8 (b : Int)] :=
  ⟨(oneS (b : Int)).data.toList, h.step hk (by rw [he]; exact hE) (by rw [he, at_swap hi hb, decide_eq_false hne]; rfl) hi (by rw [one_size]; exact Nat.le_refl _), by rw [cells_bs, bsN_one b hb]; rfl⟩
theorem DI.inn {a : ByteArray} {es : List (Int × Int)} {k i b : Nat} {c : List UInt8} (h : DI a es k i c) (hk : k < es.length) (he : es[k] = (3, (b : Int))) (hE : editP (3, (b : Int)) = true) (hb : b < 256) :
    ∃ r, DI a es (k + 1) i (c ++ r) ∧ Lib.byteCells r = [.int .u8 (b : Int)] :=
  ⟨(oneS (b : Int)).data.toList, h.step hk (by rw [he]; exact hE) (by rw [he]; exact at_in _ _) h.le (by rw [one_size]; exact Nat.le_refl _), by rw [cells_bs, bsN_one b hb]; rfl⟩
theorem DI.last {a : ByteArray} {es : List (Int × Int)} {i : Nat} {c : List UInt8} (h : DI a es es.length i c) : runR es a = (⟨c.toArray⟩, decide ((i : Int) = a.size)) := by
  have h1 := h.all
  have h2 := h.run
  rw [List.take_length] at h1 h2
  rw [runR_some h1 h2, ext_size a h.le]
  have := h.le
  rw [show decide (a.size - i = 0) = decide ((i : Int) = a.size) by rw [Bool.eq_iff_iff]; simp only [decide_eq_true_eq]; omega]

/-- The cost of k edits, where the prices are valid. -/
def CP (pi po ps : Int) (es : List (Int × Int)) (k : Nat) (C : Int) : Prop := ∀ x y z : Nat, x ≤ 9 → y ≤ 9 → z ≤ 9 → pi = x → po = y → ps = z → C = sumP x y z (es.take k)
theorem CP.start (pi po ps : Int) (es : List (Int × Int)) : CP pi po ps es 0 0 := fun x y z _ _ _ _ _ _ => rfl
theorem CP.step {pi po ps : Int} {es : List (Int × Int)} {k : Nat} {C p : Int} (h : CP pi po ps es k C) (hk : k < es.length) (h4 : es.length ≤ 4096)
    (hp : ∀ x y z : Nat, pi = x → po = y → ps = z → p = (prc x y z es[k].1.toNat : Nat)) : CP pi po ps es (k + 1) (wrap64 (C + p)) := by
  intro x y z h1 h2 h3 e1 e2 e3
  have hc := h x y z h1 h2 h3 e1 e2 e3
  have hb := sumP_bd h1 h2 h3 (es.take k)
  have hl : (es.take k).length ≤ k := List.length_take_le _ _
  have hq := prcE_le h1 h2 h3 es[k].1.toNat
  rw [sumP_take hk, hp x y z e1 e2 e3, hc]
  exact (add_small (k := k) hb.1 (by omega) hq (by omega)).2
theorem CP.same {pi po ps : Int} {es : List (Int × Int)} {k : Nat} {C : Int} (h : CP pi po ps es k C) (hk : k < es.length) (h4 : es.length ≤ 4096) (hp : es[k].1 = 0) : CP pi po ps es (k + 1) C := by
  intro x y z h1 h2 h3 e1 e2 e3
  have hc := h x y z h1 h2 h3 e1 e2 e3
  rw [sumP_take hk, hp, hc]
  simp [prc]

theorem strOf_bytes (c : List UInt8) : strOfNums (c.map fun b => (b.toNat : Int)) = ⟨c.toArray⟩ := by
  unfold strOfNums
  congr 1
  rw [List.map_map]
  congr 1
  conv => rhs; rw [← List.map_id c]
  apply List.map_congr_left
  intro x _
  simp
theorem conv_row {W : World} {lo : Nat} {v : Value} {c : List UInt8} (h : W.ownsRow lo 5 1 v c.length (Lib.byteCells c)) : (convert 99 9 v).run Try.prog W = .ok (.string ⟨c.toArray⟩) W := by
  obtain ⟨h0, ⟨rfl, h2⟩ | ⟨g, cap, cur, rfl, hg, hh, h3, h4, h5, h6⟩⟩ := h
  · have : c = [] := List.eq_nil_of_length_eq_zero h2
    subst this
    exact run_convert_bytes_nil W 99 5 Try.underlying99 Try.underlying5 0 0 9 Try.underlying9
  · rw [← strOf_bytes]
    refine run_convert_bytes_arg W 99 5 Try.underlying99 Try.underlying5 g 0 c.length cap (c.map fun b => (b.toNat : Int)) (by simp) (fun i hi => ?_) 9 Try.underlying9
    have e := congrArg (fun l => l[i]?) h6
    simp only [Nat.mul_one, List.getElem?_take, hi, if_true] at e
    rw [Nat.zero_add, cell_of_row W g i cur _ _ hh, ← Array.getElem?_toList, e, List.getD_eq_getElem?_getD, List.getElem?_map, List.getElem?_eq_getElem hi]
    simp [Lib.byteCells, hi]

theorem edit_bad {x1 x2 : Int} (h : editP (x1, x2) = false) : x1 < 0 ∨ 3 < x1 ∨ ((x1 = 0 ∨ x1 = 1 ∨ x1 = 2 ∨ x1 = 3) ∧ (x2 < 0 ∨ 255 < x2 ∨ ((x1 = 0 ∨ x1 = 2) ∧ x2 ≠ 0 ∧ 0 ≤ x2 ∧ x2 ≤ 255))) := by
  unfold editP at h
  by_cases h1 : x1 < 0
  · exact Or.inl h1
  by_cases h2 : 3 < x1
  · exact Or.inr (Or.inl h2)
  refine Or.inr (Or.inr ⟨by omega, ?_⟩)
  by_cases h3 : x2 < 0
  · exact Or.inl h3
  by_cases h4 : 255 < x2
  · exact Or.inr (Or.inl h4)
  refine Or.inr (Or.inr ?_)
  by_cases h5 : x1 = 0 ∨ x1 = 2
  · rw [editB_even h5] at h
    exact ⟨h5, of_decide_eq_false h, by omega, by omega⟩
  · rw [editB_odd (by omega)] at h
    rw [decide_eq_true (by omega), decide_eq_true (by omega)] at h
    cases h
theorem edit_good {x1 x2 : Int} (h : editP (x1, x2) = true) : (x1 = 0 ∧ x2 = 0) ∨ (x1 = 2 ∧ x2 = 0) ∨ ∃ b : Nat, b < 256 ∧ x2 = b ∧ (x1 = 1 ∨ x1 = 3) := by
  have hk := editP_kind h
  simp only at hk
  rcases hk with hk | hk | hk | hk
  · unfold editP at h; rw [editB_even (Or.inl hk)] at h; exact Or.inl ⟨hk, of_decide_eq_true h⟩
  · obtain ⟨b, h1, h2⟩ := editP_byte h (Or.inl hk); exact Or.inr (Or.inr ⟨b, h2, h1, Or.inl hk⟩)
  · unfold editP at h; rw [editB_even (Or.inr hk)] at h; exact Or.inr (Or.inl ⟨hk, of_decide_eq_true h⟩)
  · obtain ⟨b, h1, h2⟩ := editP_byte h (Or.inr hk); exact Or.inr (Or.inr ⟨b, h2, h1, Or.inr hk⟩)
theorem ix_byteD (s : ByteArray) (i : Nat) (h : i < s.size) (w : World) : (Instr.index 9 (.string s) (.int .i64 (i : Int))).run Try.prog w = .ok (.int .u8 (atB (bsN s) i : Nat)) w := by
  rw [run_index_string w _ _ _ _ Try.underlying9]
  have h1 : ((i : Int)).toNat = i := by omega
  simp only [h1]
  rw [bsN_at _ _ h]
  simp [h]
theorem u8_wrap {b : Nat} (h : b < 256) : IntKind.u8.wrap (b : Int) = b := by
  unfold IntKind.wrap; simp [IntKind.bits, IntKind.signed]; omega
end
end

end Go.Proofs.Ytkpmkeklopfhdaa
