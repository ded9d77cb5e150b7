/-
  slices.Reverse at a slice of edits that the caller has made.
-/
import Derived.Test.YtkpmkeklopfhdaaEdScriptL
import Derived.Deep.LoopGhost
namespace Go.Proofs.Ytkpmkeklopfhdaa
open Go.ChangeShapes Go.WideShapes Go.ChangeAt Go.RowKit
set_option linter.unusedVariables false
set_option maxRecDepth 100000

theorem cellsE_set : ∀ (l : List (Int × Int)) (i : Nat) (x y : Int), ((cellsE l).set (i * 2) (.int .i64 x)).set (i * 2 + 1) (.int .i64 y) = cellsE (l.set i (x, y))
  | [], i, x, y => by simp [cellsE]
  | e :: l, 0, x, y => rfl
  | e :: l, i + 1, x, y => by
    have ih := cellsE_set l i x y
    have e1 : cellsE (e :: l) = .int .i64 e.1 :: .int .i64 e.2 :: cellsE l := rfl
    rw [e1, show (i + 1) * 2 = i * 2 + 1 + 1 by omega, List.set_cons_succ, List.set_cons_succ, List.set_cons_succ, List.set_cons_succ, ih]
    rfl
/-- Two edits exchanged. -/
def swE (l : List (Int × Int)) (i j : Nat) : List (Int × Int) := (l.set i (l.getD j (0, 0))).set j (l.getD i (0, 0))
theorem swE_length (l : List (Int × Int)) (i j : Nat) : (swE l i j).length = l.length := by simp [swE]
/-- What holds while a list is turned around: i at each end are done. -/
def RevI (es l : List (Int × Int)) (i : Nat) : Prop := l.length = es.length ∧ ∀ m, m < es.length → l[m]? = if m < i ∨ es.length ≤ m + i then es[es.length - 1 - m]? else es[m]?
theorem RevI.start (es : List (Int × Int)) : RevI es es 0 := ⟨rfl, fun m hm => by rw [if_neg (by omega)]⟩
theorem RevI.step {es l : List (Int × Int)} {i : Nat} (h : RevI es l i) (hi : i + i + 1 < es.length) : RevI es (swE l i (es.length - 1 - i)) (i + 1) := by
  obtain ⟨hl, h⟩ := h
  refine ⟨by rw [swE_length, hl], fun m hm => ?_⟩
  have gi := h i (by omega)
  have gj := h (es.length - 1 - i) (by omega)
  rw [if_neg (by omega)] at gi gj
  have e1 : l.getD i (0, 0) = es[i]'(by omega) := by rw [List.getD_eq_getElem?_getD, gi, List.getElem?_eq_getElem (by omega)]; rfl
  have e2 : l.getD (es.length - 1 - i) (0, 0) = es[es.length - 1 - i]'(by omega) := by rw [List.getD_eq_getElem?_getD, gj, List.getElem?_eq_getElem (by omega)]; rfl
  unfold swE
  rw [e1, e2, List.getElem?_set, List.getElem?_set]
  simp only [List.length_set, hl]
  by_cases h1 : es.length - 1 - i = m
  · rw [if_pos h1, if_pos (by omega), if_pos (by omega), List.getElem?_eq_getElem (by omega)]
    congr 2; omega
  · rw [if_neg h1]
    by_cases h2 : i = m
    · rw [if_pos h2, if_pos (by omega), if_pos (by omega), List.getElem?_eq_getElem (by omega)]
      congr 2; omega
    · rw [if_neg h2, h m hm]
      by_cases h3 : m < i ∨ es.length ≤ m + i
      · rw [if_pos h3, if_pos (by omega)]
      · rw [if_neg h3, if_neg (by omega)]
theorem RevI.last {es l : List (Int × Int)} {i : Nat} (h : RevI es l i) (hi : es.length ≤ i + i + 1) : l = es.reverse := by
  obtain ⟨hl, h⟩ := h
  apply List.ext_getElem?
  intro m
  by_cases hm : m < es.length
  · rw [h m hm, List.getElem?_reverse hm]
    by_cases h3 : m < i ∨ es.length ≤ m + i
    · rw [if_pos h3]
    · rw [if_neg h3]; congr 1; omega
  · rw [List.getElem?_eq_none (by omega), List.getElem?_eq_none (by rw [List.length_reverse]; omega)]
theorem getD_at {l : List (Int × Int)} {i : Nat} (h : i < l.length) : (l[i]?.getD (0, 0)) = l.getD i (0, 0) := by rw [List.getD_eq_getElem?_getD]

/-- The cells of a row of edits, with what lies behind. -/
theorem own_row {W : World} {L : Nat} {v : Value} {es : List (Int × Int)} (h : W.ownsRow L 77 2 v es.length (cellsE es)) : (v = .slice none 0 0 ∧ es = []) ∨ ∃ g cap ex, v = .slice (some ⟨g, 0, none⟩) es.length cap ∧ L ≤ g ∧ es.length ≤ cap ∧ cap ≤ maxLen ∧ ex.length = (cap - es.length) * 2 ∧ Row W g 77 (cellsE es ++ ex) := by
  obtain ⟨h0, ⟨rfl, h2⟩ | ⟨g, cap, cur, rfl, hg, hh, h3, h4, h5, h6⟩⟩ := h
  · exact Or.inl ⟨rfl, List.eq_nil_of_length_eq_zero h2⟩
  · refine Or.inr ⟨g, cap, cur.toList.drop (es.length * 2), rfl, hg, h3, h4, ?_, ?_⟩
    · rw [List.length_drop, Array.length_toList, h5]; omega
    · unfold Row
      rw [hh, ← h6, List.take_append_drop]
theorem row_ownE {W : World} {L g cap : Nat} {l ex : List Value} {n : Nat} (h : Row W g 77 (l ++ ex)) (hL : L ≤ g) (hn : l.length = n * 2) (hc : n ≤ cap) (hm : cap ≤ maxLen) (he : ex.length = (cap - n) * 2) : W.ownsRow L 77 2 (.slice (some ⟨g, 0, none⟩) n cap) n l := by
  refine ⟨hn, Or.inr ⟨g, cap, (l ++ ex).toArray, rfl, hL, h, hc, hm, ?_, ?_⟩⟩
  · rw [List.size_toArray, List.length_append, hn, he]; omega
  · rw [← hn]; simp
theorem row_swap {W : World} {g i j : Nat} {l : List (Int × Int)} {ex : List Value} (h : Row W g 77 (cellsE l ++ ex)) (hi : i < l.length) (hj : j < l.length) :
    Row ((((W.setCell ⟨g, i * 2, none⟩ (.int .i64 (l.getD j (0, 0)).1)).setCell ⟨g, i * 2 + 1, none⟩ (.int .i64 (l.getD j (0, 0)).2)).setCell ⟨g, j * 2, none⟩ (.int .i64 (l.getD i (0, 0)).1)).setCell ⟨g, j * 2 + 1, none⟩ (.int .i64 (l.getD i (0, 0)).2)) g 77 (cellsE (swE l i j) ++ ex) := by
  have r := (((h.set (i * 2) (.int .i64 (l.getD j (0, 0)).1)).set (i * 2 + 1) (.int .i64 (l.getD j (0, 0)).2)).set (j * 2) (.int .i64 (l.getD i (0, 0)).1)).set (j * 2 + 1) (.int .i64 (l.getD i (0, 0)).2)
  have hl := cellsE_length l
  rw [List.set_append_left _ _ (by omega), List.set_append_left _ _ (by rw [List.length_set]; omega), List.set_append_left _ _ (by rw [List.length_set, List.length_set]; omega), List.set_append_left _ _ (by rw [List.length_set, List.length_set, List.length_set]; omega), cellsE_set, cellsE_set] at r
  exact r

theorem Reverse_nil (w : World) : Calls Try.prog 67 #[.slice none 0 0] w fun e w' => e = .returned (.tuple #[]) ∧ w' = w := by
  go_enter Try.func67, Try.ntmps67
  go_wp2
  go_loopg [2, 3] 0 (fun _ s2 s3 wr => s2 = .int .i64 0 ∧ s3 = .int .i64 (-1) ∧ wr = w)
  case atStart => exact ⟨rfl, rfl, rfl⟩
  case round =>
    obtain ⟨rfl, rfl, rfl⟩ := hrel
    go_wp2
    go_end0
    exact ⟨rfl, rfl⟩

set_option maxHeartbeats 2000000 in
theorem Reverse_row (g L cap : Nat) (es : List (Int × Int)) (ex : List Value) (hl : es.length ≤ 4096) (hL : L ≤ g) (w : World) (hr : Row w g 77 (cellsE es ++ ex)) :
    Calls Try.prog 67 #[.slice (some ⟨g, 0, none⟩) es.length cap] w fun e w' => e = .returned (.tuple #[]) ∧ Row w' g 77 (cellsE es.reverse ++ ex) ∧ Below L w w' := by
  have hmx : Try.prog.follows .mixedOrders = true := by kernel_rfl
  have HR := Lib.hid hr
  clear hr
  go_enter Try.func67, Try.ntmps67
  go_wp2
  go_loopg [2, 3] es.length (fun k s2 s3 wr => ∃ (i : Nat) (l : List (Int × Int)), s2 = .int .i64 i ∧ s3 = .int .i64 ((es.length : Int) - 1 - i) ∧ es.length - i ≤ k ∧ i ≤ es.length ∧ RevI es l i ∧ Row wr g 77 (cellsE l ++ ex) ∧ Below L w wr)
  case atStart => exact ⟨0, es, rfl, by simp, by omega, Nat.zero_le _, RevI.start es, HR.out, Below.refl _ _⟩
  case round =>
    obtain ⟨i, l, rfl, rfl, hk, hin, hri, hrow, hB⟩ := hrel
    have HRI := Lib.hid hri
    have HRW := Lib.hid hrow
    have HB := Lib.hid hB
    have hll : l.length = es.length := hri.1
    by_cases hlt : i + i + 1 < es.length
    · have hc : (i : Int) < (es.length : Int) - 1 - i := by omega
      obtain ⟨j, hj⟩ : ∃ j, j = es.length - 1 - i := ⟨_, rfl⟩
      have hjc : (es.length : Int) - 1 - i = (j : Int) := by omega
      have hjl : j < es.length := by omega
      have hil : i < es.length := by omega
      rw [hjc] at hc ⊢
      have ci := fun m => hrow.cell m
      have fi := fun m => hrow.frozen m
      have c1 : wr.cell? ⟨g, i * 2, none⟩ = some (.int .i64 (l.getD i (0, 0)).1) := by rw [ci, List.getElem?_append_left (by rw [cellsE_length]; omega), (cellsE_at l i (by omega)).1, getD_at (by omega)]
      have c2 : wr.cell? ⟨g, i * 2 + 1, none⟩ = some (.int .i64 (l.getD i (0, 0)).2) := by rw [ci, List.getElem?_append_left (by rw [cellsE_length]; omega), (cellsE_at l i (by omega)).2, getD_at (by omega)]
      have c3 : wr.cell? ⟨g, j * 2, none⟩ = some (.int .i64 (l.getD j (0, 0)).1) := by rw [ci, List.getElem?_append_left (by rw [cellsE_length]; omega), (cellsE_at l j (by omega)).1, getD_at (by omega)]
      have c4 : wr.cell? ⟨g, j * 2 + 1, none⟩ = some (.int .i64 (l.getD j (0, 0)).2) := by rw [ci, List.getElem?_append_left (by rw [cellsE_length]; omega), (cellsE_at l j (by omega)).2, getD_at (by omega)]
      have f1 := fi (i * 2)
      have f2 := fi (i * 2 + 1)
      have f3 := fi (j * 2)
      have f4 := fi (j * 2 + 1)
      have HSW := Lib.hid (row_swap hrow (i := i) (j := j) (by omega) (by omega))
      have HST := Lib.hid (hri.step hlt)
      rw [← hj] at HST
      have HJ := Lib.hid hj
      clear ci fi hrow hri hB hj hjc
      generalize l.getD i (0, 0) = x at *
      generalize l.getD j (0, 0) = y at *
      obtain ⟨x1, x2⟩ := x
      obtain ⟨y1, y2⟩ := y
      simp only [] at c1 c2 c3 c4 HSW
      go_wp2_with fail
      go_region_o
      go_wp2
      go_roundg (es.length - (i + 1))
      case measure => omega
      case rel =>
        have hj := HJ.out
        exact ⟨i + 1, swE l i j, by go_num, by rw [show (es.length : Int) - 1 - ((i + 1 : Nat) : Int) = (j : Int) - 1 by omega], Nat.le_refl _, by omega, HST.out, HSW.out.drew, ((((HB.out.drew.setCell (p := ⟨g, _, none⟩) hL _).setCell (p := ⟨g, _, none⟩) hL _).setCell (p := ⟨g, _, none⟩) hL _).setCell (p := ⟨g, _, none⟩) hL _)⟩
    · have hc : ¬ (i : Int) < (es.length : Int) - 1 - i := by omega
      have HE := Lib.hid (hri.last (by omega))
      clear hri hrow hB
      go_wp2
      go_end0
      exact ⟨rfl, by rw [← HE.out]; exact HRW.out, HB.out⟩
theorem Reverse_own {L : Nat} {v : Value} {es : List (Int × Int)} {w : World} (h : w.ownsRow L 77 2 v es.length (cellsE es)) (hl : es.length ≤ 4096) :
    Calls Try.prog 67 #[v] w fun e w' => e = .returned (.tuple #[]) ∧ w'.ownsRow L 77 2 v es.reverse.length (cellsE es.reverse) ∧ Below L w w' := by
  rcases own_row h with ⟨rfl, rfl⟩ | ⟨g, cap, ex, rfl, hL, h1, h2, h3, hr⟩
  · refine (Reverse_nil w).mono ?_
    rintro e w' ⟨rfl, rfl⟩
    exact ⟨rfl, h, Below.refl _ _⟩
  · refine (Reverse_row g L cap es ex hl hL w hr).mono ?_
    rintro e w' ⟨rfl, h4, h5⟩
    refine ⟨rfl, ?_, h5⟩
    rw [List.length_reverse]
    exact row_ownE h4 hL (by rw [cellsE_length, List.length_reverse]) h1 h2 h3
end Go.Proofs.Ytkpmkeklopfhdaa
