/-
  An edit at an index of a line: what doneV says of what is left from there on.
-/
import Derived.Test.YtkpmkeklopfhdaaEdBndMath
namespace Go.Proofs.Ytkpmkeklopfhdaa
open Go.ChangeShapes Go.WideShapes Go.ChangeAt Go.RowKit
set_option linter.unusedVariables false
set_option maxRecDepth 100000

theorem ext_size (a : ByteArray) {i : Nat} (h : i ≤ a.size) : (a.extract i a.size).size = a.size - i := size_ext a i h
theorem ext_rest (a : ByteArray) (i : Nat) : (a.extract i a.size).extract 1 (a.extract i a.size).size = a.extract (i + 1) a.size := by
  apply bsN_inj
  rw [bsN_rest, bsN_rest, bsN_rest, List.drop_drop]
theorem ext_first (a : ByteArray) {i : Nat} (h : i < a.size) : bsN ((a.extract i a.size).extract 0 1) = [atB (bsN a) i] := by
  rw [bsN_first _ (by rw [ext_size a (by omega)]; omega), at_rest]
/-- An edit that puts a byte in. -/
theorem at_in (b : Int) (s : ByteArray) : doneV (3, b) s = (oneS b, s, true) := by
  unfold doneV doneC
  rw [show ((3 : Int), b).1.toNat = 3 from rfl, if_pos rfl]
/-- At the line's end nothing else can be done. -/
theorem at_end {a : ByteArray} {k b : Int} (hk : k = 0 ∨ k = 1 ∨ k = 2) : (doneV (k, b) (a.extract a.size a.size)).2.2 = false := by
  unfold doneV doneC
  have h0 : (a.extract a.size a.size).size = 0 := by rw [ext_size a (Nat.le_refl _)]; omega
  rw [if_neg (by simp only []; omega), if_pos h0]
theorem at_keep {a : ByteArray} {i : Nat} (h : i < a.size) (b : Int) : (doneV (0, b) (a.extract i a.size)).2 = (a.extract (i + 1) a.size, true) ∧ bsN (doneV (0, b) (a.extract i a.size)).1 = [atB (bsN a) i] := by
  have h0 : ¬ (a.extract i a.size).size = 0 := by rw [ext_size a (by omega)]; omega
  have e : doneV (0, b) (a.extract i a.size) = ((a.extract i a.size).extract 0 1, a.extract (i + 1) a.size, true) := by
    show doneC 0 b _ = _
    unfold doneC
    rw [if_neg (show ¬ (0 : Nat) = 3 by decide), if_neg h0, if_pos rfl, ext_rest]
  rw [e]
  exact ⟨rfl, ext_first a h⟩
theorem at_out {a : ByteArray} {i : Nat} (h : i < a.size) (b : Int) : doneV (2, b) (a.extract i a.size) = (noS, a.extract (i + 1) a.size, true) := by
  have h0 : ¬ (a.extract i a.size).size = 0 := by rw [ext_size a (by omega)]; omega
  show doneC 2 b _ = _
  unfold doneC
  rw [if_neg (show ¬ (2 : Nat) = 3 by decide), if_neg h0, if_neg (show ¬ (2 : Nat) = 0 by decide), if_neg (show ¬ (2 : Nat) = 1 by decide), ext_rest]
theorem at_swap {a : ByteArray} {i b : Nat} (h : i < a.size) (hb : b < 256) : doneV (1, (b : Int)) (a.extract i a.size) = (oneS (b : Int), a.extract (i + 1) a.size, !decide (atB (bsN a) i = b)) := by
  have h0 : ¬ (a.extract i a.size).size = 0 := by rw [ext_size a (by omega)]; omega
  show doneC 1 (b : Int) _ = _
  unfold doneC
  have e : decide ([b] = [atB (bsN a) i]) = decide (atB (bsN a) i = b) := by
    by_cases e : atB (bsN a) i = b
    · rw [e]; simp
    · rw [decide_eq_false e, decide_eq_false (fun h => e (List.cons.inj h).1.symm)]
  rw [if_neg (show ¬ (1 : Nat) = 3 by decide), if_neg h0, if_neg (show ¬ (1 : Nat) = 0 by decide), if_pos rfl, ext_rest, str_eq, bsN_one b hb, ext_first a h, e]
end Go.Proofs.Ytkpmkeklopfhdaa
