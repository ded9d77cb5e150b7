/-
  Strings and their first bytes, as lists of numbers.
-/
import Derived.Test.YtkpmkeklopfhdaaEdDone
namespace Go.Proofs.Ytkpmkeklopfhdaa
open Go.ChangeShapes Go.WideShapes Go.ChangeAt Go.RowKit
set_option maxRecDepth 100000

/-- A string's bytes as numbers. -/
def bsN (s : ByteArray) : List Nat := s.data.toList.map UInt8.toNat
theorem bsN_length (s : ByteArray) : (bsN s).length = s.size := by unfold bsN; simp
theorem bsN_at (s : ByteArray) (i : Nat) (h : i < s.size) : atB (bsN s) i = (s[i]'h).toNat := by
  unfold atB bsN
  have h' : i < s.data.toList.length := by simpa using h
  rw [List.getD_eq_getElem?_getD, List.getElem?_map, List.getElem?_eq_getElem h']
  simp; rfl
theorem bsN_lt (s : ByteArray) (i : Nat) : atB (bsN s) i < 256 := by
  unfold atB bsN
  rw [List.getD_eq_getElem?_getD, List.getElem?_map]
  cases h : s.data.toList[i]? with
  | none => simp
  | some b => simpa using UInt8.toNat_lt b
theorem bsN_inj {s t : ByteArray} (h : bsN s = bsN t) : s = t := by
  unfold bsN at h
  apply ByteArray.ext
  apply Array.ext'
  exact (List.map_inj_right (fun _ _ e => UInt8.toNat_inj.1 e)).1 h

theorem toList_loop_eq (s : ByteArray) : ∀ (m i : Nat) (r : List UInt8), s.size - i = m → i ≤ s.size → ByteArray.toList.loop s i r = r.reverse ++ s.data.toList.drop i := by
  intro m
  induction m with
  | zero =>
    intro i r h hi
    have e : s.data.toList.drop i = [] := List.drop_of_length_le (by rw [Array.length_toList]; have : s.data.size = s.size := rfl; omega)
    rw [ByteArray.toList.loop, if_neg (by omega), e, List.append_nil]
  | succ m ih =>
    intro i r h hi
    have hlt : i < s.size := by omega
    have hlt' : i < s.data.toList.length := by rw [Array.length_toList]; exact hlt
    rw [ByteArray.toList.loop, if_pos hlt, ih _ _ (by omega) (by omega), List.reverse_cons, List.append_assoc, List.drop_eq_getElem_cons hlt']
    have : s.get! i = s.data.toList[i] := by
      rw [Array.getElem_toList]
      show s.data[i]! = s.data[i]
      exact getElem!_pos s.data i hlt
    rw [this]; rfl
theorem toList_eq (s : ByteArray) : s.toList = s.data.toList := by
  unfold ByteArray.toList
  rw [toList_loop_eq s s.size 0 [] (by omega) (by omega)]
  rfl
theorem toList_go (s : ByteArray) : s.toList = s.data.toList := toList_eq s
theorem str_eq (s t : ByteArray) : (s.toList == t.toList) = decide (bsN s = bsN t) := by
  rw [toList_go, toList_go, Bool.eq_iff_iff, beq_iff_eq, decide_eq_true_eq]
  constructor
  · intro h; unfold bsN; rw [h]
  · intro h; rw [bsN_inj h]
theorem bsN_extract (s : ByteArray) (i j : Nat) : bsN (s.extract i j) = ((bsN s).take j).drop i := by
  unfold bsN
  simp [ByteArray.data_extract, List.map_drop, List.map_take, List.extract_eq_drop_take', List.take_drop]
  rcases Nat.le_total i j with h | h
  · rw [show i + (j - i) = j by omega]
  · rw [show i + (j - i) = i by omega, List.drop_of_length_le (by simp; omega), List.drop_of_length_le (by simp; omega)]
theorem size_ext (s : ByteArray) (i : Nat) (h : i ≤ s.size) : (s.extract i s.size).size = s.size - i := by simp
theorem bsN_rest (s : ByteArray) (i : Nat) : bsN (s.extract i s.size) = (bsN s).drop i := by
  rw [bsN_extract, List.take_of_length_le (by rw [bsN_length]; exact Nat.le_refl _)]
theorem at_rest (s : ByteArray) (i : Nat) : atB (bsN (s.extract i s.size)) 0 = atB (bsN s) i := by
  rw [bsN_rest]; unfold atB; simp [List.getD_eq_getElem?_getD]
theorem bsN_first (s : ByteArray) (h : 0 < s.size) : bsN (s.extract 0 1) = [atB (bsN s) 0] := by
  rw [bsN_extract, List.drop_zero]
  have hl := bsN_length s
  cases hb : bsN s with
  | nil => rw [hb] at hl; simp at hl; omega
  | cons x l => simp [atB]
theorem bsN_one (b : Nat) (h : b < 256) : bsN (oneS (b : Int)) = [b] := by
  unfold oneS strOfNums bsN
  have e : IntKind.u8.wrap (b : Int) = b := by
    show ((b : Int)) % 256 = b
    omega
  rw [e]
  simp
  omega
theorem one_size (b : Int) : (oneS b).size = 1 := rfl
theorem has_one {s p : ByteArray} {x : Nat} (hp : bsN p = [x]) : hasB s p = decide (0 < s.size ∧ atB (bsN s) 0 = x) := by
  have h1 : p.size = 1 := by rw [← bsN_length, hp]; rfl
  unfold hasB
  rw [h1, str_eq, hp]
  by_cases h0 : 0 < s.size
  · rw [bsN_first s h0, decide_eq_true (show 1 ≤ s.size by omega)]
    simp [h0]
  · rw [decide_eq_false (show ¬ 1 ≤ s.size by omega)]
    simp [h0]
theorem has_none (s : ByteArray) : hasB s noS = true := by
  unfold hasB
  rw [str_eq]
  simp [bsN_extract, bsN]
  exact ⟨Nat.zero_le _, Or.inl rfl⟩
end Go.Proofs.Ytkpmkeklopfhdaa
