/-
  Slices of slices: their beginnings and ends; what is contained, and where.
-/
import Derived.Test.YtdfagnjdconkcaaRoStepsLaw
import Derived.Laws.Slices
import Derived.ChangeKeysEq
namespace Go.Proofs.Ytdfagnjdconkcaa
open Go.ChangeShapes Go.WideShapes Go.ChangeAt Go.RowKit
set_option maxRecDepth 100000

theorem slice_elem : Try.prog.underlying 22 = some (.slice (Try.prog.elem 22)) := by kernel_rfl
theorem size_elem (W : World) : (sizeOf (Try.prog.elem 22)).run Try.prog W = .ok 1 W := by
  rw [show Try.prog.elem 22 = 3 by kernel_rfl]
  obtain ⟨i0, hi, _⟩ := info_parts info_intV
  rw [run_sizeOf (h := hi), show Try.prog.cellsOf 3 = 1 by kernel_rfl]

theorem run_from (ao : Option Addr) (len cap : Nat) (j : Int) (h0 : 0 ≤ j) (h1 : j ≤ len) (W : World) : (Instr.slice 22 (.slice ao len cap) (some (.int .i64 j)) none none).run Try.prog W = .ok (sliced ao j.toNat len cap 1) W := by
  rw [run_slice_l (ht := slice_elem) (h0 := h0) (h1 := h1), size_elem]; rfl
theorem run_upto (ao : Option Addr) (len cap : Nat) (j : Int) (h0 : 0 ≤ j) (h1 : j ≤ cap) (W : World) : (Instr.slice 22 (.slice ao len cap) none (some (.int .i64 j)) none).run Try.prog W = .ok (sliced ao 0 j.toNat cap 1) W := by
  rw [run_slice_h (ht := slice_elem) (h0 := h0) (h2 := h1), size_elem]; rfl
theorem run_part (ao : Option Addr) (len cap : Nat) (i j : Int) (h0 : 0 ≤ i) (h1 : i ≤ j) (h2 : j ≤ cap) (W : World) : (Instr.slice 22 (.slice ao len cap) (some (.int .i64 i)) (some (.int .i64 j)) none).run Try.prog W = .ok (sliced ao i.toNat j.toNat cap 1) W := by
  rw [run_slice_lh (ht := slice_elem) (h0 := h0) (h1 := h1) (h2 := h2), size_elem]; rfl

theorem add_addr (b off i : Nat) : (⟨b, off, none⟩ : Addr).add i = ⟨b, off + i, none⟩ := by
  unfold Addr.add
  split
  · rename_i e; subst e; rfl
  · rfl

theorem IntsV.part {W : World} {ao : Option Addr} {len cap : Nat} {xs : List Int} (h : IntsV W (.slice ao len cap) xs) (i j : Nat) (hij : i ≤ j) (hj : j ≤ xs.length) : IntsV W (sliced ao i j cap 1) ((xs.take j).drop i) := by
  obtain ⟨ao', cap', e, hlc, hc⟩ := h
  cases e
  have hl : ((xs.take j).drop i).length = j - i := by rw [List.length_drop, List.length_take]; omega
  refine ⟨_, cap - i, by unfold sliced; rw [hl], by rw [hl]; omega, fun h0 => ?_⟩
  rw [hl] at h0
  obtain ⟨b, off, rfl, hd⟩ := hc (by omega)
  rw [if_neg (by omega)]
  refine ⟨b, off + i, by rw [Option.map_some, Nat.mul_one, add_addr], fun k hk => ?_⟩
  rw [hl] at hk
  rw [List.getElem?_drop, List.getElem?_take_of_lt (by omega), Nat.add_assoc]
  exact hd (i + k) (by omega)
theorem IntsV.from {W : World} {ao : Option Addr} {len cap : Nat} {xs : List Int} (h : IntsV W (.slice ao len cap) xs) (i : Nat) (hi : i ≤ len) : IntsV W (sliced ao i len cap 1) (xs.drop i) := by
  have hl : len = xs.length := by obtain ⟨ao', cap', e, _⟩ := h; cases e; rfl
  have := h.part i len hi (by omega)
  rwa [List.take_of_length_le (by omega)] at this
theorem IntsV.upto {W : World} {ao : Option Addr} {len cap : Nat} {xs : List Int} (h : IntsV W (.slice ao len cap) xs) (j : Nat) (hj : j ≤ len) : IntsV W (sliced ao 0 j cap 1) (xs.take j) := by
  have hl : len = xs.length := by obtain ⟨ao', cap', e, _⟩ := h; cases e; rfl
  have := h.part 0 j (Nat.zero_le _) (by omega)
  rwa [List.drop_zero] at this

theorem IntsV.drewN {W : World} {v : Value} {xs : List Int} (h : IntsV W v xs) (q : Nat) : IntsV (W.drewN q) v xs := h

end Go.Proofs.Ytdfagnjdconkcaa
