/-
  An argument that is a slice of strings, opened.
-/
import Derived.Test.YtkpmkeklopfhdaaRoArg
import Derived.Test.YtkpmkeklopfhdaaEdFns
import Derived.SliceStrings
import Derived.Test.YtkpmkeklopfhdaaEdIsEdit
import Derived.Test.YtkpmkeklopfhdaaEdTab
import Derived.Deep.SlicePairs
import Derived.Deep.Matrix
namespace Go.Proofs.Ytkpmkeklopfhdaa

section
open Go.ChangeShapes Go.WideShapes Go.ChangeAt Go.RowKit
set_option linter.unusedVariables false

theorem cellsS : Try.prog.cellsOf 9 = 1 := by kernel_rfl

set_option maxRecDepth 100000 in
/-- An argument that is a slice of strings. -/
theorem arg_strs {H : Type} {enc : TypeId × Value → H} {W : World} {base : Nat} {v : Value} {d : DataW H} {ps : List MemPlace} (hval : Value.okWide Try.prog W .any base 68 v) (h : DataW.Trod enc Try.prog W 0 (fun _ => true) true 68 v d ps) :
    ∃ xs : List ByteArray, xs.length ≤ maxLen ∧ StrsV W v xs := by
  obtain ⟨a0, len, cap, rfl⟩ := okWide_slice Try.underlying68 hval
  obtain ⟨fuel, hf⟩ := h
  rcases open_strings Try.underlying68 Try.underlying9 cellsS hf with ⟨hcs, _⟩ | ⟨a, len', cap', zs, hcs, _, hl, hm, hz, _, hcell, hwz⟩
  · simp [Value.cells] at hcs
    obtain ⟨rfl, rfl, rfl⟩ := hcs
    exact ⟨[], by simp, none, 0, rfl, Nat.le_refl _, fun h => by simp at h⟩
  · simp [Value.cells] at hcs
    obtain ⟨rfl, rfl, rfl⟩ := hcs
    simp only [if_true] at hz
    refine ⟨zs.take len, by rw [List.length_take]; omega, some a, cap, by rw [List.length_take, Nat.min_eq_left (by omega)], by rw [List.length_take]; omega, fun h0 => ?_⟩
    rw [List.length_take] at h0
    obtain ⟨b, off, spot⟩ := a
    have hspot : spot = none := by simpa [Addr.add] using World.cell?_spot (hcell 0 (by omega))
    subst hspot
    refine ⟨b, off, rfl, fun i hi => ?_⟩
    rw [List.length_take] at hi
    have := hcell i (by omega)
    rw [List.getElem?_take_of_lt (by omega)]
    have ea : (⟨b, off, none⟩ : Addr).add i = ⟨b, off + i, none⟩ := by
      unfold Addr.add
      split
      · rename_i e; subst e; rfl
      · rfl
    rw [ea] at this
    exact this
end

section
/-
  Arguments that are slices of edits, and slices of slices of integers, opened.
-/
open Go.ChangeShapes Go.WideShapes Go.ChangeAt Go.RowKit
set_option linter.unusedVariables false
set_option maxRecDepth 100000

theorem cellsI : Try.prog.cellsOf 3 = 1 := by kernel_rfl
theorem cellsL : Try.prog.cellsOf 53 = 1 := by kernel_rfl
theorem cellsEd : Try.prog.cellsOf 100 = 2 := by kernel_rfl
theorem add_off {b off i : Nat} : (⟨b, off, none⟩ : Addr).add i = ⟨b, off + i, none⟩ := by
  unfold Addr.add
  split
  · rename_i e; subst e; rfl
  · rfl

/-- An argument that is a slice of slices of integers. -/
theorem arg_tab {H : Type} {enc : TypeId × Value → H} {W : World} {base : Nat} {v : Value} {d : DataW H} {ps : List MemPlace} (hval : Value.okWide Try.prog W .any base 47 v) (h : DataW.Trod enc Try.prog W 0 (fun _ => true) true 47 v d ps) :
    ∃ t : List (List Int), (t.length ≤ maxLen ∧ ∀ r ∈ t, r.length ≤ maxLen) ∧ TabV W v t := by
  obtain ⟨a0, len, cap, rfl⟩ := okWide_slice Try.underlying47 hval
  obtain ⟨fuel, hf⟩ := h
  rcases Deep.open_int_rows Try.underlying47 Try.underlying53 Try.underlying3 cellsL cellsI hf with ⟨hcs, _⟩ | ⟨a, len', cap', A, L, C, Z, hcs, _, hl, hm, _, hrow⟩
  · simp [Value.cells] at hcs
    obtain ⟨rfl, rfl, rfl⟩ := hcs
    exact ⟨[], ⟨by simp, by simp⟩, none, 0, rfl, Nat.le_refl _, fun h => by simp at h⟩
  · simp [Value.cells] at hcs
    obtain ⟨rfl, rfl, rfl⟩ := hcs
    refine ⟨(List.range len).map fun r => (Z r).take (L r), ⟨by simp; omega, fun r hr => ?_⟩, some a, cap, by simp, by simp; omega, fun h0 => ?_⟩
    · obtain ⟨q, hq, rfl⟩ := List.mem_map.1 hr
      have hq2 := List.mem_range.1 hq
      obtain ⟨_, h2, h3, h4, _⟩ := hrow q (by omega)
      rw [List.length_take]; omega
    · simp only [List.length_map, List.length_range] at h0
      obtain ⟨b, off, spot⟩ := a
      have hspot : spot = none := by
        have := (hrow 0 (by omega)).1
        simpa [Addr.add] using World.cell?_spot this
      subst hspot
      refine ⟨b, off, rfl, fun i hi => ?_⟩
      simp only [List.length_map, List.length_range] at hi
      obtain ⟨h1, h2, h3, h4, _, h6, h7⟩ := hrow i (by omega)
      rw [add_off] at h1
      refine ⟨_, h1, ?_⟩
      have e : ((List.range len).map fun r => (Z r).take (L r))[i]?.getD [] = (Z i).take (L i) := by
        rw [List.getElem?_map, List.getElem?_range hi]; rfl
      rw [e]
      refine ⟨A i, C i, by rw [List.length_take, h4, Nat.min_eq_left h2], by rw [List.length_take]; omega, fun h0 => ?_⟩
      rw [List.length_take] at h0
      cases hA : A i with
      | none => have := h6 hA; omega
      | some a' =>
        obtain ⟨_, hc⟩ := h7 a' hA
        obtain ⟨b', off', spot'⟩ := a'
        have hs : spot' = none := by
          have := hc 0 (by omega)
          simpa [Addr.add] using World.cell?_spot this
        subst hs
        refine ⟨b', off', rfl, fun j hj => ?_⟩
        rw [List.length_take] at hj
        have := hc j (by omega)
        rw [add_off] at this
        rw [this, List.getElem?_take_of_lt (by omega)]; rfl

/-- An argument that is a slice of the reference's edits. -/
theorem arg_eds {H : Type} {enc : TypeId × Value → H} {W : World} {base : Nat} {v : Value} {d : DataW H} {ps : List MemPlace} (hval : Value.okWide Try.prog W .any base 37 v) (h : DataW.Trod enc Try.prog W 0 (fun _ => true) true 37 v d ps) :
    ∃ es : List (Int × Int), es.length ≤ maxLen ∧ EdsV W v es := by
  obtain ⟨a0, len, cap, rfl⟩ := okWide_slice Try.underlying37 hval
  obtain ⟨fuel, hf⟩ := h
  rcases Deep.open_slice_pairs Try.underlying37 Try.underlying100 cellsEd rfl rfl cellsI cellsI hf with ⟨hcs, _⟩ | ⟨a, len', cap', m, n, V0, V1, D0, D1, P0, P1, hcs, _, hl, hm, hmm, _, hrow⟩
  · simp [Value.cells] at hcs
    obtain ⟨rfl, rfl, rfl⟩ := hcs
    exact ⟨[], by simp, none, 0, rfl, Nat.le_refl _, fun h => by simp at h⟩
  · simp [Value.cells] at hcs
    obtain ⟨rfl, rfl, rfl⟩ := hcs
    simp only [if_true] at hmm
    have hz : ∀ i, i < len → ∃ z : Int × Int, W.cell? (a.add (i * 2)) = some (.int .i64 z.1) ∧ W.cell? (a.add (i * 2 + 1)) = some (.int .i64 z.2) := fun i hi => by
      obtain ⟨h1, h2, h3, h4⟩ := hrow i (by omega)
      obtain ⟨z1, e1, _⟩ := DataW.trod_int Try.underlying3 h3
      obtain ⟨z2, e2, _⟩ := DataW.trod_int Try.underlying3 h4
      have e1' : V0 i = .int .i64 z1 := by simpa using e1
      have e2' : V1 i = .int .i64 z2 := by simpa using e2
      exact ⟨(z1, z2), by rw [h1, e1'], by rw [h2, e2']⟩
    let F : Nat → Int × Int := fun i => if hi : i < len then Classical.choose (hz i hi) else (0, 0)
    have hF : ∀ i, i < len → W.cell? (a.add (i * 2)) = some (.int .i64 (F i).1) ∧ W.cell? (a.add (i * 2 + 1)) = some (.int .i64 (F i).2) := fun i hi => by
      have e : F i = Classical.choose (hz i hi) := dif_pos hi
      rw [e]; exact Classical.choose_spec (hz i hi)
    refine ⟨(List.range len).map F, by simp; omega, some a, cap, by simp, by simp; omega, fun h0 => ?_⟩
    simp only [List.length_map, List.length_range] at h0
    obtain ⟨b, off, spot⟩ := a
    have hspot : spot = none := by
      have := (hF 0 h0).1
      simpa [Addr.add] using World.cell?_spot this
    subst hspot
    refine ⟨b, off, rfl, fun i hi => ?_⟩
    simp only [List.length_map, List.length_range] at hi
    have e : ((List.range len).map F)[i]?.getD (0, 0) = F i := by rw [List.getElem?_map, List.getElem?_range hi]; rfl
    rw [e]
    have := hF i hi
    rw [add_off, add_off] at this
    exact this
end

end Go.Proofs.Ytkpmkeklopfhdaa
