/-
  Sorted lists whose equal neighbours are struck: plain mathematics.
-/
import Derived.Lib.SlicesCompact
namespace Go.Proofs.YtibkhjbcagihbaaDoor
open Go

theorem getI_le {zs : List Int} (h : zs.Pairwise (· ≤ ·)) {i j : Nat} (hij : i ≤ j) (hj : j < zs.length) : zs.toArray[i]! ≤ zs.toArray[j]! := by
  have hi : i < zs.length := by omega
  simp only [List.getElem!_toArray]
  rw [getElem!_pos zs i hi, getElem!_pos zs j hj]
  by_cases e : i = j
  · subst e; exact Int.le_refl _
  · exact List.pairwise_iff_getElem.1 h i j hi hj (by omega)

theorem keeps_iff {d : Array Int} {m : Nat} : Lib.keeps d m = true ↔ (m = 0 ∨ d[m]! ≠ d[m - 1]!) := by
  by_cases hm : 0 < m
  · by_cases h : d[m]! = d[m - 1]!
    · rw [Lib.keeps_neg hm h]; simp [h]; omega
    · rw [Lib.keeps_pos h]; simp [h]
  · have : m = 0 := by omega
    subst this
    rw [Lib.keeps_lt_one d 0 (by omega)]; simp

theorem compact_strict (zs : List Int) (h : zs.Pairwise (· ≤ ·)) : (Lib.compact zs).Pairwise (· < ·) := by
  unfold Lib.compact Lib.compactUpTo
  rw [List.pairwise_map]
  have hr : (List.range zs.length).Pairwise (fun i j => i < j ∧ j < zs.length) := by
    rw [List.pairwise_iff_getElem]
    intro i j hi hj hij
    simp at hi hj ⊢
    omega
  have hf := hr.filter (Lib.keeps zs.toArray)
  refine List.Pairwise.imp_of_mem ?_ hf
  rintro i j hi hj ⟨hij, hjl⟩
  have hk := (List.mem_filter.1 hj).2
  rcases keeps_iff.1 hk with h0 | h0
  · omega
  · have a := getI_le h (show i ≤ j - 1 by omega) (show j - 1 < zs.length by omega)
    have b := getI_le h (show j - 1 ≤ j by omega) hjl
    omega

theorem compact_mem_at (zs : List Int) : ∀ j, j < zs.length → zs.toArray[j]! ∈ Lib.compact zs := by
  intro j
  induction j with
  | zero =>
    intro hj
    unfold Lib.compact Lib.compactUpTo
    exact List.mem_map.2 ⟨0, List.mem_filter.2 ⟨List.mem_range.2 hj, keeps_iff.2 (Or.inl rfl)⟩, rfl⟩
  | succ j ih =>
    intro hj
    by_cases h : zs.toArray[j + 1]! = zs.toArray[j]!
    · rw [h]; exact ih (by omega)
    · unfold Lib.compact Lib.compactUpTo
      exact List.mem_map.2 ⟨j + 1, List.mem_filter.2 ⟨List.mem_range.2 hj, keeps_iff.2 (Or.inr h)⟩, rfl⟩

theorem compact_mem (zs : List Int) (x : Int) : x ∈ Lib.compact zs ↔ x ∈ zs := by
  constructor
  · intro h
    unfold Lib.compact Lib.compactUpTo at h
    obtain ⟨j, hj, rfl⟩ := List.mem_map.1 h
    have hl := List.mem_range.1 (List.mem_filter.1 hj).1
    simp only [List.getElem!_toArray]
    rw [getElem!_pos zs j hl]
    exact List.getElem_mem _
  · intro h
    obtain ⟨j, hj, rfl⟩ := List.mem_iff_getElem.1 h
    have := compact_mem_at zs j hj
    simp only [List.getElem!_toArray] at this
    rwa [getElem!_pos zs j hj] at this

theorem compact_length (zs : List Int) : (Lib.compact zs).length ≤ zs.length := by
  unfold Lib.compact Lib.compactUpTo
  rw [List.length_map]
  exact Nat.le_trans (List.length_filter_le _ _) (by simp)

theorem strict_ext : ∀ {xs ys : List Int}, xs.Pairwise (· < ·) → ys.Pairwise (· < ·) → (∀ x, x ∈ xs ↔ x ∈ ys) → xs = ys
  | [], [], _, _, _ => rfl
  | [], y :: ys, _, _, h => by have := (h y).2 (by simp); cases this
  | x :: xs, [], _, _, h => by have := (h x).1 (by simp); cases this
  | x :: xs, y :: ys, hx, hy, h => by
    rw [List.pairwise_cons] at hx hy
    have e : x = y := by
      have a := (h x).1 (by simp)
      have b := (h y).2 (by simp)
      rcases List.mem_cons.1 a with e | a
      · exact e
      · rcases List.mem_cons.1 b with e | b
        · exact e.symm
        · have := hx.1 y b
          have := hy.1 x a
          omega
    subst e
    congr 1
    refine strict_ext hx.2 hy.2 (fun z => ?_)
    constructor
    · intro hz
      rcases List.mem_cons.1 ((h z).1 (List.mem_cons_of_mem _ hz)) with e | h'
      · subst e; have := hx.1 z hz; omega
      · exact h'
    · intro hz
      rcases List.mem_cons.1 ((h z).2 (List.mem_cons_of_mem _ hz)) with e | h'
      · subst e; have := hy.1 z hz; omega
      · exact h'

theorem class_list (B : Nat) (xs : List Nat) (hB : ∀ x, x ∈ xs → x < B) :
    Lib.compact ((xs.map fun (x : Nat) => (x : Int)).mergeSort fun x y => decide (x ≤ y)) = ((List.range B).filter fun x => decide (x ∈ xs)).map fun (x : Nat) => (x : Int) := by
  apply strict_ext
  · apply compact_strict
    have := List.pairwise_mergeSort (le := fun (x y : Int) => decide (x ≤ y)) (fun a b c h1 h2 => by simp at *; omega) (fun a b => by simp; omega) (xs.map fun (x : Nat) => (x : Int))
    exact this.imp (fun h => by simpa using h)
  · rw [List.pairwise_map]
    exact ((List.pairwise_lt_range (n := B)).filter _).imp (fun h => by omega)
  · intro x
    rw [compact_mem, List.mem_mergeSort, List.mem_map, List.mem_map]
    constructor
    · rintro ⟨y, hy, rfl⟩
      exact ⟨y, List.mem_filter.2 ⟨List.mem_range.2 (hB y hy), by simpa using hy⟩, rfl⟩
    · rintro ⟨y, hy, rfl⟩
      exact ⟨y, by simpa using (List.mem_filter.1 hy).2, rfl⟩

end Go.Proofs.YtibkhjbcagihbaaDoor
