/-
  IsSorted and Sort at rows of the program's own.
-/
import Derived.Test.YtmemnkmmjejlgaaDoorEvAllMath
import Derived.Test.YtmemnkmmjejlgaaDoorEvListsLaw
namespace Go.Proofs.YtmemnkmmjejlgaaDoor
open Go.RowKit Go.Shelf Go.Lib Go.Sort
attribute [local go_sem] Oper.semAt_some
set_option maxRecDepth 100000

theorem Less_any (x y : Int) (w : World) : Calls Tryd.prog 61 #[.int .i64 x, .int .i64 y] w fun e w' => e = .returned (.bool (decide (x < y))) ∧ w = w' := by
  exact (Tryd.cmp_Less_int2 x y w).mono fun e w' h => ⟨h.1, h.2.symm⟩

theorem IsSorted_any (g cap : Nat) (xs : List Nat) (hl : xs.length ≤ 4096) (h1 : 1 ≤ xs.length) (hs : ∀ i, i + 1 < xs.length → xs[i]?.getD 0 ≤ xs[i + 1]?.getD 0) (w : World) (hc : ∀ i, i < xs.length → w.cell? ⟨g, i, none⟩ = some (.int .i64 ((xs[i]?.getD 0 : Nat) : Int))) :
    Calls Tryd.prog 38 #[.slice (some ⟨g, 0, none⟩) xs.length cap] w fun e w' => e = .returned (.bool true) ∧ ∃ m, w' = w.drewN m := by
  have HL := Lib.hid (fun x y w => Less_any x y w)
  obtain ⟨K, hK⟩ : ∃ K, xs.length = K := ⟨_, rfl⟩
  rw [hK] at hl h1 hs hc ⊢
  have HS := Lib.hid hs
  have HC := Lib.hid hc
  clear hs hc hK
  go_enter Tryd.func38, Tryd.ntmps38
  go_wp2
  go_loopw [3] (fun v wr => ∃ i m : Nat, i < K ∧ v = .int .i64 i ∧ wr = w.drewN m) (fun v _ => (intOf v).toNat)
  case atStart => exact ⟨K - 1, 0, by omega, by go_num, rfl⟩
  case round =>
    obtain ⟨i, m, hi, rfl, rfl⟩ := hrel
    by_cases h0 : 0 < i
    · obtain ⟨j, hij⟩ : ∃ j, i = j + 1 := ⟨i - 1, by omega⟩
      have c1 := HC.out i hi
      have hj : j < K := by omega
      have c2 := HC.out j hj
      have hle := HS.out j (by omega)
      rw [← hij] at hle
      have hlt : (decide ((((xs[i]?.getD 0 : Nat) : Int)) < ((xs[j]?.getD 0 : Nat) : Int))) = false := decide_eq_false (by omega)
      generalize xs[i]?.getD 0 = a at c1 hle hlt
      generalize xs[j]?.getD 0 = b at c2 hle hlt
      have e1 : (i : Int) - 1 = (j : Int) := by omega
      obtain ⟨W, hW⟩ : ∃ W, w.drewN m = W := ⟨_, rfl⟩
      have c1' : W.cell? ⟨g, i, none⟩ = some (.int .i64 (a : Nat)) := by rw [← hW]; exact c1
      have c2' : W.cell? ⟨g, j, none⟩ = some (.int .i64 (b : Nat)) := by rw [← hW]; exact c2
      rw [hW]
      have HW := Lib.hid hW
      clear c1 c2 hW
      have hw : IntKind.i64.wrap (j : Int) = j := IntWalk.i64_in _ (by omega)
      have HIJ := Lib.hid hij
      clear hij h0
      have h0 : 0 < i := by have := HIJ.out; omega
      have HL2 := Lib.hid (HL.out a b)
      rw [hlt] at HL2
      clear hlt
      go_wp2
      go_quiet ((go_at_call 61; exact Calls.quiet_of_same ((HL2.out _).mono fun e w' h => ⟨h.1, h.2.symm⟩)))
      go_wp2
      go_roundw
      case rel => exact ⟨j, m + nq, hj, by go_num, by rw [← HW.out, World.drewN_drewN]⟩
      case measure => have := HIJ.out; simp only [intOf]; omega
    · obtain rfl : i = 0 := by omega
      go_wp2
      go_ret
      exact ⟨rfl, m, rfl⟩

theorem sort_any (v : Value) (xs : List Nat) (h1 : 1 ≤ xs.length) (h2 : xs.length ≤ 4096) (V w : World) (hV : Below V.heap.size V w) (ho : w.ownsRow V.heap.size 3 1 v xs.length (ints xs)) :
    ∃ g cap, v = .slice (some ⟨g, 0, none⟩) xs.length cap ∧ xs.length ≤ cap ∧ Calls Tryd.prog 40 #[v] w fun e w' => e = .returned (.tuple #[]) ∧ ZRow V.heap.size w' g (zsort xs) ∧ Below V.heap.size V w' ∧ ∀ b, b < w.heap.size → b ≠ g → w'.heap[b]? = w.heap[b]? := by
  obtain ⟨_, ⟨_, h0⟩ | ⟨g', cap', cur, rfl, hg', hh, h3, h4, h5, h6⟩⟩ := ho
  · omega
  · refine ⟨g', cap', rfl, h3, ?_⟩
    obtain ⟨zs, hzs⟩ : ∃ zs, (xs.map fun (x : Nat) => (x : Int)) = zs := ⟨_, rfl⟩
    have hzl : zs.length = xs.length := by rw [← hzs, List.length_map]
    rw [ints_enc, hzs] at h6
    have hH : Holds (Value.int .i64) w g' 0 zs.toArray := holds_of_block_i hh (by rw [hzl]; rw [Nat.mul_one] at h6; exact h6)
    have hgl : g' < w.heap.size := (Array.getElem?_eq_some_iff.1 hh).1
    have hzz : zsort xs = zs.mergeSort fun x y => decide (x ≤ y) := by rw [← hzs]; rfl
    have H := Tryd.slices_Sort_int g' 0 cap' zs w hH hgl (by rw [hzl]; omega)
    rw [← hzz, hzl] at H
    refine H.mono ?_
    rintro e w2 ⟨rfl, m, os, rfl⟩
    have hgr := grownBy_sorted_i (w := w) (g := g') (n := m) (os := os) (zsort xs).toArray
    have hz : Holds (Value.int .i64) (grow (putRow (Value.int .i64) (Sort.ahead w m) g' 0 (zsort xs).toArray) os) g' 0 (zsort xs).toArray :=
      holds_grow (holds_putRow _ _ g' 0 zs.toArray (zsort xs).toArray (fun j hj => hH j hj) (by simp [hzl, zsort_length])) (by simpa [putRow, mapBlock, Sort.ahead] using hgl)
    exact ⟨rfl, ⟨hg', Nat.lt_of_lt_of_le hgl hgr.size, hz⟩, hV.grown hgr hV.size (fun j hj => by cases hj; exact hg'), fun b hb hne => hgr.block b hb (fun e => hne (Option.some.inj e))⟩

end Go.Proofs.YtmemnkmmjejlgaaDoor
