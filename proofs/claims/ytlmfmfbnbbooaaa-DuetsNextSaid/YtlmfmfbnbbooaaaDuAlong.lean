/-
  How a beginning goes on, and where it does not; IsSorted.
-/
import Derived.Test.YtlmfmfbnbbooaaaDuNext
import Derived.Test.YtlmfmfbnbbooaaaDuTurnedLaw
import Derived.Test.YtlmfmfbnbbooaaaRoCut
namespace Go.Proofs.Ytlmfmfbnbbooaaa
open Go.ChangeShapes Go.WideShapes Go.ChangeAt Go.RowKit
set_option maxRecDepth 100000

theorem fault_local {gs ss ts : List Int} {i : Nat} (h : ∀ j, j ≤ i → nAt ss j = nAt ts j) : faultN gs ss i = faultN gs ts i := by
  have e1 : ivA gs ss i = ivA gs ts i := by unfold ivA; rw [h i (Nat.le_refl _)]
  have e2 : ivA gs ss (i - 1) = ivA gs ts (i - 1) := by unfold ivA; rw [h (i - 1) (by omega)]
  have m1 : mvA ss i = mvA ts i := by unfold mvA; rw [h i (Nat.le_refl _), h (i - 1) (by omega)]
  have m2 : mvA ss (i - 1) = mvA ts (i - 1) := by unfold mvA; rw [h (i - 1) (by omega), h (i - 1 - 1) (by omega)]
  unfold faultN r1B r2B r3B r4B r5B r6B r7B r8B
  rw [e1, e2, m1, m2]
theorem nAt_take {ss : List Int} {k j : Nat} (h : j < k) : nAt (ss.take k) j = nAt ss j := by
  unfold nAt; rw [List.getElem?_take_of_lt h]
theorem kept_iff (gs ss : List Int) : keptB gs ss = true ↔ ∀ i, i < ss.length → faultN gs ss i = 0 := by
  unfold keptB firstF
  rw [Option.isNone_map, Option.isNone_iff_eq_none, List.find?_eq_none]
  constructor
  · intro h i hi
    have := h i (List.mem_range.2 hi)
    simpa using this
  · intro h i hi
    have := h i (List.mem_range.1 hi)
    simpa using this
theorem first_at (f : Nat → Nat) : ∀ n, (∀ i, i < n → f i = 0) ∨ ∃ k, k < n ∧ (∀ i, i < k → f i = 0) ∧ f k ≠ 0
  | 0 => .inl fun i hi => by omega
  | n + 1 => by
    rcases first_at f n with h | ⟨k, h1, h2, h3⟩
    · by_cases e : f n = 0
      · exact .inl fun i hi => by
          by_cases e2 : i = n
          · rw [e2]; exact e
          · exact h i (by omega)
      · exact .inr ⟨n, by omega, h, e⟩
    · exact .inr ⟨k, by omega, h2, h3⟩
/-- Where two parts first break a rule. -/
theorem check_at (gs ss : List Int) : ∃ i0 : Nat, i0 ≤ ss.length ∧ (∀ i, i < i0 → faultN gs ss i = 0) ∧ (i0 < ss.length → faultN gs ss i0 ≠ 0) ∧
    ((i0 = ss.length ∧ checkV gs ss = .tuple #[.int .i64 0, .int .i64 0, .int .i64 4]) ∨ (i0 < ss.length ∧ ∃ r : Int, checkV gs ss = .tuple #[.int .i64 (i0 : Nat), .int .i64 r, .int .i64 0])) := by
  rcases first_at (faultN gs ss) ss.length with h | ⟨k, h1, h2, h3⟩
  · have hk := (kept_iff gs ss).2 h
    exact ⟨ss.length, Nat.le_refl _, h, fun h => absurd h (Nat.lt_irrefl _), .inl ⟨rfl, by unfold checkV; rw [hk, faultP_kept hk]; rfl⟩⟩
  · have hf := firstF_some h1 h2 h3
    have hk : keptB gs ss = false := by unfold keptB; rw [hf]; rfl
    have hp : faultP gs ss = (k, faultN gs ss k) := by unfold faultP; rw [hf]; rfl
    exact ⟨k, by omega, h2, fun _ => h3, .inr ⟨h1, _, by unfold checkV; rw [hk, hp]; rfl⟩⟩
theorem kept_take {gs ss : List Int} {k : Nat} (hk : k ≤ ss.length) : keptB gs (ss.take k) = true ↔ ∀ i, i < k → faultN gs ss i = 0 := by
  rw [kept_iff, List.length_take, Nat.min_eq_left hk]
  constructor
  · intro h i hi
    rw [← h i hi]
    exact fault_local fun j hj => (nAt_take (by omega)).symm
  · intro h i hi
    rw [← h i hi]
    exact fault_local fun j hj => nAt_take (by omega)
/-- The notes with which a beginning goes on, as values. -/
def nextI (gs b : List Int) : List Int := (nextL gs b).map fun (x : Nat) => (x : Int)
theorem next_has {gs ss : List Int} {k : Nat} (hk : k < ss.length) (hs : notesB ss = true) : (nextI gs (ss.take k)).contains (nAt ss k) = decide (faultN gs ss k = 0) := by
  have hn := note_at hs hk
  obtain ⟨y, hy⟩ : ∃ y : Nat, nAt ss k = y := ⟨(nAt ss k).toNat, by omega⟩
  have hf : faultN gs (ss.take k ++ [(y : Int)]) (ss.take k).length = faultN gs ss k := by
    rw [List.length_take, Nat.min_eq_left (by omega)]
    refine fault_local fun j hj => ?_
    by_cases e : j < k
    · unfold nAt
      rw [List.getElem?_append_left (by rw [List.length_take]; omega), List.getElem?_take_of_lt e]
    · obtain rfl : j = k := by omega
      rw [hy]
      unfold nAt
      rw [List.getElem?_append_right (by rw [List.length_take]; omega), List.length_take, Nat.min_eq_left (by omega), Nat.sub_self]
      rfl
  rw [Bool.eq_iff_iff, List.contains_iff_mem, decide_eq_true_eq, hy]
  unfold nextI
  rw [List.mem_map]
  constructor
  · rintro ⟨x, hx, he⟩
    obtain rfl : x = y := by omega
    unfold nextL at hx
    rw [← hf]
    exact of_decide_eq_true (List.mem_filter.1 hx).2
  · intro h
    refine ⟨y, ?_, rfl⟩
    unfold nextL
    refine List.mem_filter.2 ⟨List.mem_range.2 (by omega), ?_⟩
    rw [hf]
    exact decide_eq_true h
theorem next_sorted (gs b : List Int) : ∀ i, i + 1 < (nextI gs b).length → nAt (nextI gs b) i ≤ nAt (nextI gs b) (i + 1) := by
  intro i hi
  have hp : (nextL gs b).Pairwise (· < ·) := by
    unfold nextL
    exact List.Pairwise.filter _ List.pairwise_lt_range
  unfold nextI at hi ⊢
  rw [List.length_map] at hi
  have := List.pairwise_iff_getElem.1 hp i (i + 1) (by omega) hi (by omega)
  unfold nAt
  rw [List.getElem?_map, List.getElem?_map, List.getElem?_eq_getElem (show i < (nextL gs b).length by omega), List.getElem?_eq_getElem hi]
  simp only [Option.map_some, Option.getD_some]
  omega
theorem next_len (gs b : List Int) : (nextI gs b).length ≤ 21 := by
  unfold nextI nextL
  rw [List.length_map]
  refine Nat.le_trans (List.length_filter_le _ _) ?_
  rw [List.length_range]
  exact Nat.le_refl _
end Go.Proofs.Ytlmfmfbnbbooaaa
