/-
  The search by all entries in turn, as the reference makes it: it finds the same partners in another order. Plain mathematics.
-/
import Derived.Test.YtehjdhegnpmfaabDoorCaPart
namespace Go.Proofs.YtehjdhegnpmfaabDoor

theorem empty_low {n filled i : Nat} (hn : n ≤ 62) (hf : filled < 2 ^ n) (h : filled ≠ 2 ^ n - 1) (hi : i < emptyN filled) : filled.testBit i = true := by
  have hp : 2 ^ n ≤ 2 ^ 62 := Nat.pow_le_pow_right (by omega) hn
  have hl := (empty_spec hn hf h).1
  obtain ⟨_, _, h3, _⟩ := ctz_bits (2 ^ 64 - 1 - filled) (by omega) (by omega)
  have h4 := h3 i hi
  rw [show 2 ^ 64 - 1 - filled = 2 ^ 64 - (filled + 1) from by omega, Nat.testBit_two_pow_sub_succ (by omega), decide_eq_true (show i < 64 by omega), Bool.true_and] at h4
  simpa using h4

/-- What the entry at y brings. -/
def stepL (n a f b filled y : Nat) : List Nat :=
  if (mvN n a y).testBit (emptyN filled) = true ∧ mvN n a y &&& filled = 0 then partL n a f (b ||| 2 ^ y) (filled ||| mvN n a y) else []

theorem flat_filter (p : Nat → Bool) (g : Nat → List Nat) (l : List Nat) : (l.filter p).flatMap g = l.flatMap (fun x => if p x = true then g x else []) := by
  induction l with
  | nil => rfl
  | cons x l ih =>
    rw [List.flatMap_cons, List.filter_cons, ← ih]
    by_cases h : p x = true
    · rw [if_pos h, if_pos h, List.flatMap_cons]
    · rw [if_neg h, if_neg h, List.nil_append]

theorem back_perm {n e : Nat} (he : e < n) : ((List.range n).map (backN n e)).Perm (List.range n) := by
  refine (List.perm_ext_iff_of_nodup ?_ List.nodup_range).2 (fun z => ?_)
  · refine List.pairwise_map.2 (List.Pairwise.imp_of_mem (fun {x y} hx hy hne h => hne ?_) (show (List.range n).Pairwise (· ≠ ·) from List.nodup_range))
    rw [← back_two he (List.mem_range.1 hx), h, back_two he (List.mem_range.1 hy)]
  · rw [List.mem_map, List.mem_range]
    constructor
    · rintro ⟨x, _, rfl⟩; exact back_lt (by omega)
    · intro hz; exact ⟨backN n e z, List.mem_range.2 (back_lt (by omega)), back_two he hz⟩

theorem flat_congr {g h : Nat → List Nat} {l : List Nat} (e : ∀ x ∈ l, g x = h x) : l.flatMap g = l.flatMap h := by
  induction l with
  | nil => rfl
  | cons x l ih => rw [List.flatMap_cons, List.flatMap_cons, e x (List.mem_cons_self ..), ih (fun y hy => e y (List.mem_cons_of_mem _ hy))]

theorem part_perm {n a b filled : Nat} (f : Nat) (ha : a < 2 ^ n) (hn : n ≤ 62) (hf : filled < 2 ^ n) (hne : filled ≠ 2 ^ n - 1) : (partL n a (f + 1) b filled).Perm ((List.range n).flatMap (stepL n a f b filled)) := by
  obtain ⟨h1, _⟩ := empty_spec hn hf hne
  rw [partL_more hne]
  unfold tonesB
  rw [flat_filter]
  refine ((back_perm h1).symm.flatMap_right _).trans ?_
  rw [List.flatMap_map]
  rw [flat_congr (h := stepL n a f b filled) (fun y hy => ?_)]
  have hy := List.mem_range.1 hy
  have hb : (mvN n a y).testBit (emptyN filled) = a.testBit (backN n (emptyN filled) y) := by
    rw [testBit_mv hy ha, decide_eq_true h1, Bool.true_and]; rfl
  unfold stepL partX
  rw [hb, back_two h1 hy]
  by_cases h2 : a.testBit (backN n (emptyN filled) y) = true
  · rw [if_pos h2]
    by_cases h3 : mvN n a y &&& filled = 0
    · rw [if_pos h3, if_pos ⟨h2, h3⟩]
    · rw [if_neg h3, if_neg (fun h => h3 h.2)]
  · rw [if_neg h2, if_neg (fun h => h2 h.1)]

/-- What the first entries bring. -/
def stepsL (n a f b filled k : Nat) : List Nat := (List.range k).flatMap (stepL n a f b filled)
theorem stepsL_succ (n a f b filled k : Nat) : stepsL n a f b filled (k + 1) = stepsL n a f b filled k ++ stepL n a f b filled k := by
  unfold stepsL; rw [List.range_succ, List.flatMap_append, List.flatMap_singleton]
theorem stepsL_take (n a f b filled : Nat) : ∀ {k m : Nat}, k ≤ m → (stepsL n a f b filled k).length ≤ (stepsL n a f b filled m).length := fun {k m} h => by
  induction h with
  | refl => exact Nat.le_refl _
  | step _ ih => rw [stepsL_succ, List.length_append]; omega
theorem steps_length {n a f b filled : Nat} (ha : a < 2 ^ n) (hn : n ≤ 24) (hv : Inv n a b filled) (hne : filled ≠ 2 ^ n - 1) {k : Nat} (hk : k ≤ n) : (stepsL n a f b filled k).length ≤ 16777216 := by
  have h1 := stepsL_take n a f b filled hk
  have h2 := (part_perm (b := b) f ha (by omega) hv.2.1 hne).length_eq
  have h3 := nodup_length (part_nodup ha (by omega) (f + 1) hv) (fun c hc => (part_sound ha (by omega) (f + 1) hv hc).1)
  have h4 : 2 ^ n ≤ 2 ^ 24 := Nat.pow_le_pow_right (by omega) hn
  have h5 : (stepsL n a f b filled n).length = (partL n a (f + 1) b filled).length := h2.symm
  omega

/-! ### the least -/

def minL (m : Nat) (l : List Nat) : Nat := l.foldl min m
theorem minL_nil (m : Nat) : minL m [] = m := rfl
theorem minL_append (m : Nat) (l k : List Nat) : minL m (l ++ k) = minL (minL m l) k := by unfold minL; rw [List.foldl_append]
theorem minL_one (m b : Nat) (h : b < m) : minL m [b] = b := by show min m b = b; omega
theorem minL_perm {l k : List Nat} (h : l.Perm k) (m : Nat) : minL m l = minL m k := h.foldl_eq' (fun x _ y _ z => by show min (min z x) y = min (min z y) x; omega) m
theorem minL_le (l : List Nat) : ∀ m, minL m l ≤ m := by
  induction l with
  | nil => intro m; exact Nat.le_refl _
  | cons x l ih => intro m; have := ih (min m x); show minL (min m x) l ≤ m; omega
theorem minL_more (l : List Nat) : ∀ m, (∀ x ∈ l, m ≤ x) → minL m l = m := by
  induction l with
  | nil => intro m _; rfl
  | cons x l ih =>
    intro m h
    have h1 := h x (List.mem_cons_self ..)
    show minL (min m x) l = m
    rw [Nat.min_eq_left h1]
    exact ih m (fun y hy => h y (List.mem_cons_of_mem _ hy))
theorem minL_all (l : List Nat) : ∀ m, ∀ x ∈ l, minL m l ≤ x := by
  induction l with
  | nil => intro m x h; cases h
  | cons y l ih =>
    intro m x h
    show minL (min m y) l ≤ x
    rcases List.mem_cons.1 h with rfl | h
    · have := minL_le l (min m x); omega
    · exact ih _ x h
theorem minL_mem (l : List Nat) : ∀ m, minL m l = m ∨ minL m l ∈ l := by
  induction l with
  | nil => intro m; exact Or.inl rfl
  | cons y l ih =>
    intro m
    show minL (min m y) l = m ∨ minL (min m y) l ∈ _
    rcases ih (min m y) with h | h
    · rw [h]
      rcases Nat.le_total m y with h2 | h2
      · exact Or.inl (Nat.min_eq_left h2)
      · rw [Nat.min_eq_right h2]; exact Or.inr (List.mem_cons_self ..)
    · exact Or.inr (List.mem_cons_of_mem _ h)

/-- The search adds entries only. -/
theorem part_ge (n a f : Nat) : ∀ {b filled c : Nat}, c ∈ partL n a f b filled → b ≤ c := by
  induction f with
  | zero =>
    intro b filled c h
    simp only [partL] at h
    split at h
    · rw [List.mem_singleton] at h; omega
    · cases h
  | succ f ih =>
    intro b filled c h
    by_cases hf : filled = 2 ^ n - 1
    · subst hf; rw [partL_full, List.mem_singleton] at h; omega
    · rw [partL_more hf, List.mem_flatMap] at h
      obtain ⟨x, _, h⟩ := h
      unfold partX at h
      split at h
      · exact Nat.le_trans Nat.left_le_or (ih h)
      · cases h

theorem step_perm_min {n a b filled m : Nat} (f : Nat) (ha : a < 2 ^ n) (hn : n ≤ 62) (hf : filled < 2 ^ n) (hne : filled ≠ 2 ^ n - 1) : minL m (stepsL n a f b filled n) = minL m (partL n a (f + 1) b filled) :=
  (minL_perm (part_perm f ha hn hf hne) m).symm
theorem step_perm_len {n a b filled : Nat} (f : Nat) (ha : a < 2 ^ n) (hn : n ≤ 62) (hf : filled < 2 ^ n) (hne : filled ≠ 2 ^ n - 1) : (stepsL n a f b filled n).length = (partL n a (f + 1) b filled).length :=
  (part_perm f ha hn hf hne).length_eq.symm
theorem min_step {n a f b filled k m : Nat} : minL m (stepsL n a f b filled (k + 1)) = minL (minL m (stepsL n a f b filled k)) (stepL n a f b filled k) := by rw [stepsL_succ, minL_append]

/-- The fuel after an entry. -/
theorem fuel_entry {n a f filled y : Nat} (ha : a < 2 ^ n) (hf : filled < 2 ^ n) (hn : n ≤ 62) (hne : filled ≠ 2 ^ n - 1) (hb : (mvN n a y).testBit (emptyN filled) = true) (hv : mvN n a y &&& filled = 0) (h : n ≤ f + 1 + cardN n filled) :
    n ≤ f + cardN n (filled ||| mvN n a y) := by
  obtain ⟨h1, h2⟩ := empty_spec hn hf hne
  have hc := card_pos h1 hb
  rw [Nat.and_comm] at hv
  rw [card_or n _ _ hv]
  omega

/-- The search from the rhythm alone finds the partners. -/
theorem part_start {n a : Nat} (hn1 : 1 ≤ n) (hn : n ≤ 62) (ha : a < 2 ^ n) (ha1 : a % 2 = 1) : partL n a n 1 a = partners n a := by
  unfold partners
  by_cases h : n % cardN n a = 0
  · rw [if_pos h]
  · rw [if_neg h]
    apply List.eq_nil_iff_forall_not_mem.2
    intro c hc
    obtain ⟨_, h2, _⟩ := part_sound ha hn n (inv_start hn1 ha) hc
    apply h
    have := ((tile_prog ha).2 h2).2
    have h9 : n % cardN n a = (cardN n a * cardN n c) % cardN n a := by rw [this]
    rw [h9, Nat.mul_mod_right]

end Go.Proofs.YtehjdhegnpmfaabDoor
