/-
  Even scales, by their spans: as the program and the reference tell them; the others of an even scale. Plain mathematics.
-/
import Derived.Test.YtmemnkmmjejlgaaDoorEvMath
import Derived.Test.YtmemnkmmjejlgaaDoorCaMath
namespace Go.Proofs.YtmemnkmmjejlgaaDoor
set_option maxRecDepth 100000

/-- The size of the span of j steps from the tone number i. -/
def spanN (n : Nat) (ts : List Nat) (j i : Nat) : Nat := tN n ts (i + j) - tN n ts i
/-- All of them. -/
def spansL (n : Nat) (ts : List Nat) (j : Nat) : List Nat := (List.range ts.length).map (spanN n ts j)

theorem spansL_length (n : Nat) (ts : List Nat) (j : Nat) : (spansL n ts j).length = ts.length := by simp [spansL]
theorem spansL_take (n : Nat) (ts : List Nat) (j i : Nat) (h : i ≤ ts.length) : ∃ q, spansL n ts j = (List.range i).map (spanN n ts j) ++ q := by
  obtain ⟨d, hd⟩ := Nat.exists_eq_add_of_le h
  refine ⟨((List.range d).map (i + ·)).map (spanN n ts j), ?_⟩
  unfold spansL
  rw [hd, List.range_add, List.map_append]

theorem tN_low {n : Nat} {ts : List Nat} {i : Nat} (h : i < ts.length) : tN n ts i = ts[i]?.getD 0 := by
  unfold tN; rw [Nat.mod_eq_of_lt h, Nat.div_eq_of_lt h]; simp


/-- No two of a list differ by more than 1. -/
def aliL (xs : List Nat) : Bool := xs.all fun x => xs.all fun y => decide (x ≤ y + 1)
theorem aliL_iff {xs : List Nat} : aliL xs = true ↔ ∀ x ∈ xs, ∀ y ∈ xs, x ≤ y + 1 := by
  unfold aliL
  rw [List.all_eq_true]
  constructor
  · intro h x hx y hy
    have := List.all_eq_true.1 (h x hx) y hy
    exact of_decide_eq_true this
  · intro h x hx
    rw [List.all_eq_true]
    exact fun y hy => decide_eq_true (h x hx y hy)

/-- Up to j steps no two spans differ by more than 1. -/
def evTo (n : Nat) (ts : List Nat) (J : Nat) : Bool := (List.range J).all fun j => decide (j = 0) || aliL (spansL n ts j)
theorem evTo_succ (n : Nat) (ts : List Nat) (J : Nat) : evTo n ts (J + 1) = (evTo n ts J && (decide (J = 0) || aliL (spansL n ts J))) := by
  unfold evTo; rw [List.range_succ, List.all_append]; simp
theorem evTo_false {n : Nat} {ts : List Nat} {j J : Nat} (hj : 1 ≤ j) (hJ : j < J) (h : aliL (spansL n ts j) = false) : evTo n ts J = false := by
  unfold evTo
  rw [List.all_eq_false]
  exact ⟨j, List.mem_range.2 hJ, by rw [h, decide_eq_false (by omega)]; simp⟩

/-- Whether a scale is even. -/
def evenB (n s : Nat) : Bool := evTo n (tonesB n s) (tonesB n s).length

theorem mem_spansL {n : Nat} {ts : List Nat} {j d : Nat} : d ∈ spansL n ts j ↔ ∃ i, i < ts.length ∧ spanN n ts j i = d := by
  unfold spansL
  rw [List.mem_map]
  constructor
  · rintro ⟨i, hi, he⟩; exact ⟨i, List.mem_range.1 hi, he⟩
  · rintro ⟨i, hi, he⟩; exact ⟨i, List.mem_range.2 hi, he⟩

/-- The spans that the program tells are those of the circle. -/
theorem spans_iff {n s j d : Nat} (hn : 1 ≤ n) (hk : 1 ≤ (tonesB n s).length) : d ∈ spansL n (tonesB n s) j ↔ IsSpan n s j d := by
  have he := tN_enum hk
  rw [mem_spansL, he.span hn]
  constructor
  · rintro ⟨i, _, h⟩
    refine ⟨i, ?_⟩
    have := he.le (show i ≤ i + j by omega)
    unfold spanN at h
    omega
  · rintro ⟨i, h⟩
    refine ⟨i % (tonesB n s).length, Nat.mod_lt _ hk, ?_⟩
    have := he.mod i j
    unfold spanN
    omega

theorem evenB_iff {n s : Nat} (hn : 1 ≤ n) (hk : 1 ≤ (tonesB n s).length) : evenB n s = true ↔ EvP n (tonesB n s).length s := by
  unfold evenB evTo EvP
  rw [List.all_eq_true]
  constructor
  · intro h j h1 h2 d d' hd hd'
    have h3 := h j (List.mem_range.2 h2)
    rw [decide_eq_false (show ¬ j = 0 by omega), Bool.false_or, aliL_iff] at h3
    exact h3 d ((spans_iff hn hk).2 hd) d' ((spans_iff hn hk).2 hd')
  · intro h j hj
    by_cases h0 : j = 0
    · simp [h0]
    · rw [decide_eq_false h0, Bool.false_or, aliL_iff]
      exact fun x hx y hy => h j (by omega) (List.mem_range.1 hj) x y ((spans_iff hn hk).1 hx) ((spans_iff hn hk).1 hy)

/-! ### least and greatest -/

theorem foldl_min_le (xs : List Nat) : ∀ c, xs.foldl min c ≤ c ∧ ∀ x ∈ xs, xs.foldl min c ≤ x := by
  induction xs with
  | nil => intro c; exact ⟨Nat.le_refl _, fun x hx => by cases hx⟩
  | cons y ys ih =>
    intro c
    obtain ⟨h1, h2⟩ := ih (min c y)
    simp only [List.foldl_cons]
    refine ⟨by omega, fun x hx => ?_⟩
    rcases List.mem_cons.1 hx with rfl | hx
    · omega
    · exact h2 x hx
theorem foldl_max_le (xs : List Nat) : ∀ c, c ≤ xs.foldl max c ∧ ∀ x ∈ xs, x ≤ xs.foldl max c := by
  induction xs with
  | nil => intro c; exact ⟨Nat.le_refl _, fun x hx => by cases hx⟩
  | cons y ys ih =>
    intro c
    obtain ⟨h1, h2⟩ := ih (max c y)
    simp only [List.foldl_cons]
    refine ⟨by omega, fun x hx => ?_⟩
    rcases List.mem_cons.1 hx with rfl | hx
    · omega
    · exact h2 x hx
theorem foldl_min_mem (xs : List Nat) : ∀ c, xs.foldl min c = c ∨ xs.foldl min c ∈ xs := by
  induction xs with
  | nil => intro c; exact Or.inl rfl
  | cons y ys ih =>
    intro c
    simp only [List.foldl_cons]
    rcases ih (min c y) with h | h
    · rw [h]
      by_cases hc : c ≤ y
      · exact Or.inl (by omega)
      · exact Or.inr (by rw [show min c y = y by omega]; exact List.mem_cons_self ..)
    · exact Or.inr (List.mem_cons_of_mem _ h)
theorem foldl_max_mem (xs : List Nat) : ∀ c, xs.foldl max c = c ∨ xs.foldl max c ∈ xs := by
  induction xs with
  | nil => intro c; exact Or.inl rfl
  | cons y ys ih =>
    intro c
    simp only [List.foldl_cons]
    rcases ih (max c y) with h | h
    · rw [h]
      by_cases hc : y ≤ c
      · exact Or.inl (by omega)
      · exact Or.inr (by rw [show max c y = y by omega]; exact List.mem_cons_self ..)
    · exact Or.inr (List.mem_cons_of_mem _ h)

/-- As the program asks it. -/
theorem ali_prog {n : Nat} {xs : List Nat} (h1 : 1 ≤ xs.length) (hn : ∀ x ∈ xs, x ≤ n) : decide (xs.foldl max 0 ≤ xs.foldl min n + 1) = aliL xs := by
  rw [Bool.eq_iff_iff, decide_eq_true_eq, aliL_iff]
  obtain ⟨a1, a2⟩ := foldl_min_le xs n
  obtain ⟨b1, b2⟩ := foldl_max_le xs 0
  constructor
  · intro h x hx y hy
    have := a2 y hy
    have := b2 x hx
    omega
  · intro h
    cases xs with
    | nil => simp at h1
    | cons z zs =>
      have hz : z ∈ z :: zs := List.mem_cons_self ..
      have hzn := hn z hz
      have hm : (z :: zs).foldl min n ∈ z :: zs := by
        rcases foldl_min_mem (z :: zs) n with e | e
        · have := a2 z hz
          rw [e] at this ⊢
          rw [show n = z by omega]; exact hz
        · exact e
      rcases foldl_max_mem (z :: zs) 0 with e | e
      · omega
      · exact h _ e _ hm

/-! ### all even scales, counted out -/

def allLt (f : Nat → Bool) : Nat → Bool
  | 0 => true
  | k + 1 => Bool.and (f k) (allLt f k)
theorem allLt_spec (f : Nat → Bool) : ∀ k, allLt f k = true → ∀ i, i < k → f i = true := by
  intro k
  induction k with
  | zero => intro _ i hi; omega
  | succ k ih =>
    intro h i hi
    have h1 := Bool.and_eq_true_iff.1 (show Bool.and _ _ = true from h)
    by_cases e : i = k
    · subst e; exact h1.1
    · exact ih h1.2 i (by omega)

/-- The scale that division makes, for reckoning. -/
def sprK (n m k : Nat) : Nat → Nat
  | 0 => 0
  | i + 1 => Nat.lor (sprK n m k i) (Nat.shiftLeft 1 (Nat.mod (Nat.div (Nat.add (Nat.mul i n) m) k) n))

theorem sprK_eq (n m k : Nat) : sprK n m k k = sprN n k m := by
  have h : ∀ i, sprK n m k i = orL (fun i => (i * n + m) / k % n) (List.range i) := by
    intro i
    induction i with
    | zero => rfl
    | succ i ih =>
      rw [List.range_succ, orL_snoc, ← ih]
      rfl
  exact h k

def othChk : Bool := allLt (fun n => allLt (fun k => allLt (fun m => Nat.beq (Nat.sub (Nat.sub (Nat.pow 2 n) 1) (sprK n m k k)) (sprK n (Nat.sub (Nat.sub n 1) m) (Nat.sub n k) (Nat.sub n k))) n) n) 17
theorem othChk_true : othChk = true := by decide +kernel

theorem spr_others {n k m : Nat} (hn : n ≤ 16) (hk : k < n) (hm : m < n) : 2 ^ n - 1 - sprN n k m = sprN n (n - k) (n - 1 - m) := by
  have h1 := allLt_spec _ _ othChk_true n (by omega)
  have h2 := allLt_spec _ _ h1 k hk
  have h3 := allLt_spec _ _ h2 m hm
  have h4 := Nat.eq_of_beq_eq_true h3
  have e1 := sprK_eq n m k
  have e2 := sprK_eq n (n - 1 - m) (n - k)
  rw [← e1, ← e2]
  exact h4

theorem tonesB_card (n s : Nat) : (tonesB n s).length = sumN n (bI s) := cardN_tonesB n s

theorem card_others {n s : Nat} (hs : s < 2 ^ n) : (tonesB n (2 ^ n - 1 - s)).length + (tonesB n s).length = n := by
  rw [tonesB_card, tonesB_card, ← sum_add]
  have h : sumN n (fun i => bI (2 ^ n - 1 - s) i + bI s i) = sumN n (fun _ => 1) := sum_congr (fun t ht => by
    unfold bI
    rw [show 2 ^ n - 1 - s = 2 ^ n - (s + 1) from by omega, Nat.testBit_two_pow_sub_succ hs, decide_eq_true ht]
    cases s.testBit t <;> rfl)
  rw [h, sum_const, Nat.mul_one]

theorem others_even {n s : Nat} (h1 : 1 ≤ n) (hn : n ≤ 16) (hs : s < 2 ^ n) (hk : 1 ≤ (tonesB n s).length) (hk2 : (tonesB n s).length < n) (h : evenB n s = true) : evenB n (2 ^ n - 1 - s) = true := by
  have hc := card_others hs
  obtain ⟨m, hm⟩ := (even_iff h1 hs hk).1 ((evenB_iff h1 hk).1 h)
  rw [spr_mod hk (by omega) m] at hm
  have h2 := spr_others (n := n) (k := (tonesB n s).length) (m := m % n) hn hk2 (Nat.mod_lt _ h1)
  rw [← hm] at h2
  have hk3 : 1 ≤ (tonesB n (2 ^ n - 1 - s)).length := by omega
  rw [evenB_iff h1 hk3, even_iff h1 (by omega) hk3]
  exact ⟨_, by rw [h2]; congr 1; rw [← h2]; omega⟩

theorem even_others {n s : Nat} (h1 : 1 ≤ n) (hn : n ≤ 16) (hs : s < 2 ^ n) (hk : 1 ≤ (tonesB n s).length) (hk2 : (tonesB n s).length < n) : evenB n (2 ^ n - 1 - s) = evenB n s := by
  have hc := card_others hs
  rw [Bool.eq_iff_iff]
  constructor
  · intro h
    have := others_even (s := 2 ^ n - 1 - s) h1 hn (by omega) (by omega) (by omega) h
    rwa [show 2 ^ n - 1 - (2 ^ n - 1 - s) = s by omega] at this
  · exact others_even h1 hn hs hk hk2

end Go.Proofs.YtmemnkmmjejlgaaDoor
