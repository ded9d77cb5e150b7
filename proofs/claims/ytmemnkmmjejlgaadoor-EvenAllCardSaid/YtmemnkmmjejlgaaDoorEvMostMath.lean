/-
  The scales with the greatest sum are just the even ones. Plain mathematics.
-/
import Derived.Test.YtmemnkmmjejlgaaDoorEvTurnMath
namespace Go.Proofs.YtmemnkmmjejlgaaDoor
set_option maxRecDepth 100000

/-- What two tones of a row add. -/
def gdN (n : Nat) (ts : List Nat) (i i' : Nat) : Nat := gN n (if ts[i']?.getD 0 ≤ ts[i]?.getD 0 then ts[i]?.getD 0 - ts[i']?.getD 0 else ts[i']?.getD 0 - ts[i]?.getD 0)

theorem span_gd {n s i j : Nat} (hi : i < (tonesB n s).length) (hj : j < (tonesB n s).length) :
    gN n (tN n (tonesB n s) (i + j) - tN n (tonesB n s) i) = gdN n (tonesB n s) i ((i + j) % (tonesB n s).length) := by
  unfold gdN
  rw [tN_low hi]
  have hti := (tonesB_at hi).1
  by_cases h : i + j < (tonesB n s).length
  · rw [tN_low h, Nat.mod_eq_of_lt h]
    by_cases h0 : j = 0
    · subst h0; simp
    · have := tonesB_rise h (show i < i + j by omega)
      rw [if_neg (by omega)]
  · have e : (i + j) % (tonesB n s).length = i + j - (tonesB n s).length := by
      rw [Nat.mod_eq_sub_mod (by omega), Nat.mod_eq_of_lt (by omega)]
    have e2 : (i + j) / (tonesB n s).length = 1 := by
      rw [show i + j = (i + j - (tonesB n s).length) + (tonesB n s).length from by omega, Nat.add_div_right _ (by omega), Nat.div_eq_of_lt (by omega)]
    have hr := tonesB_rise hi (show i + j - (tonesB n s).length < i by omega)
    unfold tN
    rw [e, e2, if_pos (by omega)]
    generalize (tonesB n s)[i]?.getD 0 = x at *
    generalize (tonesB n s)[i + j - (tonesB n s).length]?.getD 0 = y at *
    rw [show y + 1 * n - x = n - (x - y) from by omega, gN_sym (by omega)]

/-- Twice the sum, by the spans. -/
theorem sumS_spans (n s : Nat) : 2 * sumS n s = sumN (tonesB n s).length (fun j => sumN (tonesB n s).length (fun i => gN n (tN n (tonesB n s) (i + j) - tN n (tonesB n s) i))) := by
  have h1 : sumN (tonesB n s).length (fun j => sumN (tonesB n s).length (fun i => gN n (tN n (tonesB n s) (i + j) - tN n (tonesB n s) i))) =
      sumN (tonesB n s).length (fun i => sumN (tonesB n s).length (fun i' => gdN n (tonesB n s) i i')) := by
    rw [sum_swap]
    refine sum_congr (fun i hi => ?_)
    rw [← sum_move _ i hi (fun i' => gdN n (tonesB n s) i i')]
    refine sum_congr (fun j hj => ?_)
    rw [span_gd hi hj, Nat.add_comm i j]
  rw [h1, sum_square]
  have h2 : sumN (tonesB n s).length (fun x => gdN n (tonesB n s) x x) = 0 := by
    rw [← sum_zero (tonesB n s).length]
    exact sum_congr (fun x _ => by simp [gdN, gN])
  rw [h2, Nat.add_zero]
  unfold sumS accR
  rw [← sum_mul]
  refine sum_congr (fun a ha => ?_)
  rw [← sum_mul]
  refine sum_congr (fun b hb => ?_)
  have hr := tonesB_rise ha hb
  unfold gdN prN
  rw [if_pos (by omega), if_neg (by omega)]
  unfold gN
  omega

/-- The squares of the spans of j steps. -/
def sqJ (n s j : Nat) : Nat := sumN (tonesB n s).length (fun i => (tN n (tonesB n s) (i + j) - tN n (tonesB n s) i) * (tN n (tonesB n s) (i + j) - tN n (tonesB n s) i))

theorem sum_sq {n s : Nat} (hk : 1 ≤ (tonesB n s).length) : 2 * sumS n s + sumN (tonesB n s).length (sqJ n s) = sumN (tonesB n s).length (fun j => n * (n * j)) := by
  rw [sumS_spans, ← sum_add]
  refine sum_congr (fun j hj => ?_)
  unfold sqJ
  rw [← sum_add, ← (tN_enum hk).spans_sum j, ← sum_mul]
  refine sum_congr (fun i _ => ?_)
  have h1 := (tN_enum hk).le (show i + j ≤ i + (tonesB n s).length by omega)
  rw [(tN_enum hk).per] at h1
  have h2 : tN n (tonesB n s) (i + j) - tN n (tonesB n s) i ≤ n := by omega
  generalize tN n (tonesB n s) (i + j) - tN n (tonesB n s) i = f at *
  obtain ⟨r, rfl⟩ := Nat.exists_eq_add_of_le h2
  unfold gN
  rw [Nat.add_sub_cancel_left, Nat.add_mul, Nat.mul_comm r f]
  omega

/-- A square lies above the line through those of two numbers that follow each other. -/
theorem sq_ge (f a : Nat) : (2 * a + 1) * f ≤ f * f + a * (a + 1) ∧ ((2 * a + 1) * f = f * f + a * (a + 1) → f = a ∨ f = a + 1) := by
  by_cases h : f ≤ a
  · obtain ⟨d, rfl⟩ := Nat.exists_eq_add_of_le h
    have e : f * f + (f + d) * (f + d + 1) = (2 * (f + d) + 1) * f + (d * d + d) := by
      simp only [Nat.add_mul, Nat.mul_add, Nat.mul_one, Nat.one_mul, Nat.mul_assoc]
      have := Nat.mul_comm d f
      omega
    rw [e]
    refine ⟨by omega, fun h2 => ?_⟩
    have h3 : d * d + d = 0 := by omega
    have : d = 0 := by omega
    omega
  · obtain ⟨d, rfl⟩ := Nat.exists_eq_add_of_le (show a + 1 ≤ f by omega)
    have e : (a + 1 + d) * (a + 1 + d) + a * (a + 1) = (2 * a + 1) * (a + 1 + d) + (d * d + d) := by
      simp only [Nat.add_mul, Nat.mul_add, Nat.mul_one, Nat.one_mul, Nat.mul_assoc]
      have := Nat.mul_comm d a
      omega
    rw [e]
    refine ⟨by omega, fun h2 => ?_⟩
    have h3 : d * d + d = 0 := by omega
    have : d = 0 := by omega
    omega

/-- The squares of j steps are at least so many; just so many where the spans are the two numbers about the mean. -/
theorem sqJ_ge {n s j : Nat} (hk : 1 ≤ (tonesB n s).length) (a : Nat) : (2 * a + 1) * (n * j) ≤ sqJ n s j + (tonesB n s).length * (a * (a + 1)) ∧
    ((2 * a + 1) * (n * j) = sqJ n s j + (tonesB n s).length * (a * (a + 1)) → ∀ i, tN n (tonesB n s) (i + j) - tN n (tonesB n s) i = a ∨ tN n (tonesB n s) (i + j) - tN n (tonesB n s) i = a + 1) := by
  have h1 : (2 * a + 1) * (n * j) = sumN (tonesB n s).length (fun i => (2 * a + 1) * (tN n (tonesB n s) (i + j) - tN n (tonesB n s) i)) := by
    rw [sum_mul, (tN_enum hk).spans_sum j]
  have h2 : sqJ n s j + (tonesB n s).length * (a * (a + 1)) = sumN (tonesB n s).length (fun i => (tN n (tonesB n s) (i + j) - tN n (tonesB n s) i) * (tN n (tonesB n s) (i + j) - tN n (tonesB n s) i) + a * (a + 1)) := by
    unfold sqJ
    rw [sum_add, sum_const]
  rw [h1, h2]
  refine ⟨sum_le_of (fun i _ => (sq_ge _ a).1), fun he i => ?_⟩
  have hm := (tN_enum hk).mod i j
  have hi : i % (tonesB n s).length < (tonesB n s).length := Nat.mod_lt _ hk
  rw [hm]
  apply (sq_ge _ a).2
  apply Nat.le_antisymm (sq_ge _ a).1
  apply Nat.le_of_not_lt
  intro hlt
  have := sum_lt_of (n := (tonesB n s).length) (fun i _ => (sq_ge (tN n (tonesB n s) (i + j) - tN n (tonesB n s) i) a).1) hi hlt
  omega

theorem sqJ_even {n s j : Nat} (hn : 1 ≤ n) (hk : 1 ≤ (tonesB n s).length) (he : EvP n (tonesB n s).length s) (hj : j < (tonesB n s).length) :
    (2 * (n * j / (tonesB n s).length) + 1) * (n * j) = sqJ n s j + (tonesB n s).length * ((n * j / (tonesB n s).length) * (n * j / (tonesB n s).length + 1)) := by
  have h1 : (2 * (n * j / (tonesB n s).length) + 1) * (n * j) = sumN (tonesB n s).length (fun i => (2 * (n * j / (tonesB n s).length) + 1) * (tN n (tonesB n s) (i + j) - tN n (tonesB n s) i)) := by
    rw [sum_mul, (tN_enum hk).spans_sum j]
  have h2 : sqJ n s j + (tonesB n s).length * ((n * j / (tonesB n s).length) * (n * j / (tonesB n s).length + 1)) = sumN (tonesB n s).length (fun i => (tN n (tonesB n s) (i + j) - tN n (tonesB n s) i) * (tN n (tonesB n s) (i + j) - tN n (tonesB n s) i) + (n * j / (tonesB n s).length) * (n * j / (tonesB n s).length + 1)) := by
    unfold sqJ
    rw [sum_add, sum_const]
  rw [h1, h2]
  refine sum_congr (fun i _ => ?_)
  have hnear := (tN_enum hk).near hn hk he hj i
  have hle := (tN_enum hk).le (show i ≤ i + j by omega)
  have hd := div_bd hk (n * j)
  generalize n * j / (tonesB n s).length = a at *
  obtain ⟨f, hf⟩ := Nat.exists_eq_add_of_le hle
  rw [hf, Nat.mul_add] at hnear
  rw [hf, Nat.add_sub_cancel_left]
  have hfa : f = a ∨ f = a + 1 := by
    have h3 : a ≤ f := by
      apply Nat.le_of_not_lt
      intro hlt
      have := Nat.mul_le_mul_left (tonesB n s).length (show f + 1 ≤ a from hlt)
      rw [Nat.mul_add] at this
      omega
    have h4 : f ≤ a + 1 := by
      apply Nat.le_of_not_lt
      intro hlt
      have := Nat.mul_le_mul_left (tonesB n s).length (show a + 2 ≤ f from hlt)
      rw [Nat.mul_add] at this
      omega
    omega
  rcases hfa with rfl | rfl
  · simp only [Nat.add_mul, Nat.mul_add, Nat.mul_one, Nat.one_mul, Nat.mul_assoc]; omega
  · simp only [Nat.add_mul, Nat.mul_add, Nat.mul_one, Nat.one_mul, Nat.mul_assoc]; omega

/-- No scale has a greater sum than an even one; one with that sum is even. -/
theorem sum_most {n s t : Nat} (hn : 1 ≤ n) (hk : 1 ≤ (tonesB n s).length) (hc : (tonesB n t).length = (tonesB n s).length) (he : evenB n s = true) :
    sumS n t ≤ sumS n s ∧ (sumS n t = sumS n s → evenB n t = true) := by
  have hkt : 1 ≤ (tonesB n t).length := by omega
  have heP := (evenB_iff hn hk).1 he
  have h1 := sum_sq (n := n) (s := s) hk
  have h2 := sum_sq (n := n) (s := t) hkt
  rw [hc] at h2
  have hle : ∀ j, j < (tonesB n s).length → sqJ n s j ≤ sqJ n t j := fun j hj => by
    have a1 := sqJ_even hn hk heP hj
    have a2 := (sqJ_ge (n := n) (s := t) (j := j) hkt (n * j / (tonesB n s).length)).1
    rw [hc] at a2
    omega
  have hs := sum_le_of hle
  have hs' : sumN (tonesB n s).length (sqJ n s) ≤ sumN (tonesB n s).length (sqJ n t) := hs
  refine ⟨by omega, fun heq => ?_⟩
  rw [evenB_iff hn hkt]
  intro j hj1 hj2 d d' hd hd'
  rw [hc] at hj2
  have hsq : sqJ n t j = sqJ n s j := by
    apply Nat.le_antisymm _ (hle j hj2)
    apply Nat.le_of_not_lt
    intro hlt
    have h3 : sumN (tonesB n s).length (sqJ n s) < sumN (tonesB n s).length (sqJ n t) := sum_lt_of hle hj2 hlt
    omega
  have a1 := sqJ_even hn hk heP hj2
  have a2 := (sqJ_ge (n := n) (s := t) (j := j) hkt (n * j / (tonesB n s).length)).2
  rw [hc, hsq] at a2
  have a3 := a2 a1
  obtain ⟨i, hi⟩ := ((tN_enum hkt).span hn j d).1 hd
  obtain ⟨i', hi'⟩ := ((tN_enum hkt).span hn j d').1 hd'
  have b1 := a3 i
  have b2 := a3 i'
  omega

/-! ### the list of the greatest sums -/

/-- One more scale is looked at. -/
def mstStep (n : Nat) (st : Nat × List Nat) (x : Nat) : Nat × List Nat :=
  if st.1 < sumS n x then (sumS n x, [x]) else if sumS n x = st.1 then (st.1, st.2 ++ [x]) else st
def mstTo (n : Nat) (xs : List Nat) : Nat × List Nat := xs.foldl (mstStep n) (0, [])
theorem mstTo_snoc (n : Nat) (xs : List Nat) (x : Nat) : mstTo n (xs ++ [x]) = mstStep n (mstTo n xs) x := by
  unfold mstTo; rw [List.foldl_append]; rfl

theorem mst_spec (n : Nat) (xs : List Nat) : (∀ x ∈ xs, sumS n x ≤ (mstTo n xs).1) ∧ (mstTo n xs).2 = xs.filter (fun x => decide (sumS n x = (mstTo n xs).1)) ∧ (xs = [] ∨ ∃ x ∈ xs, sumS n x = (mstTo n xs).1) := by
  have key : ∀ k, k ≤ xs.length → (∀ x ∈ xs.take k, sumS n x ≤ (mstTo n (xs.take k)).1) ∧ (mstTo n (xs.take k)).2 = (xs.take k).filter (fun x => decide (sumS n x = (mstTo n (xs.take k)).1)) ∧ (xs.take k = [] ∨ ∃ x ∈ xs.take k, sumS n x = (mstTo n (xs.take k)).1) := by
    intro k
    induction k with
    | zero => intro _; exact ⟨fun x hx => by simp at hx, by simp [mstTo], Or.inl (by simp)⟩
    | succ k ih =>
      intro hk
      obtain ⟨h1, h2, h3⟩ := ih (by omega)
      have e : xs.take (k + 1) = xs.take k ++ [xs[k]?.getD 0] := by
        rw [List.take_succ_eq_append_getElem (by omega), List.getElem?_eq_getElem (by omega)]; rfl
      rw [e, mstTo_snoc]
      generalize xs.take k = ys at *
      generalize xs[k]?.getD 0 = x
      rcases hst : mstTo n ys with ⟨G, L⟩
      rw [hst] at h1 h2 h3
      simp only at h1 h2 h3
      unfold mstStep
      simp only
      by_cases ha : G < sumS n x
      · rw [if_pos ha]
        refine ⟨fun y hy => ?_, ?_, Or.inr ⟨x, by simp, rfl⟩⟩
        · rcases List.mem_append.1 hy with hy | hy
          · have := h1 y hy; simp only; omega
          · rw [List.mem_singleton] at hy; subst hy; exact Nat.le_refl _
        · simp only [List.filter_append]
          have : ys.filter (fun y => decide (sumS n y = sumS n x)) = [] := by
            rw [List.filter_eq_nil_iff]
            intro y hy
            have := h1 y hy
            simp only [decide_eq_true_eq]; omega
          rw [this]; simp
      · rw [if_neg ha]
        by_cases hb : sumS n x = G
        · rw [if_pos hb]
          refine ⟨fun y hy => ?_, ?_, Or.inr ⟨x, by simp, hb⟩⟩
          · rcases List.mem_append.1 hy with hy | hy
            · exact h1 y hy
            · rw [List.mem_singleton] at hy; subst hy; simp only; omega
          · simp only [List.filter_append]
            rw [← h2]; simp [hb]
        · rw [if_neg hb]
          refine ⟨fun y hy => ?_, ?_, ?_⟩
          · rcases List.mem_append.1 hy with hy | hy
            · exact h1 y hy
            · rw [List.mem_singleton] at hy; subst hy; simp only; omega
          · simp only [List.filter_append]
            rw [← h2]; simp [hb]
          · rcases h3 with rfl | ⟨y, hy, he⟩
            · exfalso
              have : (mstTo n ([] : List Nat)) = (0, []) := rfl
              rw [this] at hst
              simp only [Prod.mk.injEq] at hst
              omega
            · exact Or.inr ⟨y, List.mem_append_left _ hy, he⟩
  have := key xs.length (Nat.le_refl _)
  rwa [List.take_length] at this

end Go.Proofs.YtmemnkmmjejlgaaDoor
