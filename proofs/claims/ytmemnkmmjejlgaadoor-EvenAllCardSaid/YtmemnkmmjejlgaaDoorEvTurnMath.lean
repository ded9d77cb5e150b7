/-
  Scales moved and turned: their spans, whether they are even, and their sums stay. Plain mathematics.
-/
import Derived.Test.YtmemnkmmjejlgaaDoorEvWords2
import Derived.Test.YtmemnkmmjejlgaaDoorEvStepsLaw
namespace Go.Proofs.YtmemnkmmjejlgaaDoor
set_option maxRecDepth 100000

/-! ### spans -/

theorem bI_mv {n s u t : Nat} (hs : s < 2 ^ n) (hu : u < n) (ht : t < n) : bI (mvN n s u) t = bI s ((t + n - u) % n) := by
  unfold bI
  rw [testBit_mv hu hs, decide_eq_true ht, Bool.true_and]

theorem span_mv {n s u j d : Nat} (hs : s < 2 ^ n) (hu : u < n) : IsSpan n (mvN n s u) j d ↔ IsSpan n s j d := by
  have hn : 0 < n := by omega
  have key : ∀ y, (y % n + n - u) % n = (y + (n - u)) % n := fun y => by
    rw [show y % n + n - u = y % n + (n - u) from by omega, Nat.mod_add_mod]
  have hb : ∀ y, (mvN n s u).testBit (y % n) = s.testBit ((y + (n - u)) % n) := fun y => by
    rw [testBit_mv hu hs, decide_eq_true (Nat.mod_lt _ hn), Bool.true_and, key]
  have hI : ∀ y, bI (mvN n s u) (y % n) = bI s ((y + (n - u)) % n) := fun y => by unfold bI; rw [hb]
  have hc : ∀ x, cR n (mvN n s u) (x + 1) d = cR n s (x + (n - u) + 1) d := fun x => by
    unfold cR
    refine sum_congr (fun t _ => ?_)
    rw [hI, show x + 1 + t + (n - u) = x + (n - u) + 1 + t from by omega]
  constructor
  · rintro ⟨x, h1, h2, h3⟩
    rw [hb] at h1 h2
    rw [hc] at h3
    exact ⟨x + (n - u), h1, by rw [show x + (n - u) + d = x + d + (n - u) from by omega]; exact h2, h3⟩
  · rintro ⟨x, h1, h2, h3⟩
    refine ⟨x + u, ?_, ?_, ?_⟩
    · rw [hb, show x + u + (n - u) = x + n from by omega, Nat.add_mod_right]; exact h1
    · rw [hb, show x + u + d + (n - u) = x + d + n from by omega, Nat.add_mod_right]; exact h2
    · rw [hc, show x + u + (n - u) + 1 = x + 1 + n * 1 from by omega, cR_shift]; exact h3

/-- A scale turned, as the statement makes it. -/
def trnTo (n s : Nat) (x : Nat) : Nat := orL (fun y => (n - y) % n) (tonesB x s)
def trnN (n s : Nat) : Nat := trnTo n s n
theorem trnTo_lt {n s : Nat} (hn : 1 ≤ n) (x : Nat) : trnTo n s x < 2 ^ n := orL_lt _ _ _ (fun _ _ => Nat.mod_lt _ hn)
theorem trnTo_succ (n s x : Nat) : trnTo n s (x + 1) = if s.testBit x then trnTo n s x ||| 2 ^ ((n - x) % n) else trnTo n s x := by
  unfold trnTo
  rw [tonesB_succ]
  cases s.testBit x
  · simp
  · simp only [if_true]; rw [orL_snoc, Nat.one_shiftLeft]

theorem neg_neg {n i : Nat} (hi : i < n) : (n - (n - i) % n) % n = i := by
  by_cases h : i = 0
  · subst h; simp
  · rw [Nat.mod_eq_of_lt (show n - i < n by omega), Nat.mod_eq_of_lt (by omega)]; omega

theorem trn_bit {n s i : Nat} (hi : i < n) : (trnN n s).testBit i = s.testBit ((n - i) % n) := by
  unfold trnN trnTo
  rw [testBit_orL, Bool.eq_iff_iff, List.any_eq_true]
  constructor
  · rintro ⟨y, hy, h⟩
    obtain ⟨hy1, hy2⟩ := tonesB_lt hy
    have := of_decide_eq_true h
    rw [← this, neg_neg hy1]; exact hy2
  · intro h
    refine ⟨(n - i) % n, ?_, decide_eq_true (neg_neg hi)⟩
    unfold tonesB
    rw [List.mem_filter, List.mem_range]
    exact ⟨Nat.mod_lt _ (by omega), h⟩

/-- A sum the other way round. -/
theorem sum_back (d : Nat) (f : Nat → Nat) : sumN d (fun t => f (d - 1 - t)) = sumN d f := by
  induction d generalizing f with
  | zero => rfl
  | succ d ih =>
    have h1 : sumN (d + 1) f = f 0 + sumN d (fun t => f (t + 1)) := by
      clear ih
      induction d with
      | zero => simp [sumN]
      | succ d ih2 => simp only [sumN] at ih2 ⊢; rw [ih2]; omega
    rw [h1, ← ih (fun t => f (t + 1))]
    show sumN d (fun t => f (d + 1 - 1 - t)) + f (d + 1 - 1 - d) = _
    rw [show d + 1 - 1 - d = 0 from by omega, Nat.add_comm]
    congr 1
    exact sum_congr (fun t ht => by rw [show d + 1 - 1 - t = d - 1 - t + 1 from by omega])

theorem neg_mod {n N y : Nat} (hn : 0 < n) (hy : y ≤ n * N) : (n - (n * N - y) % n) % n = y % n := by
  have h1 := Nat.mod_lt (n * N - y) hn
  have h2 := Nat.div_add_mod (n * N - y) n
  have h3 := Nat.mod_add_div y n
  have h4 := Nat.mod_lt y hn
  generalize (n * N - y) % n = r at *
  generalize (n * N - y) / n = q at *
  generalize y % n = s at *
  generalize y / n = p at *
  have e : n * N = n * (q + p) + (r + s) := by rw [Nat.mul_add]; omega
  have e2 : n * (q + p) + (r + s) = n * N := e.symm
  have h5 : r + s = n * (N - (q + p)) := by rw [Nat.mul_sub]; omega
  have h6 : N - (q + p) = 0 ∨ N - (q + p) = 1 ∨ 2 ≤ N - (q + p) := by omega
  rcases h6 with h | h | h
  · rw [h] at h5
    have hr : r = 0 := by omega
    have hs : s = 0 := by omega
    subst hr; subst hs; simp
  · rw [h, Nat.mul_one] at h5
    by_cases hr : r = 0
    · omega
    · rw [show n - r = s from by omega, Nat.mod_eq_of_lt h4]
  · have := Nat.mul_le_mul_left n h
    omega

theorem span_trn1 {n s j d : Nat} (hn : 0 < n) (h : IsSpan n s j d) : IsSpan n (trnN n s) j d := by
  obtain ⟨x, h1, h2, h3⟩ := h
  have hN : x + d + 1 ≤ n * (x + d + 1) := by
    have : 1 * (x + d + 1) ≤ n * (x + d + 1) := Nat.mul_le_mul_right _ hn
    omega
  have hb : ∀ y, y ≤ n * (x + d + 1) → (trnN n s).testBit ((n * (x + d + 1) - y) % n) = s.testBit (y % n) := fun y hy => by
    rw [trn_bit (Nat.mod_lt _ hn), neg_mod hn hy]
  have hI : ∀ y, y ≤ n * (x + d + 1) → bI (trnN n s) ((n * (x + d + 1) - y) % n) = bI s (y % n) := fun y hy => by unfold bI; rw [hb y hy]
  refine ⟨n * (x + d + 1) - (x + d), by rw [hb _ (by omega)]; exact h2, ?_, ?_⟩
  · rw [show n * (x + d + 1) - (x + d) + d = n * (x + d + 1) - x from by omega, hb _ (by omega)]; exact h1
  · -- the places between are the same, the other way round
    have e1 : cR n (trnN n s) (n * (x + d + 1) - (x + d) + 1) d = sumN d (fun t => bI s ((x + (d - 1 - t)) % n)) := by
      unfold cR
      refine sum_congr (fun t ht => ?_)
      rw [← hI (x + (d - 1 - t)) (by omega)]
      congr 2
      omega
    rw [e1, sum_back d (fun t => bI s ((x + t) % n)), ← h3]
    unfold cR
    -- both ends are tones
    cases d with
    | zero => rfl
    | succ d =>
      have f1 : sumN (d + 1) (fun t => bI s ((x + t) % n)) = bI s (x % n) + sumN d (fun t => bI s ((x + 1 + t) % n)) := by
        clear e1 h3 hI hb hN h2 h1
        induction d with
        | zero => simp [sumN]
        | succ d ih => simp only [sumN] at ih ⊢; rw [ih, show x + (d + 1) = x + 1 + d from by omega]; omega
      rw [f1]
      show _ = sumN d (fun t => bI s ((x + 1 + t) % n)) + bI s ((x + 1 + d) % n)
      have g1 : bI s (x % n) = 1 := by unfold bI; rw [h1]; rfl
      have g2 : bI s ((x + 1 + d) % n) = 1 := by unfold bI; rw [show x + 1 + d = x + (d + 1) from by omega, h2]; rfl
      rw [g1, g2]; omega

theorem trn_trn {n s : Nat} (hn : 0 < n) (hs : s < 2 ^ n) : trnN n (trnN n s) = s := by
  apply Nat.eq_of_testBit_eq
  intro i
  by_cases hi : i < n
  · rw [trn_bit hi, trn_bit (Nat.mod_lt _ hn), neg_neg hi]
  · have h2 : trnN n (trnN n s) < 2 ^ n := trnTo_lt hn n
    rw [Nat.testBit_lt_two_pow (Nat.lt_of_lt_of_le h2 (Nat.pow_le_pow_right (by omega) (by omega))), Nat.testBit_lt_two_pow (Nat.lt_of_lt_of_le hs (Nat.pow_le_pow_right (by omega) (by omega)))]

theorem span_trn {n s j d : Nat} (hn : 0 < n) (hs : s < 2 ^ n) : IsSpan n (trnN n s) j d ↔ IsSpan n s j d := by
  constructor
  · intro h
    have := span_trn1 hn h
    rwa [trn_trn hn hs] at this
  · exact span_trn1 hn

theorem bI_trn {n s t : Nat} (ht : t < n) : bI (trnN n s) t = bI s ((n - t) % n) := by
  unfold bI; rw [trn_bit ht]

theorem card_trn {n s : Nat} : (tonesB n (trnN n s)).length = (tonesB n s).length := by
  rw [tonesB_card, tonesB_card, ← sum_perm n (fun i => (n - i) % n) (fun i => (n - i) % n) (fun i hi => Nat.mod_lt _ (by omega)) (fun i hi => Nat.mod_lt _ (by omega)) (fun i hi => neg_neg hi) (fun i hi => neg_neg hi) (bI s)]
  exact sum_congr (fun t ht => bI_trn ht)

/-! ### sums -/

theorem sumN_list (ts : List Nat) (f : Nat → Nat) : sumN ts.length (fun a => f (ts[a]?.getD 0)) = (ts.map f).sum := by
  induction ts with
  | nil => rfl
  | cons x ts ih =>
    rw [List.map_cons, List.sum_cons, ← ih, List.length_cons]
    clear ih
    generalize ts.length = k
    induction k with
    | zero => simp [sumN]
    | succ k ih2 => simp only [sumN] at ih2 ⊢; rw [ih2]; simp; omega

/-- The sum, by the places. -/
theorem sum_places (P : Nat → Nat → Nat) (s m : Nat) : sumN (tonesB m s).length (fun a => sumN a (fun b => P ((tonesB m s)[b]?.getD 0) ((tonesB m s)[a]?.getD 0))) = sumN m (fun x => bI s x * sumN x (fun y => bI s y * P y x)) := by
  induction m with
  | zero => rfl
  | succ m ih =>
    simp only [sumN]
    rw [← ih, tonesB_succ]
    cases hb : s.testBit m
    · simp only [Bool.false_eq_true, if_false, List.append_nil]
      rw [show bI s m = 0 from by unfold bI; rw [hb]; rfl, Nat.zero_mul, Nat.add_zero]
    · simp only [if_true]
      rw [show bI s m = 1 from by unfold bI; rw [hb]; rfl, Nat.one_mul, List.length_append, List.length_singleton]
      show sumN (tonesB m s).length _ + sumN (tonesB m s).length _ = _
      have hat : ∀ a, a < (tonesB m s).length → ((tonesB m s ++ [m])[a]?.getD 0) = (tonesB m s)[a]?.getD 0 := fun a ha => by rw [List.getElem?_append_left ha]
      have hlast : ((tonesB m s ++ [m])[(tonesB m s).length]?.getD 0) = m := by rw [List.getElem?_append_right (Nat.le_refl _)]; simp
      congr 1
      · refine sum_congr (fun a ha => sum_congr (fun b hb => ?_))
        rw [hat a ha, hat b (by omega)]
      · rw [hlast, ← sum_tones m s (fun y => P y m), ← sumN_list]
        exact sum_congr (fun b hb => by rw [hat b hb])

theorem sum_square (n : Nat) (F : Nat → Nat → Nat) : sumN n (fun x => sumN n (fun y => F x y)) = sumN n (fun x => sumN x (fun y => F x y + F y x)) + sumN n (fun x => F x x) := by
  induction n with
  | zero => rfl
  | succ n ih =>
    simp only [sumN]
    rw [sum_add, ih, sum_add]
    have e : sumN n (F n) = sumN n (fun y => F n y) := rfl
    omega

/-- What the distance d adds. -/
def gN (n d : Nat) : Nat := d * (n - d)

theorem gN_sym {n d : Nat} (h : d ≤ n) : gN n (n - d) = gN n d := by
  unfold gN
  rw [show n - (n - d) = d from by omega, Nat.mul_comm]

theorem sumS_aut {n s : Nat} : 2 * sumS n s = sumN n (fun d => gN n d * autN n s d) := by
  have h1 : sumS n s = sumN n (fun x => bI s x * sumN x (fun y => bI s y * gN n (x - y))) := by
    unfold sumS accR prN
    exact sum_places (fun y x => (x - y) * (n - (x - y))) s n
  -- around the circle
  have h2 : sumN n (fun d => gN n d * autN n s d) = sumN n (fun x => sumN n (fun y => bI s x * (bI s y * gN n (if y ≤ x then x - y else y - x)))) := by
    have e1 : sumN n (fun d => gN n d * autN n s d) = sumN n (fun d => sumN n (fun x => gN n d * (bI s x * bI s ((x + d) % n)))) := sum_congr (fun d _ => by unfold autN; rw [sum_mul])
    rw [e1, sum_swap]
    refine sum_congr (fun x hx => ?_)
    have e2 := sum_turned n x hx (fun d => bI s x * (bI s ((x + d) % n) * gN n d))
    have e3 : sumN n (fun d => gN n d * (bI s x * bI s ((x + d) % n))) = sumN n (fun d => bI s x * (bI s ((x + d) % n) * gN n d)) := sum_congr (fun d _ => by
      rw [Nat.mul_comm (gN n d), Nat.mul_assoc])
    rw [e3, ← e2]
    refine sum_congr (fun y hy => ?_)
    have e4 : (x + (y + n - x) % n) % n = y := by
      rw [Nat.add_mod_mod, show x + (y + n - x) = y + n from by omega, Nat.add_mod_right, Nat.mod_eq_of_lt hy]
    rw [e4]
    congr 2
    by_cases h : y ≤ x
    · rw [if_pos h]
      by_cases h0 : y = x
      · subst h0; rw [show y + n - y = n from by omega, Nat.mod_self, Nat.sub_self]
      · rw [Nat.mod_eq_of_lt (by omega), show y + n - x = n - (x - y) from by omega, gN_sym (by omega)]
    · rw [if_neg h, show y + n - x = (y - x) + n from by omega, Nat.add_mod_right, Nat.mod_eq_of_lt (by omega)]
  rw [h2, sum_square, h1]
  have hd : sumN n (fun x => bI s x * (bI s x * gN n (if x ≤ x then x - x else x - x))) = 0 := by
    rw [← sum_zero n]
    exact sum_congr (fun x _ => by simp [gN])
  rw [hd, Nat.add_zero, ← sum_mul]
  refine sum_congr (fun x hx => ?_)
  rw [Nat.mul_comm 2, Nat.mul_assoc, Nat.mul_comm _ 2, ← sum_mul, ← sum_mul]
  refine sum_congr (fun y hy => ?_)
  rw [if_pos (by omega), if_neg (by omega)]
  have := Nat.mul_left_comm (bI s y) (bI s x) (gN n (x - y))
  rw [this, show 2 * (bI s y * gN n (x - y)) = bI s y * gN n (x - y) + bI s y * gN n (x - y) from by omega, Nat.mul_add]

theorem aut_mv {n s u d : Nat} (hs : s < 2 ^ n) (hu : u < n) : autN n (mvN n s u) d = autN n s d := by
  have hn : 0 < n := by omega
  unfold autN
  rw [← sum_turned n u hu (fun t => bI s t * bI s ((t + d) % n))]
  refine sum_congr (fun t ht => ?_)
  rw [bI_mv hs hu ht, bI_mv hs hu (Nat.mod_lt _ hn)]
  congr 2
  rw [Nat.mod_add_mod, show (t + d) % n + n - u = (t + d) % n + (n - u) from by omega, Nat.mod_add_mod]
  congr 1
  omega

theorem aut_trn {n s d : Nat} (hd : d < n) : autN n (trnN n s) d = autN n s d := by
  have hn : 0 < n := by omega
  unfold autN
  -- turned and moved by d the pairs are the same
  rw [← sum_perm n (fun i => (n - (i + d) % n) % n) (fun i => (n - (i + d) % n) % n) (fun i hi => Nat.mod_lt _ hn) (fun i hi => Nat.mod_lt _ hn) ?_ ?_ (fun t => bI s t * bI s ((t + d) % n))]
  · refine sum_congr (fun t ht => ?_)
    rw [bI_trn ht, bI_trn (Nat.mod_lt _ hn), Nat.mul_comm]
    congr 2
    by_cases h : t + d < n
    · rw [Nat.mod_eq_of_lt h, Nat.mod_add_mod]
      by_cases h0 : t = 0
      · subst h0
        rw [show n - (0 + d) + d = n from by omega, Nat.sub_zero]
      · rw [show n - (t + d) + d = n - t from by omega]
    · rw [show t + d = (t + d - n) + n from by omega, Nat.add_mod_right, Nat.mod_eq_of_lt (show t + d - n < n by omega), Nat.mod_add_mod, show n - (t + d - n) + d = (n - t) + n from by omega, Nat.add_mod_right]
  all_goals
    intro i hi
    show (n - ((n - (i + d) % n) % n + d) % n) % n = i
    rw [Nat.mod_add_mod]
    by_cases h : i + d < n
    · rw [Nat.mod_eq_of_lt h, show n - (i + d) + d = n - i from by omega]
      exact neg_neg hi
    · rw [show i + d = (i + d - n) + n from by omega, Nat.add_mod_right, Nat.mod_eq_of_lt (show i + d - n < n by omega), show n - (i + d - n) + d = (n - i) + n from by omega, Nat.add_mod_right]
      exact neg_neg hi

/-! ### what stays -/

/-- Two scales with the same spans and pairs. -/
structure Same (n s t : Nat) : Prop where
  lt : t < 2 ^ n
  card : (tonesB n t).length = (tonesB n s).length
  span : ∀ j d, IsSpan n t j d ↔ IsSpan n s j d
  aut : ∀ d, d < n → autN n t d = autN n s d

theorem same_mv {n s u : Nat} (hs : s < 2 ^ n) (hu : u < n) : Same n s (mvN n s u) := ⟨mv_lt, card_mv hs hu, fun _ _ => span_mv hs hu, fun _ _ => aut_mv hs hu⟩
theorem same_trn {n s : Nat} (hn : 0 < n) (hs : s < 2 ^ n) : Same n s (trnN n s) := ⟨trnTo_lt hn n, card_trn, fun _ _ => span_trn hn hs, fun _ hd => aut_trn hd⟩
theorem Same.trans {n a b c : Nat} (h : Same n a b) (k : Same n b c) : Same n a c := ⟨k.lt, k.card.trans h.card, fun j d => (k.span j d).trans (h.span j d), fun d hd => (k.aut d hd).trans (h.aut d hd)⟩

theorem Same.even {n s t : Nat} (h : Same n s t) (hn : 1 ≤ n) (hk : 1 ≤ (tonesB n s).length) : evenB n t = evenB n s := by
  rw [Bool.eq_iff_iff, evenB_iff hn (by rw [h.card]; exact hk), evenB_iff hn hk]
  unfold EvP
  rw [h.card]
  constructor
  · intro h2 j a b d d' h3 h4
    exact h2 j a b d d' ((h.span j d).2 h3) ((h.span j d').2 h4)
  · intro h2 j a b d d' h3 h4
    exact h2 j a b d d' ((h.span j d).1 h3) ((h.span j d').1 h4)

theorem Same.sum {n s t : Nat} (h : Same n s t) : sumS n t = sumS n s := by
  have h1 := sumS_aut (n := n) (s := t)
  have h2 := sumS_aut (n := n) (s := s)
  have h3 : sumN n (fun d => gN n d * autN n t d) = sumN n (fun d => gN n d * autN n s d) := sum_congr (fun d hd => by rw [h.aut d hd])
  omega

theorem Same.spL {n s t j : Nat} (h : Same n s t) (hn : 1 ≤ n) (hk : 1 ≤ (tonesB n s).length) : spL n (tonesB n t) j = spL n (tonesB n s) j := by
  unfold Proofs.YtmemnkmmjejlgaaDoor.spL
  refine List.filter_congr (fun x _ => ?_)
  rw [decide_eq_decide, spans_iff hn (by rw [h.card]; exact hk), spans_iff hn hk, h.span]

theorem word_sum {n s : Nat} (hk : 1 ≤ (tonesB n s).length) : sumN (tonesB n s).length (fun a => (spansL n (tonesB n s) 1)[a]?.getD 0) = n := by
  have h := (tN_enum hk).spans_sum 1
  rw [Nat.mul_one] at h
  refine Eq.trans (sum_congr (fun a ha => ?_)) h
  unfold spansL spanN
  rw [List.getElem?_map, List.getElem?_range ha]
  rfl

end Go.Proofs.YtmemnkmmjejlgaaDoor
