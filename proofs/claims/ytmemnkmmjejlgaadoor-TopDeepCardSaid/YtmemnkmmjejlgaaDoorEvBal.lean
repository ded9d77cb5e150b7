/-
  A row of numbers whose rises over the same number of steps differ by one at most is what division makes; a scale that has the two sizes is made by a step. Plain mathematics.
-/
import Derived.Test.YtmemnkmmjejlgaaDoorEvStepsLaw
import Derived.Test.YtmemnkmmjejlgaaDoorEvTwo
namespace Go.Proofs.YtmemnkmmjejlgaaDoor
set_option maxRecDepth 100000

/-- A row that does not fall, and goes on by N after each K; its rises over so many steps differ by one at most. -/
structure Bal (K N : Nat) (U : Nat → Nat) : Prop where
  mono : ∀ i, U i ≤ U (i + 1)
  per : ∀ i, U (i + K) = U i + N
  bal : ∀ i i' j, U (i + j) - U i ≤ U (i' + j) - U i' + 1

theorem Bal.le {K N : Nat} {U : Nat → Nat} (h : Bal K N U) (i d : Nat) : U i ≤ U (i + d) := by
  induction d with
  | zero => exact Nat.le_refl _
  | succ d ih => exact Nat.le_trans ih (h.mono _)
theorem Bal.total {K N : Nat} {U : Nat → Nat} (h : Bal K N U) (j : Nat) : sumN K (fun i => U (i + j)) = sumN K U + N * j := by
  have key : ∀ (V : Nat → Nat) (k : Nat), sumN k (fun i => V (i + 1)) + V 0 = sumN k V + V k := by
    intro V k
    induction k with
    | zero => simp [sumN]
    | succ k ih => simp only [sumN]; omega
  induction j with
  | zero => simp
  | succ j ih =>
    have h1 := key (fun i => U (i + j)) K
    have h2 := h.per j
    rw [show (0 + j) = j from by omega, show K + j = j + K from by omega, h2, ih] at h1
    have e : sumN K (fun i => U (i + (j + 1))) = sumN K (fun i => U (i + 1 + j)) := sum_congr (fun i _ => by rw [show i + (j + 1) = i + 1 + j from by omega])
    rw [e, Nat.mul_succ]; omega
theorem Bal.rises {K N : Nat} {U : Nat → Nat} (h : Bal K N U) (j : Nat) : sumN K (fun i => U (i + j) - U i) = N * j := by
  have h1 := h.total j
  have h2 := sum_add K (fun i => U (i + j) - U i) U
  have e : sumN K (fun i => U (i + j) - U i + U i) = sumN K (fun i => U (i + j)) := sum_congr (fun i _ => by have := h.le i j; omega)
  rw [e] at h2
  omega
theorem Bal.pers {K N : Nat} {U : Nat → Nat} (h : Bal K N U) (i q : Nat) : U (i + K * q) = U i + N * q := by
  induction q with
  | zero => rfl
  | succ q ih => rw [show i + K * (q + 1) = (i + K * q) + K from by rw [Nat.mul_succ]; omega, h.per, ih, Nat.mul_succ]; omega
theorem Bal.mod {K N : Nat} {U : Nat → Nat} (h : Bal K N U) (i j : Nat) : U (i + j) - U i = U (i % K + j) - U (i % K) := by
  have e : i = i % K + K * (i / K) := (Nat.mod_add_div i K).symm
  have h1 : U i = U (i % K) + N * (i / K) := by
    have := h.pers (i % K) (i / K)
    rwa [← e] at this
  have h2 : U (i + j) = U (i % K + j) + N * (i / K) := by
    have := h.pers (i % K + j) (i / K)
    rwa [show i % K + j + K * (i / K) = i + j from by omega] at this
  rw [h1, h2]; omega
theorem Bal.near {K N : Nat} {U : Nat → Nat} (h : Bal K N U) (hK : 1 ≤ K) (i j : Nat) :
    K * U (i + j) < K * U i + N * j + K ∧ K * U i + N * j < K * U (i + j) + K := by
  have hle := h.le i j
  have hs := h.rises j
  have hi : i % K < K := Nat.mod_lt _ hK
  have hm := h.mod i j
  have s1 : sumN K (fun _ => U (i + j) - U i) < sumN K (fun a => U (a + j) - U a + 1) :=
    sum_lt_of (fun a _ => h.bal i a j) hi (by show U (i + j) - U i < U (i % K + j) - U (i % K) + 1; omega)
  have s2 : sumN K (fun a => U (a + j) - U a) < sumN K (fun _ => U (i + j) - U i + 1) :=
    sum_lt_of (fun a _ => h.bal a i j) hi (by show U (i % K + j) - U (i % K) < U (i + j) - U i + 1; omega)
  rw [sum_const, sum_add, sum_const, hs] at s1
  rw [sum_const, hs, Nat.mul_add] at s2
  rw [Nat.mul_sub] at s1 s2
  have hm2 : K * U i ≤ K * U (i + j) := Nat.mul_le_mul_left _ hle
  omega

theorem Bal.char {K N : Nat} {U : Nat → Nat} (h : Bal K N U) (hK : 1 ≤ K) : ∃ m, ∀ i, U i = (N * i + m) / K := by
  obtain ⟨a, ha, hm⟩ := arg_max (fun i => ((K * U i : Nat) : Int) - ((N * i : Nat) : Int)) K hK
  have hm' : ∀ i, K * U i + N * a ≤ K * U a + N * i := by
    intro i
    have h1 := hm (i % K) (Nat.mod_lt _ hK)
    have h2 := h.pers (i % K) (i / K)
    have e := Nat.mod_add_div i K
    rw [e] at h2
    have e2 : N * i = N * (i % K) + K * (N * (i / K)) := by
      rw [← Nat.mul_assoc, Nat.mul_comm K N, Nat.mul_assoc, ← Nat.mul_add, e]
    rw [h2, e2, Nat.mul_add]
    omega
  have h0 := hm' 0
  rw [Nat.mul_zero, Nat.add_zero] at h0
  refine ⟨K * U a - N * a, fun i => ?_⟩
  symm
  have h1 := hm' i
  apply div_is hK
  · omega
  · have h3 : K * U a + N * i < K * U i + N * a + K := by
      by_cases hai : a ≤ i
      · obtain ⟨j, rfl⟩ := Nat.exists_eq_add_of_le hai
        have := (h.near hK a j).2
        rw [Nat.mul_add]; omega
      · obtain ⟨j, rfl⟩ := Nat.exists_eq_add_of_le (show i ≤ a by omega)
        have := (h.near hK i j).1
        rw [Nat.mul_add]; omega
    omega

/-- What does not jump comes by each number between. -/
theorem between (f : Nat → Nat) (hup : ∀ i, f (i + 1) ≤ f i + 1) (i d m : Nat) (h1 : f i ≤ m) (h2 : m ≤ f (i + d)) : ∃ x, f x = m := by
  induction d with
  | zero => exact ⟨i, by rw [Nat.add_zero] at h2; omega⟩
  | succ d ih =>
    by_cases h : m ≤ f (i + d)
    · exact ih h
    · have := hup (i + d)
      exact ⟨i + d + 1, by rw [show i + (d + 1) = i + d + 1 from by omega] at h2; omega⟩

/-! ### the two sizes -/

theorem two_spec {n s : Nat} (h : twoB n s = true) : 2 ≤ (tonesB n s).length ∧ ∀ j, 1 ≤ j → j < (tonesB n s).length → (spL n (tonesB n s) j).length = 2 := by
  unfold twoB twTo at h
  rw [Bool.and_eq_true, List.all_eq_true, decide_eq_true_eq] at h
  refine ⟨h.2, fun j h1 h2 => ?_⟩
  have := h.1 j (List.mem_range.2 h2)
  rw [decide_eq_false (show ¬ j = 0 by omega), Bool.false_or] at this
  exact eq_of_beq this

theorem pair_of {l : List Nat} (h : l.length = 2) : ∃ x y, l = [x, y] := by
  match l, h with
  | [x, y], _ => exact ⟨x, y, rfl⟩

/-- How many of the first steps are great ones. -/
def grt (T : Nat → Nat) (a : Nat) : Nat → Nat
  | 0 => 0
  | i + 1 => grt T a i + if T (i + 1) = T i + a then 0 else 1

/-- The scale whose steps are told by division. -/
def stpN (n a e K p m : Nat) : Nat := orL (fun i => (a * i + e * ((p * i + m) / K)) % n) (List.range K)
def stpK (n a e K p m : Nat) : Nat → Nat
  | 0 => 0
  | i + 1 => Nat.lor (stpK n a e K p m i) (Nat.shiftLeft 1 (Nat.mod (Nat.add (Nat.mul a i) (Nat.mul e (Nat.div (Nat.add (Nat.mul p i) m) K))) n))
theorem stpK_eq (n a e K p m : Nat) : stpK n a e K p m K = stpN n a e K p m := by
  have h : ∀ i, stpK n a e K p m i = orL (fun i => (a * i + e * ((p * i + m) / K)) % n) (List.range i) := by
    intro i
    induction i with
    | zero => rfl
    | succ i ih =>
      rw [List.range_succ, orL_snoc, ← ih]
      rfl
  exact h K

/-- What is counted out: such a scale is made by a step. -/
def mylOk (n a e K p m : Nat) : Bool := exLt (fun g => Bool.and (Nat.ble 1 g) (madeK n g K (stpK n a e K p m K))) n
def mylChk : Bool := allLt (fun K => Bool.or (Nat.ble K 1) (allLt (fun p => Bool.or (Bool.not (Nat.beq (Nat.gcd K p) 1)) (allLt (fun a => Bool.or (Nat.beq a 0) (allLt (fun e => Bool.or (Nat.beq e 0)
  (Bool.or (Bool.not (Nat.ble (Nat.add (Nat.mul a K) (Nat.mul e p)) 16)) (allLt (fun m => mylOk (Nat.add (Nat.mul a K) (Nat.mul e p)) a e K p m) K))) 17)) 17)) K)) 17
theorem mylChk_true : mylChk = true := by decide +kernel

theorem myl_ok {n a e K p m : Nat} (hK : 2 ≤ K) (hK2 : K ≤ 16) (hp : p < K) (hg : Nat.gcd K p = 1) (ha : 1 ≤ a) (ha2 : a ≤ 16) (he : 1 ≤ e) (he2 : e ≤ 16) (hn : n = a * K + e * p) (hn2 : n ≤ 16) (hm : m < K) :
    ∃ g, 1 ≤ g ∧ g < n ∧ ∃ c, c < n ∧ mkN n g K c = stpN n a e K p m := by
  have c1 := allLt_spec _ _ mylChk_true K (by omega)
  have c2 := (Bool.or_eq_true_iff.1 (show (_ || _) = true from c1)).resolve_left (fun h => by have := Nat.le_of_ble_eq_true h; omega)
  have c3 := allLt_spec _ _ c2 p hp
  have c4 := (Bool.or_eq_true_iff.1 (show (_ || _) = true from c3)).resolve_left (fun h => by rw [hg] at h; cases h)
  have c5 := allLt_spec _ _ c4 a (by omega)
  have c6 := (Bool.or_eq_true_iff.1 (show (_ || _) = true from c5)).resolve_left (fun h => by have := Nat.eq_of_beq_eq_true h; omega)
  have c7 := allLt_spec _ _ c6 e (by omega)
  have c8 := (Bool.or_eq_true_iff.1 (show (_ || _) = true from c7)).resolve_left (fun h => by have := Nat.eq_of_beq_eq_true h; omega)
  have hnn : Nat.add (Nat.mul a K) (Nat.mul e p) = n := hn.symm
  rw [hnn] at c8
  have c9 := (Bool.or_eq_true_iff.1 (show (_ || _) = true from c8)).resolve_left (fun h => by rw [Nat.ble_eq_true_of_le hn2] at h; cases h)
  have c10 := allLt_spec _ _ c9 m hm
  obtain ⟨g, hg1, h⟩ := (exLt_spec _ _).1 c10
  obtain ⟨h5, h6⟩ := Bool.and_eq_true_iff.1 (show (_ && _) = true from h)
  rw [stpK_eq] at h6
  exact ⟨g, Nat.le_of_ble_eq_true h5, hg1, madeK_iff.1 h6⟩

theorem two_makes {n s : Nat} (h1 : 2 ≤ n) (h2 : n ≤ 16) (hs : s < 2 ^ n) (h : twoB n s = true) : ∃ g, 1 ≤ g ∧ g < n ∧ makesB n g s = true := by
  obtain ⟨hK, htw⟩ := two_spec h
  have hk1 : 1 ≤ (tonesB n s).length := by omega
  have hKn := tonesB_le n s
  have hE := tN_enum hk1
  have hmem : ∀ j i, j < (tonesB n s).length → tN n (tonesB n s) (i + j) - tN n (tonesB n s) i ∈ spL n (tonesB n s) j := fun j i hj => by
    rw [spL_mem (spans_lt hk1 hj), spans_iff (by omega) hk1, hE.span (by omega)]
    exact ⟨i, by have := hE.le (show i ≤ i + j by omega); omega⟩
  obtain ⟨a, b, hab⟩ := pair_of (htw 1 (Nat.le_refl _) (by omega))
  have hlt : a < b := by
    have := spL_pair n (tonesB n s) 1
    rw [hab] at this
    simpa using this
  have hstep : ∀ i, tN n (tonesB n s) (i + 1) = tN n (tonesB n s) i + a ∨ tN n (tonesB n s) (i + 1) = tN n (tonesB n s) i + b := fun i => by
    have h3 := hmem 1 i (by omega)
    rw [hab] at h3
    have h4 := hE.step i
    simp only [List.mem_cons, List.not_mem_nil, or_false] at h3
    omega
  have ha1 : 1 ≤ a := by
    have h3 : a ∈ spL n (tonesB n s) 1 := by rw [hab]; simp
    rw [spL_mem (spans_lt hk1 (by omega))] at h3
    obtain ⟨i, _, h5⟩ := mem_spansL.1 h3
    have h4 := hE.step i
    unfold spanN at h5
    omega
  have hE0 : tN n (tonesB n s) 0 < n := by
    have := (tonesB_at (n := n) (s := s) (i := 0) hk1).1
    rw [tN_low hk1]; exact this
  generalize hT : tN n (tonesB n s) = T at *
  -- the great steps, counted
  have hB : ∀ i, T i = T 0 + a * i + (b - a) * grt T a i := by
    intro i
    induction i with
    | zero => simp [grt]
    | succ i ih =>
      have e1 : a * (i + 1) = a * i + a := Nat.mul_succ _ _
      show T (i + 1) = T 0 + a * (i + 1) + (b - a) * (grt T a i + if T (i + 1) = T i + a then 0 else 1)
      rcases hstep i with h3 | h3
      · rw [if_pos h3, show grt T a i + 0 = grt T a i from rfl, e1]; omega
      · rw [if_neg (by omega), Nat.mul_add (b - a), Nat.mul_one, e1]; omega
  have hmono : ∀ i, grt T a i ≤ grt T a (i + 1) := fun i => Nat.le_add_right _ _
  have hup : ∀ i, grt T a (i + 1) ≤ grt T a i + 1 := fun i => by
    show grt T a i + (if T (i + 1) = T i + a then 0 else 1) ≤ _
    split <;> omega
  obtain ⟨e, he⟩ : ∃ e, b - a = e := ⟨_, rfl⟩
  have he1 : 1 ≤ e := by omega
  rw [he] at hB
  obtain ⟨K, hKK⟩ : ∃ K, (tonesB n s).length = K := ⟨_, rfl⟩
  rw [hKK] at hK htw hk1 hKn hE hmem
  obtain ⟨p, hp⟩ : ∃ p, grt T a K = p := ⟨_, rfl⟩
  have hnK : n = a * K + e * p := by
    have h3 := hE.per 0
    rw [Nat.zero_add, hB K, hp] at h3
    omega
  have hper : ∀ i, grt T a (i + K) = grt T a i + p := fun i => by
    have h3 := hE.per i
    rw [hB (i + K), hB i, hnK, Nat.mul_add] at h3
    have h4 : e * grt T a (i + K) = e * (grt T a i + p) := by rw [Nat.mul_add]; omega
    exact Nat.eq_of_mul_eq_mul_left (by omega) h4
  have hpers : ∀ i q, grt T a (i + K * q) = grt T a i + p * q := fun i q => by
    induction q with
    | zero => rfl
    | succ q ih => rw [show i + K * (q + 1) = (i + K * q) + K from by rw [Nat.mul_succ]; omega, hper, ih, Nat.mul_succ]; omega
  have hmle : ∀ i d, grt T a i ≤ grt T a (i + d) := fun i d => by
    induction d with
    | zero => exact Nat.le_refl _
    | succ d ih => exact Nat.le_trans ih (hmono _)
  -- the size of a span, by its great steps
  have hsz : ∀ i j, T (i + j) - T i = a * j + e * (grt T a (i + j) - grt T a i) := fun i j => by
    have h3 := hmle i j
    rw [hB (i + j), hB i, Nat.mul_add, Nat.mul_sub]
    have := Nat.mul_le_mul_left e h3
    omega
  have hbal1 : ∀ i i' j, j < K → grt T a (i + j) - grt T a i ≤ grt T a (i' + j) - grt T a i' + 1 := by
    intro i i' j hj
    by_cases hj0 : j = 0
    · subst hj0; simp
    · apply Nat.le_of_not_lt
      intro hgt
      -- going on around the circle from i' one comes by i
      have hD : ∀ x q, grt T a (x + K * q + j) - grt T a (x + K * q) = grt T a (x + j) - grt T a x := fun x q => by
        rw [show x + K * q + j = (x + j) + K * q from by omega, hpers, hpers]; omega
      obtain ⟨d, hd⟩ : ∃ d, i + K * i' = i' + d := by
        have : 1 * i' ≤ K * i' := Nat.mul_le_mul_right _ (by omega)
        exact ⟨i + K * i' - i', by omega⟩
      have hstep1 : ∀ x, grt T a (x + 1 + j) - grt T a (x + 1) ≤ grt T a (x + j) - grt T a x + 1 := fun x => by
        have h3 := hup (x + j)
        have h4 := hmono x
        have h5 := hmle x j
        rw [show x + 1 + j = x + j + 1 from by omega]
        omega
      obtain ⟨x, hx⟩ := between (fun x => grt T a (x + j) - grt T a x) hstep1 i' d (grt T a (i' + j) - grt T a i' + 1) (Nat.le_succ _) (by
        show _ ≤ grt T a (i' + d + j) - grt T a (i' + d)
        rw [← hd, hD]; omega)
      obtain ⟨y, z, hyz⟩ := pair_of (htw j (by omega) hj)
      have m1 := hmem j i hj
      have m2 := hmem j i' hj
      have m3 := hmem j x hj
      have hx' : grt T a (x + j) - grt T a x = grt T a (i' + j) - grt T a i' + 1 := hx
      rw [hyz, hsz] at m1 m2 m3
      rw [hx', Nat.mul_add, Nat.mul_one] at m3
      have hlow : e * (grt T a (i' + j) - grt T a i') + 2 * e ≤ e * (grt T a (i + j) - grt T a i) := by
        have := Nat.mul_le_mul_left e (show grt T a (i' + j) - grt T a i' + 2 ≤ grt T a (i + j) - grt T a i by omega)
        rw [Nat.mul_add] at this
        omega
      simp only [List.mem_cons, List.not_mem_nil, or_false] at m1 m2 m3
      generalize e * (grt T a (i' + j) - grt T a i') = X at *
      generalize e * (grt T a (i + j) - grt T a i) = Y at *
      generalize a * j = Z at *
      omega
  have hbal : Bal K p (grt T a) := ⟨hmono, hper, fun i i' j => by
    have h3 := hbal1 i i' (j % K) (Nat.mod_lt _ (by omega))
    have hq : ∀ x, grt T a (x + j) - grt T a x = grt T a (x + j % K) - grt T a x + p * (j / K) := fun x => by
      have h4 := hpers (x + j % K) (j / K)
      rw [show x + j % K + K * (j / K) = x + j from by have := Nat.mod_add_div j K; omega] at h4
      have h5 := hmle x (j % K)
      rw [h4]; omega
    rw [hq i, hq i']; omega⟩
  obtain ⟨m, hm⟩ := hbal.char (by omega)
  have hmK : m < K := by
    have h3 := hm 0
    have h4 : grt T a 0 = 0 := rfl
    rw [h4, Nat.mul_zero, Nat.zero_add] at h3
    apply Nat.lt_of_not_le
    intro hle
    have := Nat.div_pos hle (show 0 < K by omega)
    omega
  -- no rise is the same everywhere
  have hg : Nat.gcd K p = 1 := by
    have hdpos : 0 < Nat.gcd K p := Nat.gcd_pos_of_pos_left _ (by omega)
    obtain ⟨j, hj⟩ := Nat.gcd_dvd_left K p
    obtain ⟨r, hr⟩ := Nat.gcd_dvd_right K p
    generalize Nat.gcd K p = d at *
    by_cases hd1 : d = 1
    · exact hd1
    · exfalso
      have hj1 : 1 ≤ j := by
        apply Nat.pos_of_ne_zero
        rintro rfl
        omega
      have hjK : j < K := by
        have h3 : 2 * j ≤ d * j := Nat.mul_le_mul_right _ (by omega)
        omega
      have hconst : ∀ i, grt T a (i + j) - grt T a i = r := fun i => by
        have h3 : p * (i + j) + m = (p * i + m) + K * r := by
          rw [Nat.mul_add, show p * j = K * r from by rw [hr, hj]; rw [Nat.mul_assoc, Nat.mul_assoc, Nat.mul_comm r j]]; omega
        rw [hm (i + j), hm i, h3, Nat.add_mul_div_left _ _ (by omega)]; omega
      obtain ⟨y, z, hyz⟩ := pair_of (htw j hj1 hjK)
      have hlt2 : y < z := by
        have := spL_pair n (tonesB n s) j
        rw [hyz] at this
        simpa using this
      have hall : ∀ x ∈ spL n (tonesB n s) j, x = a * j + e * r := fun x hx => by
        rw [spL_mem (spans_lt (by omega) (by omega)), spans_iff (by omega) (by omega), hE.span (by omega)] at hx
        obtain ⟨i, hi⟩ := hx
        have h3 := hsz i j
        rw [hconst i] at h3
        omega
      have e1 := hall y (by rw [hyz]; simp)
      have e2 := hall z (by rw [hyz]; simp)
      omega
  have hpK : p < K := by
    have h3 := hm K
    rw [hp] at h3
    have hle : p ≤ K := by
      have : ∀ i, grt T a i ≤ i := fun i => by
        induction i with
        | zero => exact Nat.le_refl _
        | succ i ih => have := hup i; omega
      have := this K
      omega
    apply Nat.lt_of_le_of_ne hle
    rintro rfl
    rw [Nat.gcd_self] at hg
    omega
  have han : a ≤ 16 ∧ e ≤ 16 := by
    have h3 : a * 1 ≤ a * K := Nat.mul_le_mul_left _ (by omega)
    have hp0 : 1 ≤ p := by
      apply Nat.pos_of_ne_zero
      rintro rfl
      rw [Nat.gcd_zero_right] at hg
      omega
    have h4 : e * 1 ≤ e * p := Nat.mul_le_mul_left _ hp0
    omega
  obtain ⟨g, hg1, hg2, hc⟩ := myl_ok hK (by omega) hpK hg ha1 han.1 he1 han.2 hnK h2 hmK
  refine ⟨g, hg1, hg2, ?_⟩
  rw [makesB_iff (by omega), hKK]
  have hst : stpN n a e K p m < 2 ^ n := orL_lt _ _ _ (fun _ _ => Nat.mod_lt _ (by omega))
  have hs2 : s = mvN n (stpN n a e K p m) (T 0) := by
    apply Nat.eq_of_testBit_eq
    intro x
    by_cases hx : x < n
    · rw [testBit_mv hE0 hst, decide_eq_true hx, Bool.true_and]
      unfold stpN
      rw [testBit_orL, Bool.eq_iff_iff, List.any_eq_true]
      have hTi : ∀ i, T i = T 0 + (a * i + e * ((p * i + m) / K)) := fun i => by rw [hB i, hm i]; omega
      have key : ∀ y, (T 0 + y) % n = x ↔ y % n = (x + n - T 0) % n := fun y => by
        rw [Nat.add_mod]
        have hy := Nat.mod_lt y (show 0 < n by omega)
        rw [Nat.mod_eq_of_lt hE0]
        generalize y % n = z at *
        by_cases h5 : T 0 + z < n
        · rw [Nat.mod_eq_of_lt h5]
          by_cases h6 : T 0 ≤ x
          · rw [show x + n - T 0 = (x - T 0) + n from by omega, Nat.add_mod_right, Nat.mod_eq_of_lt (show x - T 0 < n by omega)]; omega
          · rw [Nat.mod_eq_of_lt (show x + n - T 0 < n by omega)]; omega
        · rw [show T 0 + z = (T 0 + z - n) + n from by omega, Nat.add_mod_right, Nat.mod_eq_of_lt (show T 0 + z - n < n by omega)]
          by_cases h6 : T 0 ≤ x
          · rw [show x + n - T 0 = (x - T 0) + n from by omega, Nat.add_mod_right, Nat.mod_eq_of_lt (show x - T 0 < n by omega)]; omega
          · rw [Nat.mod_eq_of_lt (show x + n - T 0 < n by omega)]; omega
      constructor
      · intro hb
        have hge : T 0 ≤ x + n * T 0 := by
          have : 1 * T 0 ≤ n * T 0 := Nat.mul_le_mul_right _ (by omega)
          omega
        obtain ⟨i, hi⟩ := hE.all (x + n * T 0) hge (by rw [Nat.add_mul_mod_self_left, Nat.mod_eq_of_lt hx]; exact hb)
        refine ⟨i % K, List.mem_range.2 (Nat.mod_lt _ (by omega)), decide_eq_true ((key _).1 ?_)⟩
        rw [← hTi]
        have h5 := hE.pers (i % K) (i / K)
        rw [Nat.mod_add_div] at h5
        have h6 : T i % n = x := by rw [hi, Nat.add_mul_mod_self_left, Nat.mod_eq_of_lt hx]
        rw [h5, Nat.add_mul_mod_self_left] at h6
        exact h6
      · rintro ⟨i, _, hi⟩
        have h5 := (key _).2 (of_decide_eq_true hi)
        rw [← hTi] at h5
        rw [← h5]
        exact hE.bit i
    · have hmv : mvN n (stpN n a e K p m) (T 0) < 2 ^ n := mv_lt
      rw [Nat.testBit_lt_two_pow (Nat.lt_of_lt_of_le hs (Nat.pow_le_pow_right (by omega) (by omega))), Nat.testBit_lt_two_pow (Nat.lt_of_lt_of_le hmv (Nat.pow_le_pow_right (by omega) (by omega)))]
  rw [hs2, made_move (by omega) hst hE0]
  exact hc

/-- An even scale without a factor in common has the two sizes. -/
theorem even_two {n s : Nat} (h1 : 2 ≤ n) (hk2 : 2 ≤ (tonesB n s).length) (hg : Nat.gcd n (tonesB n s).length = 1) (he : evenB n s = true) : twoB n s = true := by
  have hk1 : 1 ≤ (tonesB n s).length := by omega
  have hE := tN_enum hk1
  unfold twoB twTo
  rw [Bool.and_eq_true, List.all_eq_true, decide_eq_true_eq]
  refine ⟨fun j hj => ?_, by omega⟩
  have hj2 := List.mem_range.1 hj
  by_cases hj0 : j = 0
  · simp [hj0]
  · rw [decide_eq_false hj0, Bool.false_or]
    have hev : aliL (spansL n (tonesB n s) j) = true := by
      unfold evenB evTo at he
      rw [List.all_eq_true] at he
      have := he j hj
      rwa [decide_eq_false hj0, Bool.false_or] at this
    rcases ref_ali hk1 (spans_lt hk1 hj2) with ⟨hl, _⟩ | ⟨a, b, hab, _⟩ | ⟨_, hf⟩
    · exfalso
      obtain ⟨x, hx⟩ : ∃ x, spL n (tonesB n s) j = [x] := by
        match hq : spL n (tonesB n s) j, hl with
        | [x], _ => exact ⟨x, rfl⟩
      have hall : ∀ i, tN n (tonesB n s) (i + j) - tN n (tonesB n s) i = x := fun i => by
        have hm : tN n (tonesB n s) (i + j) - tN n (tonesB n s) i ∈ spL n (tonesB n s) j := by
          rw [spL_mem (spans_lt hk1 hj2), spans_iff (by omega) hk1, hE.span (by omega)]
          exact ⟨i, by have := hE.le (show i ≤ i + j by omega); omega⟩
        rw [hx, List.mem_singleton] at hm
        exact hm
      have hsum := hE.spans_sum j
      rw [sum_congr (g := fun _ => x) (fun i _ => hall i), sum_const] at hsum
      have hd : (tonesB n s).length ∣ n * j := ⟨x, hsum.symm⟩
      have hd2 : (tonesB n s).length ∣ j := Nat.Coprime.dvd_of_dvd_mul_left (by rw [Nat.Coprime, Nat.gcd_comm]; exact hg) hd
      have := Nat.le_of_dvd (by omega) hd2
      omega
    · rw [hab]; rfl
    · rw [hev] at hf; cases hf

end Go.Proofs.YtmemnkmmjejlgaaDoor
