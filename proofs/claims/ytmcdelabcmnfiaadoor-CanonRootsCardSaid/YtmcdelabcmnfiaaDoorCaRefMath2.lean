/-
  The reference's First, Second and Build reckon what the program's do. Plain mathematics; over all sets of prime powers, by the kernel.
-/
import Derived.Test.YtmcdelabcmnfiaaDoorCaRootsFns
namespace Go.Proofs.YtmcdelabcmnfiaaDoor

def lfN (s : Nat) : Nat := ((List.range' 2 23).find? fun p => s % p == 0).getD 2
/-- The prime of which a number is a power, or 0. -/
def baseN (s : Nat) : Nat := if strip s (lfN s) == 1 then lfN s else 0
theorem base_chk : ((List.range 25).all fun s => decide (2 ≤ s → 2 ≤ lfN s ∧ lfN s ≤ s ∧ s % lfN s = 0 ∧ ((List.range (lfN s)).all fun p => decide (2 ≤ p → s % p ≠ 0)) = true)) = true := by decide +kernel
theorem base_all {s : Nat} (h1 : 2 ≤ s) (h2 : s ≤ 24) : 2 ≤ lfN s ∧ lfN s ≤ s ∧ s % lfN s = 0 ∧ ∀ p, 2 ≤ p → p < lfN s → s % p ≠ 0 := by
  have := List.all_eq_true.1 base_chk s (List.mem_range.2 (by omega))
  obtain ⟨a, b, c, d⟩ := of_decide_eq_true this h1
  exact ⟨a, b, c, fun p hp hp2 => of_decide_eq_true (List.all_eq_true.1 d p (List.mem_range.2 hp2)) hp⟩

/-- The prime powers that divide n, rising. -/
def ppR (n : Nat) : List Nat := (List.range (n + 1)).filter fun s => decide (2 ≤ s) && (n % s == 0 && decide (0 < baseN s))
def subsL : List Nat → List (List Nat)
  | [] => [[]]
  | x :: l => subsL l ++ (subsL l).map (x :: ·)
theorem filter_subs (P : Nat → Bool) : ∀ l : List Nat, l.filter P ∈ subsL l
  | [] => by simp [subsL]
  | x :: l => by
    have ih := filter_subs P l
    rw [List.filter_cons, subsL, List.mem_append]
    by_cases h : P x = true
    · rw [if_pos h]; exact .inr (List.mem_map.2 ⟨_, ih, rfl⟩)
    · rw [if_neg h]; exact .inl ih
/-- What holds of all sets of prime powers holds of those that are roots. -/
theorem by_subs {n : Nat} (P : Nat → Bool) : ∃ L, L ∈ subsL (ppR n) ∧ ∀ s, s ∈ ppR n → L.contains s = P s := by
  refine ⟨(ppR n).filter P, filter_subs P _, fun s hs => ?_⟩
  rw [Bool.eq_iff_iff, List.contains_iff_mem, List.mem_filter]
  exact ⟨fun h => h.2, fun h => ⟨hs, h⟩⟩
theorem filter_eq {l : List Nat} {P Q : Nat → Bool} (h : ∀ s, s ∈ l → P s = Q s) : l.filter P = l.filter Q := List.filter_congr h

/-- The product of the reference's First. -/
def fstR (l : List Nat) : Nat := l.foldl (fun m s => if 0 < baseN s then m * baseN s else m) 1
theorem fstR_snoc (l : List Nat) (s : Nat) : fstR (l ++ [s]) = if 0 < baseN s then fstR l * baseN s else fstR l := by unfold fstR; rw [List.foldl_append]; rfl
theorem fstR_filter (l : List Nat) : fstR l = fstR (l.filter fun s => decide (0 < baseN s)) := by
  unfold fstR
  generalize 1 = m
  induction l generalizing m with
  | nil => rfl
  | cons x l ih =>
    rw [List.foldl_cons, List.filter_cons]
    by_cases h : 0 < baseN x
    · rw [if_pos h, if_pos (decide_eq_true h), List.foldl_cons, if_pos h]; exact ih _
    · rw [if_neg h, if_neg (by simpa using h)]; exact ih _
theorem roots_pp (n a : Nat) : (rootsL n a).filter (fun s => decide (0 < baseN s)) = (ppR n).filter (rootB a) := by
  unfold rootsL rootsTo ppR
  rw [List.filter_filter, List.filter_filter]
  congr 1
  funext s
  cases decide (2 ≤ s) <;> cases (n % s == 0) <;> cases rootB a s <;> cases decide (0 < baseN s) <;> rfl
theorem fst_chk : ((List.range 25).all fun n => decide (1 ≤ n → ((primesL n).all fun p => (powsN n p).all fun s => (ppR n).contains s) = true ∧
    ((subsL (ppR n)).all fun L => fstR ((ppR n).filter L.contains) == (primesL n).foldl (fun m p => m * p ^ ((powsN n p).filter L.contains).length) 1) = true)) = true := by decide +kernel
theorem first_eq {n a : Nat} (h1 : 1 ≤ n) (h2 : n ≤ 24) : fstR (rootsL n a) = fstTo n a (primesL n) := by
  have := List.all_eq_true.1 fst_chk n (List.mem_range.2 (by omega))
  obtain ⟨c1, c2⟩ := of_decide_eq_true this h1
  obtain ⟨L, hL, hP⟩ := by_subs (n := n) (rootB a)
  have hm : ∀ p, p ∈ primesL n → ∀ s, s ∈ powsN n p → s ∈ ppR n := fun p hp s hs => by
    have := List.all_eq_true.1 (List.all_eq_true.1 c1 p hp) s hs
    rwa [List.contains_iff_mem] at this
  have h3 := List.all_eq_true.1 c2 L hL
  rw [beq_iff_eq] at h3
  rw [fstR_filter, roots_pp, filter_eq (fun s hs => (hP s hs).symm), h3]
  unfold fstTo
  have key : ∀ (ps : List Nat), (∀ p, p ∈ ps → p ∈ primesL n) → ∀ m, ps.foldl (fun m p => m * p ^ ((powsN n p).filter L.contains).length) m = ps.foldl (fun m p => m * p ^ (rootsP n a p).length) m := by
    intro ps
    induction ps with
    | nil => intro _ m; rfl
    | cons p ps ih =>
      intro hps m
      rw [List.foldl_cons, List.foldl_cons]
      have e : (powsN n p).filter L.contains = rootsP n a p := filter_eq (fun s hs => hP s (hm p (hps p (by simp)) s hs))
      rw [e]
      exact ih (fun q hq => hps q (by simp [hq])) _
  exact key _ (fun p h => h) 1

/-! ### Second -/
def rpN (n a p : Nat) : List Nat := (rootsL n a).filter fun s => baseN s == p
def rpC (n p : Nat) : List Nat := (List.range (n + 1)).filter fun s => decide (2 ≤ s) && (n % s == 0 && baseN s == p)
theorem rp_chk : ((List.range 25).all fun n => decide (2 ≤ n → ((List.range' 2 (n - 1)).all fun p => rpC n p == if (primesL n).contains p then powsN n p else []) = true ∧
    ((List.range (n + 2)).all fun k => ((List.range' 2 (k - 2)).filter (primesL n).contains == (primesL n).take ((List.range' 2 (k - 2)).filter (primesL n).contains).length)) = true ∧
    (List.range' 2 (n - 1)).filter (primesL n).contains = primesL n ∧ ((sndAll n (primesL n)).all fun x => decide (1 ≤ x ∧ x ≤ n)) = true)) = true := by decide +kernel
theorem rp_all {n : Nat} (h1 : 2 ≤ n) (h2 : n ≤ 24) : (∀ p, 2 ≤ p → p ≤ n → rpC n p = if (primesL n).contains p then powsN n p else []) ∧
    (∀ k, k ≤ n + 1 → (List.range' 2 (k - 2)).filter (primesL n).contains = (primesL n).take ((List.range' 2 (k - 2)).filter (primesL n).contains).length) ∧
    (List.range' 2 (n - 1)).filter (primesL n).contains = primesL n ∧ ∀ x, x ∈ sndAll n (primesL n) → 1 ≤ x ∧ x ≤ n := by
  have := List.all_eq_true.1 rp_chk n (List.mem_range.2 (by omega))
  obtain ⟨a, b, c, d⟩ := of_decide_eq_true this h1
  refine ⟨fun p hp hp2 => ?_, fun k hk => ?_, c, fun x hx => of_decide_eq_true (List.all_eq_true.1 d x hx)⟩
  · have := List.all_eq_true.1 a p (List.mem_range'_1.2 ⟨hp, by omega⟩)
    rwa [beq_iff_eq] at this
  · have := List.all_eq_true.1 b k (List.mem_range.2 (by omega))
    rwa [beq_iff_eq] at this
theorem rp_eq {n a p : Nat} (h1 : 2 ≤ n) (h2 : n ≤ 24) (hp : 2 ≤ p) (hp2 : p ≤ n) : rpN n a p = if (primesL n).contains p then rootsP n a p else [] := by
  have e : rpN n a p = (rpC n p).filter (rootB a) := by
    unfold rpN rootsL rootsTo rpC
    rw [List.filter_filter, List.filter_filter]
    congr 1
    funext s
    cases decide (2 ≤ s) <;> cases (n % s == 0) <;> cases rootB a s <;> cases (baseN s == p) <;> rfl
  rw [e, (rp_all h1 h2).1 p hp hp2]
  split
  · rfl
  · rfl
/-- The products after the numbers below k. -/
def sndR (n a k : Nat) : List Nat := (List.range' 2 (k - 2)).foldl (fun L p => growL L (rpN n a p)) [1]
theorem sndR_succ {n a k : Nat} (hk : 2 ≤ k) : sndR n a (k + 1) = growL (sndR n a k) (rpN n a k) := by
  unfold sndR
  rw [show k + 1 - 2 = (k - 2) + 1 by omega, List.range'_concat, List.foldl_append]
  simp only [List.foldl_cons, List.foldl_nil]
  rw [show 2 + 1 * (k - 2) = k by omega]
theorem growL_nil (L : List Nat) : growL L [] = L := by unfold growL; simp
theorem sndR_eq {n a k : Nat} (h1 : 2 ≤ n) (h2 : n ≤ 24) (hk : k ≤ n + 1) : sndR n a k = sndTo n a ((primesL n).take ((List.range' 2 (k - 2)).filter (primesL n).contains).length) := by
  rw [← (rp_all h1 h2).2.1 k hk]
  unfold sndR sndTo
  have key : ∀ (l : List Nat), (∀ p, p ∈ l → 2 ≤ p ∧ p ≤ n) → ∀ L : List Nat, l.foldl (fun L p => growL L (rpN n a p)) L = (l.filter (primesL n).contains).foldl (fun L p => growL L (rootsP n a p)) L := by
    intro l
    induction l with
    | nil => intro _ L; rfl
    | cons p l ih =>
      intro hl L
      obtain ⟨q1, q2⟩ := hl p (by simp)
      rw [List.foldl_cons, rp_eq h1 h2 q1 q2, List.filter_cons]
      by_cases h : (primesL n).contains p = true
      · rw [if_pos h, if_pos h, List.foldl_cons]; exact ih (fun q hq => hl q (by simp [hq])) _
      · rw [if_neg h, if_neg h, growL_nil]; exact ih (fun q hq => hl q (by simp [hq])) _
  exact key _ (fun p hp => by have := List.mem_range'_1.1 hp; omega) _
theorem sndR_len {n a k : Nat} (h1 : 2 ≤ n) (h2 : n ≤ 24) (hk : k ≤ n + 1) : (sndR n a k).length ≤ 24 := by
  rw [sndR_eq h1 h2 hk]
  have hp := primes_len (n := n) (by omega) h2
  obtain ⟨j, hj⟩ : ∃ j, ((List.range' 2 (k - 2)).filter (primesL n).contains).length = j := ⟨_, rfl⟩
  rw [hj]
  by_cases hj4 : j < 4
  · exact snd_len (by omega) h2 hj4
  · rw [show (primesL n).take j = (primesL n).take 3 by rw [List.take_of_length_le (by omega), List.take_of_length_le hp]]
    exact snd_len (by omega) h2 (by omega)
theorem sndR_end {n a : Nat} (h1 : 2 ≤ n) (h2 : n ≤ 24) : sndR n a (n + 1) = sndTo n a (primesL n) := by
  rw [sndR_eq h1 h2 (Nat.le_refl _), show n + 1 - 2 = n - 1 by omega, (rp_all h1 h2).2.2.1, List.take_length]
theorem sndR_bd {n a k x : Nat} (h1 : 2 ≤ n) (h2 : n ≤ 24) (hk : k ≤ n + 1) (h : x ∈ sndR n a k) : 1 ≤ x ∧ x ≤ n := by
  rw [sndR_eq h1 h2 hk] at h
  have := snd_mono _ ((primesL n).drop ((List.range' 2 (k - 2)).filter (primesL n).contains).length) h
  rw [List.take_append_drop] at this
  have hs := (snd_sub (n := n) (a := a) (primesL n).length (primesL n) rfl).1 x this
  exact (rp_all h1 h2).2.2.2 x hs
def midL (E R : List Nat) (m r : Nat) : List Nat := growL E R ++ (E.take m).map (· * r)
theorem midL_zero (E R : List Nat) (r : Nat) : midL E R 0 r = growL E R := by unfold midL; simp
theorem midL_full (E R : List Nat) (r : Nat) : midL E R E.length r = growL E (R ++ [r]) := by
  unfold midL growL
  rw [List.take_of_length_le (Nat.le_refl _), List.flatMap_append, List.append_assoc]
  simp
theorem midL_succ {E R : List Nat} {m r : Nat} (hm : m < E.length) : midL E R (m + 1) r = midL E R m r ++ [(E[m]?.getD 0) * r] := by
  unfold midL
  rw [List.take_succ_eq_append_getElem hm, List.map_append, ← List.append_assoc, List.getElem?_eq_getElem hm]; rfl
theorem midL_len (E R : List Nat) (m r : Nat) : (midL E R m r).length ≤ (growL E (R ++ [r])).length := by
  rw [← midL_full]
  unfold midL
  rw [List.length_append, List.length_append, List.length_map, List.length_map, List.length_take, List.length_take]
  omega
theorem growL_sub (E R R' : List Nat) : (growL E R).length ≤ (growL E (R ++ R')).length := by
  rw [growL_length, growL_length, List.length_append, Nat.add_mul]; omega
end Go.Proofs.YtmcdelabcmnfiaaDoor
