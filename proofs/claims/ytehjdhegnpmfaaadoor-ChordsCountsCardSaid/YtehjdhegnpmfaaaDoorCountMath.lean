/-
  Prime forms, classes and the others: as many prime forms of a size as of the others' size; the classes of a size are all chords of it. Plain mathematics.
-/
import Derived.Test.YtehjdhegnpmfaaaDoorImgMath
import Derived.Test.YtehjdhegnpmfaaaDoorPrimesFns
namespace Go.Proofs.YtehjdhegnpmfaaaDoor

/-- The other tones. -/
def oth (n c : Nat) : Nat := 2 ^ n - 1 - c
theorem oth_lt (n c : Nat) : oth n c < 2 ^ n := by have := Nat.two_pow_pos n; unfold oth; omega
theorem oth_oth {n c : Nat} (hc : c < 2 ^ n) : oth n (oth n c) = c := by unfold oth; omega
theorem oth_bit {n c : Nat} (hc : c < 2 ^ n) (i : Nat) : (oth n c).testBit i = (decide (i < n) && !c.testBit i) := by
  unfold oth
  rw [show 2 ^ n - 1 - c = 2 ^ n - (c + 1) from by omega, Nat.testBit_two_pow_sub_succ hc]
theorem oth_mv {n c u : Nat} (hc : c < 2 ^ n) (hu : u < n) : mvN n (oth n c) u = oth n (mvN n c u) := by
  apply Nat.eq_of_testBit_eq
  intro i
  rw [testBit_mv hu (oth_lt n c), oth_bit hc, oth_bit mv_lt, testBit_mv hu hc, decide_eq_true (Nat.mod_lt (i + n - u) (show 0 < n by omega))]
  by_cases h : i < n <;> simp [h]
theorem oth_turn {n c : Nat} (hn : 2 ≤ n) (hn2 : n ≤ 64) (hc : c < 2 ^ n) : mulN n (oth n c) (-1) = oth n (mulN n c (-1)) := by
  apply Nat.eq_of_testBit_eq
  intro i
  rw [testBit_turn hn hn2 (oth_lt n c), oth_bit hc, oth_bit (turn_lt hn), testBit_turn hn hn2 hc, decide_eq_true (Nat.mod_lt (n - i) (show 0 < n by omega))]
  by_cases h : i < n <;> simp [h]
theorem oth_inj {n a b : Nat} (ha : a < 2 ^ n) (hb : b < 2 ^ n) : oth n a = oth n b ↔ a = b := by unfold oth; omega
theorem imgs_oth {n c x : Nat} (hn : 2 ≤ n) (hn2 : n ≤ 64) (hc : c < 2 ^ n) (hx : x < 2 ^ n) : oth n x ∈ imgs n (oth n c) ↔ x ∈ imgs n c := by
  rw [mem_imgs, mem_imgs]
  have e1 : ∀ i, i < n → (mvN n (oth n c) i = oth n x ↔ mvN n c i = x) := fun i hi => by rw [oth_mv hc hi, oth_inj mv_lt hx]
  have e2 : ∀ i, i < n → (mvN n (mulN n (oth n c) (-1)) i = oth n x ↔ mvN n (mulN n c (-1)) i = x) := fun i hi => by rw [oth_turn hn hn2 hc, oth_mv (turn_lt hn) hi, oth_inj mv_lt hx]
  constructor
  · rintro ⟨i, hi, h⟩; exact ⟨i, hi, h.imp (e1 i hi).1 (e2 i hi).1⟩
  · rintro ⟨i, hi, h⟩; exact ⟨i, hi, h.imp (e1 i hi).2 (e2 i hi).2⟩

/-- How many tones. -/
def szN (c : Nat) : Nat := (tonesL c).length
theorem sz_sum {n c : Nat} (hn : n ≤ 64) (hc : c < 2 ^ n) : szN c = sumN n (bI c) := by unfold szN; rw [tonesL_eq _ hn hc, tonesB_count]
theorem sz_oth {n c : Nat} (hn : n ≤ 64) (hc : c < 2 ^ n) : szN (oth n c) + szN c = n := by
  rw [sz_sum hn hc, sz_sum hn (oth_lt n c), ← sum_add]
  refine (sum_congr (g := fun _ => 1) (fun i hi => others_bit hc hi)).trans ?_
  rw [sum_const, Nat.mul_one]
theorem sz_img {n c x : Nat} (hn : 2 ≤ n) (hn2 : n ≤ 64) (hc : c < 2 ^ n) (hx : x ∈ imgs n c) : szN x = szN c := by
  have hxl := imgs_lt hx
  unfold szN
  rw [← aut_nought hn2 hxl, ← aut_nought hn2 hc]
  obtain ⟨i, hi, rfl | rfl⟩ := mem_imgs.1 hx
  · exact aut_mv hn hc hi
  · rw [aut_mv hn (turn_lt hn) hi]; exact aut_turn hn hn2 hc (by omega)

theorem img_same {n c x : Nat} (hn : 2 ≤ n) (hn2 : n ≤ 64) (hc : c < 2 ^ n) (hx : x ∈ imgs n c) (y : Nat) : y ∈ imgs n x ↔ y ∈ imgs n c := by
  obtain ⟨i, hi, rfl | rfl⟩ := mem_imgs.1 hx
  · exact imgs_mv hn hn2 hc hi
  · rw [imgs_mv hn hn2 (turn_lt hn) hi]; exact imgs_turn hn hn2 hc
theorem img_sym {n c x : Nat} (hn : 2 ≤ n) (hn2 : n ≤ 64) (hc : c < 2 ^ n) (hx : x ∈ imgs n c) : c ∈ imgs n x := (img_same hn hn2 hc hx c).2 (self_imgs hn hc)
theorem img_prime {n c x : Nat} (hn : 2 ≤ n) (hn2 : n ≤ 64) (hc : c < 2 ^ n) (hx : x ∈ imgs n c) : primeN n x = primeN n c :=
  prime_ext hn (imgs_lt hx) hc (cls_ext (img_same hn hn2 hc hx))
theorem prime_img {n c : Nat} (hn : 2 ≤ n) (hc : c < 2 ^ n) : primeN n c ∈ imgs n c := by
  rcases minL_mem c (imgs n c) with h | h
  · show minL c (imgs n c) ∈ _; rw [h]; exact self_imgs hn hc
  · exact h
theorem primeB_iff {n p : Nat} (hn : 2 ≤ n) (hp : p < 2 ^ n) : primeB n p = true ↔ primeN n p = p := by
  unfold primeB
  rw [decide_eq_true_eq]
  constructor
  · intro h
    have h1 := h _ (prime_img hn hp)
    have h2 : primeN n p ≤ p := minL_le_mem p (self_imgs hn hp)
    omega
  · intro h x hx
    have : primeN n p ≤ x := minL_le_mem p hx
    omega
theorem primeB_prime {n c : Nat} (hn : 2 ≤ n) (hn2 : n ≤ 64) (hc : c < 2 ^ n) : primeB n (primeN n c) = true :=
  (primeB_iff hn (imgs_lt (prime_img hn hc))).2 (img_prime hn hn2 hc (prime_img hn hc))
theorem prime_lt {n c : Nat} (hn : 2 ≤ n) (hc : c < 2 ^ n) : primeN n c < 2 ^ n := imgs_lt (prime_img hn hc)
/-- The only prime form of which a chord is an image. -/
theorem prime_only {n c p : Nat} (hn : 2 ≤ n) (hn2 : n ≤ 64) (hp : p < 2 ^ n) (hb : primeB n p = true) (hx : c ∈ imgs n p) : p = primeN n c := by
  rw [img_prime hn hn2 hp hx]; exact ((primeB_iff hn hp).1 hb).symm

/-- Summed over the prime forms of a size, class by class, or over all chords of the size. -/
theorem class_swap {n s : Nat} (hn : 2 ≤ n) (hn2 : n ≤ 64) (G : Nat → Nat) (hG : ∀ c x, c < 2 ^ n → x ∈ imgs n c → G x = G c) :
    sumN (2 ^ n) (fun p => if primeB n p = true ∧ szN p = s then (clsN n p).length * G p else 0) = sumN (2 ^ n) (fun c => if szN c = s then G c else 0) := by
  have e1 : sumN (2 ^ n) (fun p => if primeB n p = true ∧ szN p = s then (clsN n p).length * G p else 0) =
      sumN (2 ^ n) (fun p => sumN (2 ^ n) (fun c => if (primeB n p = true ∧ szN p = s) ∧ c ∈ imgs n p then G c else 0)) := by
    refine sum_congr (fun p hp => ?_)
    by_cases h : primeB n p = true ∧ szN p = s
    · rw [if_pos h]
      have := cls_sum n p (G p) (2 ^ n)
      rw [show (clsN n p).length * G p = _ from this]
      refine sum_congr (fun c _ => ?_)
      by_cases hc : c ∈ imgs n p
      · rw [if_pos hc, if_pos ⟨h, hc⟩, hG p c hp hc]
      · rw [if_neg hc, if_neg (fun x => hc x.2)]
    · rw [if_neg h]
      symm
      refine (sum_congr (g := fun _ => 0) (fun c _ => if_neg (fun x => h x.1))).trans (sum_zero _)
  rw [e1, sum_swap]
  refine sum_congr (fun c hc => ?_)
  have hpl := prime_lt hn hc
  by_cases h : szN c = s
  · rw [if_pos h]
    have e := sum_single (2 ^ n) (primeN n c) (fun _ => G c)
    rw [if_pos hpl] at e
    refine (sum_congr (fun p hp => ?_)).trans e
    by_cases hx : p = primeN n c
    · rw [if_pos hx, if_pos]
      have hi : c ∈ imgs n p := by rw [hx]; exact img_sym hn hn2 hc (prime_img hn hc)
      exact ⟨⟨by rw [hx]; exact primeB_prime hn hn2 hc, by rw [← sz_img hn hn2 hp hi, h]⟩, hi⟩
    · rw [if_neg hx, if_neg (fun y => hx (prime_only hn hn2 hp y.1.1 y.2))]
  · rw [if_neg h]
    refine (sum_congr (g := fun _ => 0) (fun p hp => if_neg (fun y => h ?_))).trans (sum_zero _)
    rw [sz_img hn hn2 hp y.2, y.1.2]

/-- How many ways leave a chord as it is. -/
def stN (n c : Nat) : Nat := N1 n c c + N1 n (mulN n c (-1)) c
theorem st_times {n c : Nat} (hn : 2 ≤ n) (hn2 : n ≤ 64) (hc : c < 2 ^ n) : (clsN n c).length * stN n c = 2 * n := by
  have := cls_times hn hn2 hc
  rw [ways_N1, ways_N1] at this
  exact this
theorem st_img {n c x : Nat} (hn : 2 ≤ n) (hn2 : n ≤ 64) (hc : c < 2 ^ n) (hx : x ∈ imgs n c) : stN n x = stN n c := by
  have key : ∀ y u z, (y = c ∨ y = mulN n c (-1)) → u < n → z = mvN n y u → stN n z = stN n c := fun y u z hy hu hz => by
    obtain ⟨_, _, h3, h4, _⟩ := image_shares hn hn2 hc y u hy hu hz
    rw [ways_N1, ways_N1] at h3 h4
    have h3' : N1 n z z = N1 n c c := h3
    have h4' : N1 n (mulN n z (-1)) z = N1 n (mulN n c (-1)) c := h4
    unfold stN
    omega
  obtain ⟨i, hi, h | h⟩ := mem_imgs.1 hx
  · exact key c i x (Or.inl rfl) hi h.symm
  · exact key _ i x (Or.inr rfl) hi h.symm
theorem N1_oth {n a b : Nat} (ha : a < 2 ^ n) (hb : b < 2 ^ n) : N1 n (oth n a) (oth n b) = N1 n a b := by
  unfold N1
  refine sum_congr (fun i hi => ?_)
  have e : (mvN n (oth n a) i = oth n b) ↔ (mvN n a i = b) := by rw [oth_mv ha hi, oth_inj mv_lt hb]
  by_cases h : mvN n a i = b
  · rw [if_pos h, if_pos (e.2 h)]
  · rw [if_neg h, if_neg (fun x => h (e.1 x))]
theorem st_oth {n c : Nat} (hn : 2 ≤ n) (hn2 : n ≤ 64) (hc : c < 2 ^ n) : stN n (oth n c) = stN n c := by
  unfold stN
  rw [N1_oth hc hc, oth_turn hn hn2 hc, N1_oth (turn_lt hn) hc]

theorem filter_sum (k : Nat) (p : Nat → Bool) (f : Nat → Nat) : (((List.range k).filter p).map f).sum = sumN k (fun x => if p x = true then f x else 0) := by
  induction k with
  | zero => rfl
  | succ k ih =>
    rw [List.range_succ, List.filter_append, List.map_append, List.sum_append, ih]
    simp only [sumN]
    congr 1
    by_cases h : p k = true
    · rw [if_pos h]; simp [h]
    · rw [if_neg h]; simp [h]
theorem primesN_eq (n s : Nat) : primesN n s = (List.range (2 ^ n)).filter (fun x => primeB n x && sized s x) := by
  unfold primesN forms
  rw [List.filter_filter]
  refine List.filter_congr (fun x _ => Bool.and_comm _ _)
theorem primes_sum (n s : Nat) (f : Nat → Nat) : ((primesN n s).map f).sum = sumN (2 ^ n) (fun p => if primeB n p = true ∧ szN p = s then f p else 0) := by
  rw [primesN_eq, filter_sum]
  refine sum_congr (fun p _ => ?_)
  have e : ((primeB n p && sized s p) = true) ↔ (primeB n p = true ∧ szN p = s) := by
    rw [Bool.and_eq_true]; unfold sized szN; rw [beq_iff_eq]
  by_cases h : primeB n p = true ∧ szN p = s
  · rw [if_pos h, if_pos (e.2 h)]
  · rw [if_neg h, if_neg (fun x => h (e.1 x))]
theorem primes_len (n s : Nat) : (primesN n s).length * (2 * n) = sumN (2 ^ n) (fun p => if primeB n p = true ∧ szN p = s then 2 * n else 0) := by
  rw [← primes_sum]
  induction primesN n s with
  | nil => simp
  | cons x l ih => simp only [List.map_cons, List.sum_cons, List.length_cons, Nat.add_mul, Nat.one_mul]; rw [ih]; omega
theorem primes_st {n s : Nat} (hn : 2 ≤ n) (hn2 : n ≤ 64) : (primesN n s).length * (2 * n) = sumN (2 ^ n) (fun c => if szN c = s then stN n c else 0) := by
  rw [primes_len, ← class_swap hn hn2 (stN n) (fun c x hc hx => st_img hn hn2 hc hx)]
  refine sum_congr (fun p hp => ?_)
  by_cases h : primeB n p = true ∧ szN p = s
  · rw [if_pos h, if_pos h, st_times hn hn2 hp]
  · rw [if_neg h, if_neg h]
/-- As many of a size as of the others' size. -/
theorem primes_others {n s : Nat} (hn : 2 ≤ n) (hn2 : n ≤ 64) (hs : s ≤ n) : (primesN n s).length = (primesN n (n - s)).length := by
  have h1 := primes_st (s := s) hn hn2
  have h2 := primes_st (s := n - s) hn hn2
  have e : sumN (2 ^ n) (fun c => if szN c = s then stN n c else 0) = sumN (2 ^ n) (fun c => if szN c = n - s then stN n c else 0) := by
    rw [← sum_back (2 ^ n) (fun c => if szN c = n - s then stN n c else 0)]
    refine sum_congr (fun c hc => ?_)
    have hz := sz_oth hn2 hc
    have hst := st_oth hn hn2 hc
    unfold oth at hz hst
    by_cases h : szN c = s
    · rw [if_pos h, if_pos (by omega), hst]
    · rw [if_neg h, if_neg (by omega)]
  rw [e, ← h2] at h1
  exact Nat.eq_of_mul_eq_mul_right (show 0 < 2 * n by omega) h1

/-- The classes of a size have all its chords. -/
theorem classes_all {n s : Nat} (hn : 2 ≤ n) (hn2 : n ≤ 64) : ((primesN n s).map (fun x => (clsN n x).length)).sum = sumN (2 ^ n) (fun c => if szN c = s then 1 else 0) := by
  rw [primes_sum, ← class_swap hn hn2 (fun _ => 1) (fun _ _ _ _ => rfl)]
  refine sum_congr (fun p _ => ?_)
  rw [Nat.mul_one]

def bin : Nat → Nat → Nat
  | 0, 0 => 1
  | 0, _ + 1 => 0
  | _ + 1, 0 => 1
  | n + 1, k + 1 => bin n k + bin n (k + 1)
theorem bin_zero (n : Nat) : bin n 0 = 1 := by cases n <;> rfl
theorem sz_up {n c : Nat} (hn : n < 64) (hc : c < 2 ^ n) : szN (2 ^ n + c) = szN c + 1 := by
  have h2 : 2 ^ (n + 1) = 2 ^ n + 2 ^ n := by rw [Nat.pow_succ]; omega
  rw [sz_sum (n := n + 1) (by omega) (show 2 ^ n + c < 2 ^ (n + 1) by omega), sz_sum (n := n) (by omega) hc]
  simp only [sumN]
  have e1 : bI (2 ^ n + c) n = 1 := by
    unfold bI
    rw [Nat.testBit_two_pow_add_eq, Nat.testBit_lt_two_pow hc]; rfl
  rw [e1]
  congr 1
  refine sum_congr (fun i hi => ?_)
  unfold bI
  rw [Nat.testBit_two_pow_add_gt hi]
theorem all_bin (n : Nat) (hn : n ≤ 64) : ∀ s, sumN (2 ^ n) (fun c => if szN c = s then 1 else 0) = bin n s := by
  induction n with
  | zero =>
    intro s
    have e : szN 0 = 0 := by unfold szN; rw [tonesL_zero]; rfl
    simp only [Nat.pow_zero, sumN, e]
    cases s <;> rfl
  | succ n ih =>
    intro s
    rw [Nat.pow_succ, Nat.mul_two, sum_append, ih (by omega)]
    have e : sumN (2 ^ n) (fun i => if szN (2 ^ n + i) = s then 1 else 0) = if s = 0 then 0 else bin n (s - 1) := by
      by_cases h : s = 0
      · rw [if_pos h]
        exact (sum_congr (g := fun _ => 0) (fun i hi => if_neg (by rw [sz_up (by omega) hi]; omega))).trans (sum_zero _)
      · rw [if_neg h, ← ih (by omega)]
        refine sum_congr (fun i hi => ?_)
        rw [sz_up (by omega) hi]
        by_cases h2 : szN i = s - 1
        · rw [if_pos h2, if_pos (by omega)]
        · rw [if_neg h2, if_neg (by omega)]
    rw [e]
    cases s with
    | zero => rw [if_pos rfl, bin_zero, bin_zero]
    | succ k => rw [if_neg (by omega)]; show bin n (k + 1) + bin n k = bin n k + bin n (k + 1); omega

/-- As the statement reckons it. -/
def wantN (n : Nat) : Nat → Nat
  | 0 => 1
  | k + 1 => wantN n k * (n - k) / (k + 1)
theorem want_bin : ∀ n : Fin 13, ∀ s : Fin 13, s.val ≤ n.val → wantN n.val s.val = bin n.val s.val := by decide +kernel
theorem want_le : ∀ n : Fin 13, ∀ s : Fin 13, wantN n.val s.val ≤ 924 := by decide +kernel

theorem primes_count {n s : Nat} (hn : 2 ≤ n) (hn2 : n ≤ 12) (hs : s ≤ n) : ((primesN n s).map (fun x => (clsN n x).length)).sum = wantN n s := by
  rw [classes_all hn (by omega), all_bin n (by omega), ← want_bin ⟨n, by omega⟩ ⟨s, by omega⟩ hs]

end Go.Proofs.YtehjdhegnpmfaaaDoor
