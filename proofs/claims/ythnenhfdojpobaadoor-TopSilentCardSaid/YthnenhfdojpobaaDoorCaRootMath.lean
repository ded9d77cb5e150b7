/-
  Primes, powers and roots as the program reckons them. Plain mathematics; small facts by the kernel.
-/
import Derived.Test.YthnenhfdojpobaaDoorCaMath
namespace Go.Proofs.YthnenhfdojpobaaDoor

/-- What is left of m without p. -/
def stripF : Nat → Nat → Nat → Nat
  | 0, m, _ => m
  | f + 1, m, p => if m % p == 0 then stripF f (m / p) p else m
def strip (m p : Nat) : Nat := stripF 5 m p
theorem strip_chk : ((List.range 25).all fun m => (List.range 26).all fun p => decide (1 ≤ m → 2 ≤ p → strip m p = (if m % p == 0 then strip (m / p) p else m) ∧ 1 ≤ strip m p ∧ strip m p ≤ m)) = true := by decide +kernel
theorem strip_all {m p : Nat} (h1 : 1 ≤ m) (h2 : m ≤ 24) (h3 : 2 ≤ p) (h4 : p ≤ 25) : strip m p = (if m % p == 0 then strip (m / p) p else m) ∧ 1 ≤ strip m p ∧ strip m p ≤ m := by
  have := List.all_eq_true.1 strip_chk m (List.mem_range.2 (by omega))
  have := List.all_eq_true.1 this p (List.mem_range.2 (by omega))
  exact of_decide_eq_true this h1 h3
theorem strip_go {m p : Nat} (h1 : 1 ≤ m) (h2 : m ≤ 24) (h3 : 2 ≤ p) (h4 : p ≤ 25) (h : m % p = 0) : strip m p = strip (m / p) p ∧ 1 ≤ m / p ∧ m / p < m := by
  have := (strip_all h1 h2 h3 h4).1
  rw [h] at this
  refine ⟨this, ?_, Nat.div_lt_self (by omega) (by omega)⟩
  have := Nat.div_add_mod m p
  apply Nat.one_le_iff_ne_zero.2
  intro e; rw [e] at this; omega
theorem strip_stop {m p : Nat} (h1 : 1 ≤ m) (h2 : m ≤ 24) (h3 : 2 ≤ p) (h4 : p ≤ 25) (h : m % p ≠ 0) : strip m p = m := by
  have := (strip_all h1 h2 h3 h4).1
  rwa [if_neg (by simpa using h)] at this

/-- The primes of n: what is left and what is found after k numbers. -/
def prSt (n : Nat) : Nat → Nat × List Nat
  | 0 => (n, [])
  | k + 1 => let s := prSt n k; if s.1 ≤ 1 then s else (strip s.1 (k + 2), if s.1 % (k + 2) == 0 then s.2 ++ [k + 2] else s.2)
def primesL (n : Nat) : List Nat := (prSt n 23).2
theorem pr_chk : ((List.range 25).all fun n => (List.range 24).all fun k => decide (1 ≤ n → 1 ≤ (prSt n k).1 ∧ (prSt n k).1 ≤ 24 ∧ (prSt n k).2.length ≤ k ∧ ((prSt n k).1 ≤ 1 → (prSt n k).2 = primesL n) ∧ (¬ (prSt n k).1 ≤ 1 → k + 1 < 24))) = true := by decide +kernel
theorem pr_all {n k : Nat} (h1 : 1 ≤ n) (h2 : n ≤ 24) (hk : k < 24) : 1 ≤ (prSt n k).1 ∧ (prSt n k).1 ≤ 24 ∧ (prSt n k).2.length ≤ k ∧ ((prSt n k).1 ≤ 1 → (prSt n k).2 = primesL n) ∧ (¬ (prSt n k).1 ≤ 1 → k + 1 < 24) := by
  have := List.all_eq_true.1 pr_chk n (List.mem_range.2 (by omega))
  have := List.all_eq_true.1 this k (List.mem_range.2 hk)
  exact of_decide_eq_true this h1
theorem pr_step {n k : Nat} (h : ¬ (prSt n k).1 ≤ 1) : prSt n (k + 1) = (strip (prSt n k).1 (k + 2), if (prSt n k).1 % (k + 2) == 0 then (prSt n k).2 ++ [k + 2] else (prSt n k).2) := by
  show (if (prSt n k).1 ≤ 1 then prSt n k else _) = _
  rw [if_neg h]
theorem primes_chk : ((List.range 25).all fun n => decide (1 ≤ n → (primesL n).length ≤ 3 ∧ ((primesL n).all fun p => decide (2 ≤ p ∧ p ≤ n ∧ n % p = 0)) = true)) = true := by decide +kernel
theorem primes_len {n : Nat} (h1 : 1 ≤ n) (h2 : n ≤ 24) : (primesL n).length ≤ 3 := (of_decide_eq_true (List.all_eq_true.1 primes_chk n (List.mem_range.2 (by omega))) h1).1
theorem primes_mem {n p : Nat} (h1 : 1 ≤ n) (h2 : n ≤ 24) (h : p ∈ primesL n) : 2 ≤ p ∧ p ≤ n ∧ n % p = 0 :=
  of_decide_eq_true (List.all_eq_true.1 (of_decide_eq_true (List.all_eq_true.1 primes_chk n (List.mem_range.2 (by omega))) h1).2 p h)

/-- The powers of p that divide n. -/
def powTo (p k : Nat) : List Nat := (List.range k).map fun i => p ^ (i + 1)
def powsN (n p : Nat) : List Nat := (powTo p 5).filter fun s => n % s == 0
theorem powTo_succ (p k : Nat) : powTo p (k + 1) = powTo p k ++ [p ^ (k + 1)] := by unfold powTo; rw [List.range_succ, List.map_append]; rfl
theorem pow_chk : ((List.range 25).all fun n => (List.range 25).all fun p => (List.range 5).all fun k => decide (1 ≤ n → 2 ≤ p → ((powTo p k).all fun s => n % s == 0) = true →
    p ^ (k + 1) ≤ 576 ∧ 2 ≤ p ^ (k + 1) ∧ (n % p ^ (k + 1) = 0 → k + 1 < 5 ∧ p ^ (k + 1) ≤ 24) ∧ (n % p ^ (k + 1) ≠ 0 → powTo p k = powsN n p))) = true := by decide +kernel
theorem pow_all {n p k : Nat} (h1 : 1 ≤ n) (h2 : n ≤ 24) (h3 : 2 ≤ p) (h4 : p ≤ 24) (hk : k < 5) (h : ((powTo p k).all fun s => n % s == 0) = true) :
    p ^ (k + 1) ≤ 576 ∧ 2 ≤ p ^ (k + 1) ∧ (n % p ^ (k + 1) = 0 → k + 1 < 5 ∧ p ^ (k + 1) ≤ 24) ∧ (n % p ^ (k + 1) ≠ 0 → powTo p k = powsN n p) := by
  have := List.all_eq_true.1 pow_chk n (List.mem_range.2 (by omega))
  have := List.all_eq_true.1 this p (List.mem_range.2 (by omega))
  have := List.all_eq_true.1 this k (List.mem_range.2 hk)
  exact of_decide_eq_true this h1 h3 h

/-! ### the polynomial modulo x^s - 1 -/
/-- How many of some beats lie on a place modulo s. -/
def cntMod (l : List Nat) (s k : Nat) : Nat := (l.filter fun x => x % s == k).length
theorem cntMod_snoc (l : List Nat) (x s k : Nat) : cntMod (l ++ [x]) s k = if x % s = k then cntMod l s k + 1 else cntMod l s k := by
  unfold cntMod
  rw [List.filter_append, List.length_append]
  by_cases h : x % s = k <;> simp [h]
theorem cntMod_le (l : List Nat) (s k : Nat) : cntMod l s k ≤ l.length := List.length_filter_le _ _

/-- Times 1 - x^(s/p). -/
def mulF (p s : Nat) (F : Nat → Int) : Nat → Int := fun k => F k - F ((k + s - s / p) % s)
def prodF (l : List Nat) (s : Nat) (ps : List Nat) : Nat → Int := ps.foldl (fun F p => mulF p s F) (fun k => (cntMod l s k : Int))
theorem prodF_snoc (l : List Nat) (s : Nat) (ps : List Nat) (p : Nat) : prodF l s (ps ++ [p]) = mulF p s (prodF l s ps) := by unfold prodF; rw [List.foldl_append]; rfl
theorem prodF_bd (l : List Nat) (s : Nat) (hl : l.length ≤ 64) (ps : List Nat) : ∀ k, -(64 * 2 ^ ps.length) ≤ prodF l s ps k ∧ prodF l s ps k ≤ 64 * 2 ^ ps.length := by
  have key : ∀ (n : Nat) (ps : List Nat), ps.length = n → ∀ k, -(64 * 2 ^ ps.length) ≤ prodF l s ps k ∧ prodF l s ps k ≤ 64 * 2 ^ ps.length := by
    intro n
    induction n with
    | zero =>
      intro ps hp k
      obtain rfl := List.eq_nil_of_length_eq_zero hp
      have := cntMod_le l s k
      show -(64 * 2 ^ 0) ≤ ((cntMod l s k : Nat) : Int) ∧ ((cntMod l s k : Nat) : Int) ≤ 64 * 2 ^ 0
      omega
    | succ n ih =>
      intro ps hp k
      obtain ⟨qs, q, rfl⟩ : ∃ qs q, ps = qs ++ [q] := ⟨ps.dropLast, ps.getLast (by intro e; rw [e] at hp; cases hp), (List.dropLast_concat_getLast _).symm⟩
      rw [List.length_append, List.length_singleton] at hp
      have h1 := ih qs (by omega) k
      have h2 := ih qs (by omega) ((k + s - s / q) % s)
      rw [prodF_snoc, List.length_append, List.length_singleton, Int.pow_succ]
      unfold mulF
      generalize (2 : Int) ^ qs.length = e at *
      omega
  exact key _ ps rfl

/-- A product in the making: the first k places have been taken away. -/
def partF (p s : Nat) (F : Nat → Int) (k : Nat) : Nat → Int := fun j => if (j + s - s / p) % s < k then F j - F ((j + s - s / p) % s) else F j
theorem partF_zero (p s : Nat) (F : Nat → Int) : partF p s F 0 = F := by funext j; unfold partF; rw [if_neg (Nat.not_lt_zero _)]
theorem partF_full {p s : Nat} (F : Nat → Int) (hs : 0 < s) : partF p s F s = mulF p s F := by funext j; unfold partF mulF; rw [if_pos (Nat.mod_lt _ hs)]
theorem back_mod {s r j k : Nat} (hr : r ≤ s) (hj : j < s) (hk : k < s) : (j + s - r) % s = k ↔ (k + r) % s = j := by
  have a : (j + s - r) % s = if j < r then j + s - r else j - r := by
    split
    · exact Nat.mod_eq_of_lt (by omega)
    · rw [show j + s - r = (j - r) + s by omega, Nat.add_mod_right, Nat.mod_eq_of_lt (by omega)]
  have b : (k + r) % s = if k + r < s then k + r else k + r - s := by
    split
    · exact Nat.mod_eq_of_lt (by omega)
    · rw [Nat.mod_eq_sub_mod (by omega), Nat.mod_eq_of_lt (by omega)]
  rw [a, b]; split <;> split <;> omega
theorem partF_succ {p s : Nat} (F : Nat → Int) {k j : Nat} (hk : k < s) (hj : j < s) (h0 : 0 < s / p) : partF p s F (k + 1) j = if (k + s / p) % s = j then partF p s F k j - F k else partF p s F k j := by
  have hr : s / p ≤ s := Nat.div_le_self _ _
  have hb := back_mod hr hj hk
  unfold partF
  by_cases h : (j + s - s / p) % s = k
  · rw [if_pos (hb.1 h), if_pos (by omega), if_neg (by omega), h]
  · rw [if_neg (fun e => h (hb.2 e))]
    by_cases h2 : (j + s - s / p) % s < k
    · rw [if_pos (by omega), if_pos h2]
    · rw [if_neg (by omega), if_neg h2]
theorem partF_same {p s : Nat} (F : Nat → Int) {k : Nat} (hk : k < s) : partF p s F k ((k + s / p) % s) = F ((k + s / p) % s) := by
  have hr : s / p ≤ s := Nat.div_le_self _ _
  have := (back_mod (j := (k + s / p) % s) hr (Nat.mod_lt _ (by omega)) hk).2 rfl
  unfold partF
  rw [this, if_neg (Nat.lt_irrefl _)]

/-- Whether a number is a root, as the program reckons it. -/
def rootB (a s : Nat) : Bool := (List.range s).all fun k => prodF (tonesL a) s (primesL s) k == 0

/-- The roots among the powers of p, and the others. -/
def rootsP (n a p : Nat) : List Nat := (powsN n p).filter (rootB a)
def othersP (n a p : Nat) : List Nat := (powsN n p).filter fun s => !rootB a s

/-- A row of cells. -/
def zrow (F : Nat → Int) (s : Nat) : List Value := (List.range s).map fun k => .int .i64 (F k)
theorem zrow_length (F : Nat → Int) (s : Nat) : (zrow F s).length = s := by simp [zrow]
theorem zrow_at {F : Nat → Int} {s k : Nat} (h : k < s) : (zrow F s)[k]? = some (.int .i64 (F k)) := by simp [zrow, h]
theorem zrow_congr {F G : Nat → Int} {s : Nat} (h : ∀ k, k < s → F k = G k) : zrow F s = zrow G s := by
  unfold zrow
  apply List.map_congr_left
  intro k hk; rw [h k (List.mem_range.1 hk)]
theorem zrow_set {F G : Nat → Int} {s j : Nat} {v : Int} (hj : j < s) (h1 : G j = v) (h2 : ∀ k, k < s → k ≠ j → G k = F k) : (zrow F s).set j (.int .i64 v) = zrow G s := by
  apply List.ext_getElem?
  intro i
  by_cases hi : i < s
  · rw [zrow_at hi]
    by_cases e : j = i
    · subst e; rw [List.getElem?_set_self (by rw [zrow_length]; exact hj), h1]
    · rw [List.getElem?_set_ne e, zrow_at hi, h2 i hi (fun x => e x.symm)]
  · rw [List.getElem?_eq_none (by rw [List.length_set, zrow_length]; omega), List.getElem?_eq_none (by rw [zrow_length]; omega)]

/-! ### the conditions -/
theorem pows_len_chk : ((List.range 25).all fun n => (List.range 25).all fun p => decide (1 ≤ n → 2 ≤ p → (powsN n p).length ≤ 4 ∧ p ^ (powsN n p).length ≤ 24 ∧ ((powsN n p).all fun s => decide (2 ≤ s ∧ s ≤ n ∧ n % s = 0)) = true)) = true := by decide +kernel
theorem pows_len {n p : Nat} (h1 : 1 ≤ n) (h2 : n ≤ 24) (h3 : 2 ≤ p) (h4 : p ≤ 24) : (powsN n p).length ≤ 4 ∧ p ^ (powsN n p).length ≤ 24 ∧ ∀ s, s ∈ powsN n p → 2 ≤ s ∧ s ≤ n ∧ n % s = 0 := by
  have := List.all_eq_true.1 pows_len_chk n (List.mem_range.2 (by omega))
  have := List.all_eq_true.1 this p (List.mem_range.2 (by omega))
  obtain ⟨a, b, c⟩ := of_decide_eq_true this h1 h3
  exact ⟨a, b, fun s hs => of_decide_eq_true (List.all_eq_true.1 c s hs)⟩
theorem roots_le (n a p : Nat) : (rootsP n a p).length ≤ (powsN n p).length := List.length_filter_le _ _
theorem roots_mem {n a p s : Nat} (h : s ∈ rootsP n a p) : s ∈ powsN n p := (List.mem_filter.1 h).1
theorem others_le (n a p : Nat) : (othersP n a p).length ≤ (powsN n p).length := List.length_filter_le _ _
theorem others_mem {n a p s : Nat} (h : s ∈ othersP n a p) : s ∈ powsN n p := (List.mem_filter.1 h).1
theorem pow_le_of {p i j m : Nat} (h : i ≤ j) (hp : 2 ≤ p) (hm : p ^ j ≤ m) : p ^ i ≤ m := Nat.le_trans (Nat.pow_le_pow_right (by omega) h) hm

/-- The product of the first condition. -/
def fstTo (n a : Nat) (ps : List Nat) : Nat := ps.foldl (fun m p => m * p ^ (rootsP n a p).length) 1
theorem fstTo_snoc (n a : Nat) (ps : List Nat) (p : Nat) : fstTo n a (ps ++ [p]) = fstTo n a ps * p ^ (rootsP n a p).length := by unfold fstTo; rw [List.foldl_append]; rfl
def firstB (n a : Nat) : Bool := fstTo n a (primesL n) == cardN n a
theorem fstTo_bd {n a : Nat} (h1 : 1 ≤ n) (h2 : n ≤ 24) : ∀ (k : Nat) (ps : List Nat), ps.length = k → (∀ p ∈ ps, 2 ≤ p ∧ p ≤ 24) → fstTo n a ps ≤ 24 ^ k
  | 0, ps, hk, _ => by obtain rfl := List.eq_nil_of_length_eq_zero hk; exact Nat.le_refl _
  | k + 1, ps, hk, hp => by
    obtain ⟨qs, q, rfl⟩ : ∃ qs q, ps = qs ++ [q] := ⟨ps.dropLast, ps.getLast (by intro e; rw [e] at hk; cases hk), (List.dropLast_concat_getLast _).symm⟩
    rw [List.length_append, List.length_singleton] at hk
    have ih := fstTo_bd (a := a) h1 h2 k qs (by omega) (fun p h => hp p (by simp [h]))
    obtain ⟨q1, q2⟩ := hp q (by simp)
    obtain ⟨_, l2, _⟩ := pows_len h1 h2 q1 q2
    rw [fstTo_snoc, Nat.pow_succ]
    exact Nat.mul_le_mul ih (pow_le_of (roots_le n a q) q1 l2)

/-- The products of the second condition. -/
def growL (L R : List Nat) : List Nat := L ++ R.flatMap fun r => L.map (· * r)
def sndTo (n a : Nat) (ps : List Nat) : List Nat := ps.foldl (fun L p => growL L (rootsP n a p)) [1]
def sndAll (n : Nat) (ps : List Nat) : List Nat := ps.foldl (fun L p => growL L (powsN n p)) [1]
def secondB (n a : Nat) : Bool := (sndTo n a (primesL n)).all fun x => x == 1 || rootB a x
theorem sndTo_snoc (n a : Nat) (ps : List Nat) (p : Nat) : sndTo n a (ps ++ [p]) = growL (sndTo n a ps) (rootsP n a p) := by unfold sndTo; rw [List.foldl_append]; rfl
theorem sndAll_snoc (n : Nat) (ps : List Nat) (p : Nat) : sndAll n (ps ++ [p]) = growL (sndAll n ps) (powsN n p) := by unfold sndAll; rw [List.foldl_append]; rfl
theorem mem_growL {L R : List Nat} {x : Nat} : x ∈ growL L R ↔ x ∈ L ∨ ∃ r, r ∈ R ∧ ∃ e, e ∈ L ∧ e * r = x := by
  unfold growL
  rw [List.mem_append, List.mem_flatMap]
  constructor
  · rintro (h | ⟨r, hr, h⟩)
    · exact .inl h
    · exact .inr ⟨r, hr, by obtain ⟨e, he, h⟩ := List.mem_map.1 h; exact ⟨e, he, h⟩⟩
  · rintro (h | ⟨r, hr, e, he, h⟩)
    · exact .inl h
    · exact .inr ⟨r, hr, List.mem_map.2 ⟨e, he, h⟩⟩
theorem growL_length (L R : List Nat) : (growL L R).length = L.length + R.length * L.length := by
  unfold growL
  rw [List.length_append]
  congr 1
  induction R with
  | nil => simp
  | cons r R ih => rw [List.flatMap_cons, List.length_append, ih, List.length_map, List.length_cons, Nat.succ_mul]; omega
theorem snd_sub {n a : Nat} : ∀ (k : Nat) (ps : List Nat), ps.length = k → (∀ x, x ∈ sndTo n a ps → x ∈ sndAll n ps) ∧ (sndTo n a ps).length ≤ (sndAll n ps).length
  | 0, ps, hk => by obtain rfl := List.eq_nil_of_length_eq_zero hk; exact ⟨fun x h => h, Nat.le_refl _⟩
  | k + 1, ps, hk => by
    obtain ⟨qs, q, rfl⟩ : ∃ qs q, ps = qs ++ [q] := ⟨ps.dropLast, ps.getLast (by intro e; rw [e] at hk; cases hk), (List.dropLast_concat_getLast _).symm⟩
    rw [List.length_append, List.length_singleton] at hk
    obtain ⟨ih1, ih2⟩ := snd_sub (n := n) (a := a) k qs (by omega)
    rw [sndTo_snoc, sndAll_snoc]
    refine ⟨fun x hx => ?_, ?_⟩
    · rcases mem_growL.1 hx with h | ⟨r, hr, e, he, h⟩
      · exact mem_growL.2 (.inl (ih1 x h))
      · exact mem_growL.2 (.inr ⟨r, roots_mem hr, e, ih1 e he, h⟩)
    · rw [growL_length, growL_length]
      exact Nat.add_le_add ih2 (Nat.mul_le_mul (roots_le n a q) ih2)
theorem snd_mono {n a x : Nat} (ps qs : List Nat) (h : x ∈ sndTo n a ps) : x ∈ sndTo n a (ps ++ qs) := by
  induction qs generalizing ps with
  | nil => rwa [List.append_nil]
  | cons q qs ih =>
    rw [show ps ++ q :: qs = (ps ++ [q]) ++ qs by simp]
    apply ih
    rw [sndTo_snoc]
    exact mem_growL.2 (.inl h)
theorem snd_chk : ((List.range 25).all fun n => (List.range 4).all fun j => decide (1 ≤ n → (sndAll n ((primesL n).take j)).length ≤ 24 ∧
    ((sndAll n ((primesL n).take j)).all fun e => decide (1 ≤ e ∧ e ≤ 24) && (powsN n ((primesL n)[j]?.getD 2)).all fun r => decide (j < (primesL n).length → 2 ≤ e * r ∧ e * r ≤ 24)) = true)) = true := by decide +kernel
theorem snd_all {n a j e r : Nat} (h1 : 1 ≤ n) (h2 : n ≤ 24) (hj : j < 4) (he : e ∈ sndTo n a ((primesL n).take j)) : 1 ≤ e ∧ e ≤ 24 ∧ (j < (primesL n).length → r ∈ rootsP n a ((primesL n)[j]?.getD 2) → 2 ≤ e * r ∧ e * r ≤ 24) := by
  have := List.all_eq_true.1 snd_chk n (List.mem_range.2 (by omega))
  have := List.all_eq_true.1 this j (List.mem_range.2 hj)
  have := (of_decide_eq_true this h1).2
  have := List.all_eq_true.1 this e ((snd_sub _ _ rfl).1 e he)
  rw [Bool.and_eq_true] at this
  obtain ⟨a1, a2⟩ := this
  have a1 := of_decide_eq_true a1
  exact ⟨a1.1, a1.2, fun hl hr => of_decide_eq_true (List.all_eq_true.1 a2 r (roots_mem hr)) hl⟩
theorem snd_len {n a j : Nat} (h1 : 1 ≤ n) (h2 : n ≤ 24) (hj : j < 4) : (sndTo n a ((primesL n).take j)).length ≤ 24 := by
  have := List.all_eq_true.1 snd_chk n (List.mem_range.2 (by omega))
  have := List.all_eq_true.1 this j (List.mem_range.2 hj)
  exact Nat.le_trans (snd_sub _ _ rfl).2 (of_decide_eq_true this h1).1

/-- The list while one prime is at work: q roots are done, and m products of the next one. -/
def partS (E R : List Nat) (q m : Nat) : List Nat := E ++ ((R.take q).flatMap fun r => E.map (· * r)) ++ (E.take m).map (· * (R[q]?.getD 1))
theorem partS_zero (E R : List Nat) : partS E R 0 0 = E := by unfold partS; simp
theorem partS_full {E R : List Nat} {q : Nat} (hq : q < R.length) : partS E R q E.length = partS E R (q + 1) 0 := by
  unfold partS
  rw [List.take_of_length_le (Nat.le_refl _), List.take_zero, List.map_nil, List.append_nil, List.take_succ_eq_append_getElem hq, List.flatMap_append, List.append_assoc]
  congr 2
  rw [List.getElem?_eq_getElem hq]; simp
theorem partS_end (E R : List Nat) : partS E R R.length 0 = growL E R := by unfold partS growL; simp
theorem partS_succ {E R : List Nat} {q m : Nat} (hm : m < E.length) : partS E R q (m + 1) = partS E R q m ++ [(E[m]?.getD 0) * (R[q]?.getD 1)] := by
  unfold partS
  rw [List.take_succ_eq_append_getElem hm, List.map_append, ← List.append_assoc, List.getElem?_eq_getElem hm]; rfl
theorem partS_len {E R : List Nat} {q m : Nat} (hq : q < R.length) (hm : m ≤ E.length) : (partS E R q m).length ≤ (growL E R).length := by
  have h1 : (partS E R q m).length = E.length + q * E.length + m := by
    unfold partS
    rw [List.length_append, List.length_append, List.length_map, List.length_take, Nat.min_eq_left hm]
    congr 2
    have := growL_length E (R.take q)
    unfold growL at this
    rw [List.length_append, List.length_take, Nat.min_eq_left (by omega)] at this
    omega
  rw [h1, growL_length]
  have := Nat.mul_le_mul_right E.length hq
  rw [Nat.succ_mul] at this
  omega
theorem partS_pre (E R : List Nat) (q m : Nat) : ∃ T, partS E R q m = E ++ T := ⟨_, List.append_assoc _ _ _⟩

/-! ### the partner that is built -/
def shB (n p s j : Nat) : Nat := j * (s / p) * strip n p
def stpB (n p s B j : Nat) : Nat := (List.range j).foldl (fun X i => X ||| mvN n B (shB n p s i)) B
theorem stpB_succ (n p s B j : Nat) : stpB n p s B (j + 1) = stpB n p s B j ||| mvN n B (shB n p s j) := by unfold stpB; rw [List.range_succ, List.foldl_append]; rfl
theorem stpB_lt {n p s B : Nat} (hB : B < 2 ^ n) : ∀ j, stpB n p s B j < 2 ^ n
  | 0 => hB
  | j + 1 => by rw [stpB_succ]; exact Nat.or_lt_two_pow (stpB_lt hB j) mv_lt
def bldTo (n p : Nat) (B : Nat) (S : List Nat) : Nat := S.foldl (fun B s => stpB n p s B p) B
theorem bldTo_snoc (n p B : Nat) (S : List Nat) (s : Nat) : bldTo n p B (S ++ [s]) = stpB n p s (bldTo n p B S) p := by unfold bldTo; rw [List.foldl_append]; rfl
theorem bldTo_lt {n p B : Nat} (hB : B < 2 ^ n) (S : List Nat) : bldTo n p B S < 2 ^ n := by
  induction S generalizing B with
  | nil => exact hB
  | cons s S ih => exact ih (stpB_lt hB p)
def buildTo (n a : Nat) (ps : List Nat) : Nat := ps.foldl (fun B p => bldTo n p B (othersP n a p)) 1
def buildN (n a : Nat) : Nat := buildTo n a (primesL n)
theorem buildTo_snoc (n a : Nat) (ps : List Nat) (p : Nat) : buildTo n a (ps ++ [p]) = bldTo n p (buildTo n a ps) (othersP n a p) := by unfold buildTo; rw [List.foldl_append]; rfl
theorem buildTo_lt {n a : Nat} (hn : 1 ≤ n) : ∀ (k : Nat) (ps : List Nat), ps.length = k → buildTo n a ps < 2 ^ n
  | 0, ps, hk => by
    obtain rfl := List.eq_nil_of_length_eq_zero hk
    show 1 < 2 ^ n
    exact Nat.one_lt_two_pow (by omega)
  | k + 1, ps, hk => by
    obtain ⟨qs, q, rfl⟩ : ∃ qs q, ps = qs ++ [q] := ⟨ps.dropLast, ps.getLast (by intro e; rw [e] at hk; cases hk), (List.dropLast_concat_getLast _).symm⟩
    rw [List.length_append, List.length_singleton] at hk
    rw [buildTo_snoc]
    exact bldTo_lt (buildTo_lt hn k qs (by omega)) _
theorem sh_chk : ((List.range 25).all fun n => (primesL n).all fun p => (powsN n p).all fun s => (List.range p).all fun j => decide (1 ≤ n → shB n p s j < n ∧ j * (s / p) ≤ 576)) = true := by decide +kernel
theorem sh_all {n p s j : Nat} (h1 : 1 ≤ n) (h2 : n ≤ 24) (hp : p ∈ primesL n) (hs : s ∈ powsN n p) (hj : j < p) : shB n p s j < n ∧ j * (s / p) ≤ 576 := by
  have := List.all_eq_true.1 sh_chk n (List.mem_range.2 (by omega))
  have := List.all_eq_true.1 this p hp
  have := List.all_eq_true.1 this s hs
  have := List.all_eq_true.1 this j (List.mem_range.2 hj)
  exact of_decide_eq_true this h1
end Go.Proofs.YthnenhfdojpobaaDoor
