/-
  Two rhythms that fill a circle of p^a times m beats, the first of a power of p beats: one of them repeats. Plain mathematics.
-/
import Derived.Test.YthnenhfdojpobaaDoorDomain2
import Derived.Test.YthnenhfdojpobaaDoorCaTurnMath
namespace Go.Proofs.YthnenhfdojpobaaDoor

/-! ### multiplied, once more: only the number of beats counts -/

theorem tile_primeL {n p : Nat} {h : Nat → Nat} {l : List Nat} (hn : 1 ≤ n) (hp : Prm p) (hpl : ¬ p ∣ l.length) (hh : Peri n h) (ht : ∀ i, act l h i = 1) : ∀ i, act (l.map (p * ·)) h i = 1 := by
  have htot := act_total hn hh l
  rw [sum_congr (g := fun _ => 1) (fun i _ => ht i), sum_const, Nat.mul_one] at htot
  obtain ⟨m, hm⟩ : ∃ m, p = m + 1 := ⟨p - 1, by have := hp.1; omega⟩
  have hpow : ∀ i, itN l p h i = l.length ^ m := fun i => by
    rw [hm, itN_tail, show act l h = fun _ => 1 from funext ht, itN_const, Nat.mul_one]
  have hpos : ∀ i, 1 ≤ act (l.map (p * ·)) h i := fun i => by
    rcases Nat.eq_zero_or_pos (act (l.map (p * ·)) h i) with e | e
    · exfalso
      have f := frob hp h l i
      rw [e, hpow, Nat.zero_mod] at f
      exact hpl (hp.pow m (Nat.dvd_of_mod_eq_zero f))
    · exact e
  have htot2 := act_total hn hh (l.map (p * ·))
  rw [List.length_map, ← htot] at htot2
  have h1 := sum_all_one (n := n) (f := act (l.map (p * ·)) h) (fun i _ => hpos i) htot2
  intro i
  rw [← (hh.act _).mod i]
  exact h1 _ (Nat.mod_lt _ (by omega))

theorem tile_timesL {n : Nat} {h : Nat → Nat} {l : List Nat} (hn : 1 ≤ n) (hh : Peri n h) (ht : ∀ i, act l h i = 1) (m : Nat) : 1 ≤ m → Nat.gcd m l.length = 1 → ∀ i, act (l.map (m * ·)) h i = 1 := by
  induction m using Nat.strongRecOn with
  | ind m ih =>
    intro hm hg
    by_cases h1 : m = 1
    · subst h1
      intro i
      rw [show l.map (1 * ·) = l from by simp]
      exact ht i
    · obtain ⟨p, q, hp, e⟩ := prm_factor m (by omega)
      have hp2 := hp.1
      have hq1 : 1 ≤ q := by
        rcases Nat.eq_zero_or_pos q with e2 | e2
        · rw [e2, Nat.mul_zero] at e; omega
        · exact e2
      have hqm : q < m := by
        have := Nat.mul_le_mul_right q hp2
        omega
      have hgq : Nat.gcd q l.length = 1 := Nat.Coprime.coprime_dvd_left ⟨p, by rw [e, Nat.mul_comm]⟩ hg
      have hpn : ¬ p ∣ (l.map (q * ·)).length := fun hd => by
        rw [List.length_map] at hd
        have h3 : p ∣ Nat.gcd m l.length := Nat.dvd_gcd ⟨q, e⟩ hd
        rw [hg, Nat.dvd_one] at h3
        omega
      have h2 := tile_primeL hn hp hpn hh (ih q hqm hq1 hgq)
      intro i
      rw [show l.map (m * ·) = (l.map (q * ·)).map (p * ·) from by rw [List.map_map]; exact List.map_congr_left (fun x _ => by show m * x = p * (q * x); rw [e, Nat.mul_assoc])]
      exact h2 i

/-! ### sums over a list, by classes -/

def lsum : List Nat → (Nat → Int) → Int
  | [], _ => 0
  | x :: l, G => G x + lsum l G
theorem lsum_congr {l : List Nat} {G H : Nat → Int} (h : ∀ x, G x = H x) : lsum l G = lsum l H := by rw [show G = H from funext h]
theorem act_lsum (l : List Nat) (t : Nat) (h : Nat → Nat) (i : Nat) : ((act (l.map (t * ·)) h i : Nat) : Int) = lsum l (fun x => (h (i + t * x) : Int)) := by
  induction l with
  | nil => rfl
  | cons x l ih =>
    show ((h (i + t * x) + act (l.map (t * ·)) h i : Nat) : Int) = (h (i + t * x) : Int) + lsum l _
    rw [← ih]; omega

theorem sumZ_single {n j : Nat} (hj : j < n) (f : Nat → Int) : sumZ n (fun i => if i = j then f i else 0) = f j := by
  induction n with
  | zero => omega
  | succ n ih =>
    simp only [sumZ]
    by_cases h : j < n
    · rw [ih h, if_neg (by omega)]; omega
    · have e : n = j := by omega
      rw [sumZ_congr (g := fun _ => 0) (fun i hi => if_neg (by omega)), sumZ_zero, if_pos e, e]; omega
theorem sumZ_perm (n : Nat) (s t : Nat → Nat) (hs : ∀ i, i < n → s i < n) (ht : ∀ j, j < n → t j < n) (h1 : ∀ i, i < n → t (s i) = i) (h2 : ∀ j, j < n → s (t j) = j) (f : Nat → Int) :
    sumZ n (fun i => f (s i)) = sumZ n f := by
  have e1 : sumZ n (fun i => f (s i)) = sumZ n (fun i => sumZ n (fun j => if j = s i then f j else 0)) :=
    sumZ_congr (fun i hi => by rw [sumZ_single (hs i hi)])
  rw [e1, sumZ_swap]
  refine sumZ_congr (fun j hj => ?_)
  have e2 : sumZ n (fun i => if j = s i then f j else 0) = sumZ n (fun i => if i = t j then f j else 0) :=
    sumZ_congr (fun i hi => by
      by_cases h : j = s i
      · rw [if_pos h, if_pos (by rw [h, h1 i hi])]
      · rw [if_neg h, if_neg (fun e => h (by rw [e, h2 j hj]))])
  rw [e2, sumZ_single (ht j hj) (fun _ => f j)]

/-- How many of a list are j modulo N and v modulo m. -/
def alph (N m : Nat) : List Nat → Nat → Nat → Int
  | [], _, _ => 0
  | x :: l, v, j => (if x % N = j % N ∧ x % m = v % m then 1 else 0) + alph N m l v j
theorem alph_mod {N m : Nat} (l : List Nat) {v v' j j' : Nat} (hv : v % m = v' % m) (hj : j % N = j' % N) : alph N m l v j = alph N m l v' j' := by
  induction l with
  | nil => rfl
  | cons x l ih => simp only [alph]; rw [ih, hv, hj]
theorem alph_pos {N m : Nat} (l : List Nat) (v j : Nat) : 0 ≤ alph N m l v j := by
  induction l with
  | nil => exact Int.le_refl 0
  | cons x l ih => simp only [alph]; split <;> omega
theorem alph_mem {N m : Nat} {l : List Nat} {v j : Nat} : 1 ≤ alph N m l v j ↔ ∃ x ∈ l, x % N = j % N ∧ x % m = v % m := by
  induction l with
  | nil => simp [alph]
  | cons x l ih =>
    have h0 := alph_pos (N := N) (m := m) l v j
    simp only [alph]
    by_cases h : x % N = j % N ∧ x % m = v % m
    · rw [if_pos h]
      exact ⟨fun _ => ⟨x, List.mem_cons_self .., h⟩, fun _ => by omega⟩
    · rw [if_neg h, Int.zero_add, ih]
      constructor
      · rintro ⟨y, hy, e⟩; exact ⟨y, List.mem_cons_of_mem _ hy, e⟩
      · rintro ⟨y, hy, e⟩
        rcases List.mem_cons.1 hy with rfl | hy
        · exact absurd e h
        · exact ⟨y, hy, e⟩

theorem grid {N m : Nat} (hN : 1 ≤ N) (hm : 1 ≤ m) (G : Nat → Nat → Int) (l : List Nat) : lsum l (fun x => G (x % N) (x % m)) = sumZ m (fun v => sumZ N (fun j => alph N m l v j * G j v)) := by
  induction l with
  | nil =>
    show (0 : Int) = _
    rw [sumZ_congr (g := fun _ => 0) (fun v _ => by rw [sumZ_congr (g := fun _ => 0) (fun j _ => by simp [alph])]; exact sumZ_zero N), sumZ_zero]
  | cons x l ih =>
    show G (x % N) (x % m) + lsum l _ = _
    rw [ih]
    have hxN : x % N < N := Nat.mod_lt _ (by omega)
    have hxm : x % m < m := Nat.mod_lt _ (by omega)
    have e1 : sumZ m (fun v => sumZ N (fun j => (if x % N = j % N ∧ x % m = v % m then 1 else 0) * G j v)) = G (x % N) (x % m) := by
      rw [← sumZ_single hxm (fun v => G (x % N) v)]
      refine sumZ_congr (fun v hv => ?_)
      by_cases h : v = x % m
      · rw [if_pos h, ← sumZ_single hxN (fun j => G j v)]
        refine sumZ_congr (fun j hj => ?_)
        rw [Nat.mod_eq_of_lt hj, Nat.mod_eq_of_lt hv]
        by_cases h2 : j = x % N
        · rw [if_pos h2, if_pos ⟨h2.symm, h.symm⟩, Int.one_mul]
        · rw [if_neg h2, if_neg (fun e => h2 e.1.symm), Int.zero_mul]
      · rw [if_neg h, sumZ_congr (g := fun _ => 0) (fun j _ => by rw [Nat.mod_eq_of_lt hv, if_neg (fun e => h e.2.symm), Int.zero_mul]), sumZ_zero]
    rw [← e1, ← sumZ_add]
    refine sumZ_congr (fun v _ => ?_)
    rw [← sumZ_add]
    refine sumZ_congr (fun j _ => ?_)
    simp only [alph]
    rw [Int.add_mul]

theorem cor_sumZ {N k : Nat} (f : Nat → Int) (F : Nat → Nat → Int) (i : Nat) : corZ N f (fun j => sumZ k (fun t => F t j)) i = sumZ k (fun t => corZ N f (F t) i) := by
  unfold corZ
  rw [sumZ_swap]
  exact sumZ_congr (fun j _ => (sumZ_mul k (f j) (fun t => F t (i + j))).symm)
theorem cor_sub {N : Nat} (f g h : Nat → Int) (i : Nat) : corZ N f (fun j => g j - h j) i = corZ N f g i - corZ N f h i := by
  unfold corZ
  rw [← sumZ_sub]
  exact sumZ_congr (fun j _ => Int.mul_sub _ _ _)
theorem cor_congr {N : Nat} {f g h : Nat → Int} (e : ∀ j, g j = h j) (i : Nat) : corZ N f g i = corZ N f h i := by rw [show g = h from funext e]

end Go.Proofs.YthnenhfdojpobaaDoor
