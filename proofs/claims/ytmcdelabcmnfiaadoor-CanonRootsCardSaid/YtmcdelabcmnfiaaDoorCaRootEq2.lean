/-
  A number is a root by division exactly if it is one as the program reckons. Plain mathematics.
-/
import Derived.Test.YtmcdelabcmnfiaaDoorCaRootEq
import Derived.Test.YtmcdelabcmnfiaaDoorCaCyc
namespace Go.Proofs.YtmcdelabcmnfiaaDoor

def bitF (a : Nat) : Nat → Int := fun j => if a.testBit j = true then 1 else 0
def linF (s n : Nat) (F : Nat → Int) (i : Nat) : Int := sumZ n fun k => F k * remF s k i

theorem rem_all {s : Nat} (h1 : 2 ≤ s) (h2 : s ≤ 24) : 1 ≤ topC s ∧ topC s < s ∧ (undT s).1 ≠ 0 ∧
    (∀ b, b + topC s < 24 → ∀ i, i < topC s → sumZ (topC s + 1) (fun j => cycF s j * remF s (b + j) i) = 0) ∧
    (∀ k, k < topC s → ∀ i, i < topC s → remF s k i = if k = i then 1 else 0) ∧ ∀ x, x < 24 → ∀ i, i < topC s → remF s x i = remF s (x % s) i := by
  have := List.all_eq_true.1 rem_chk s (List.mem_range.2 (by omega))
  obtain ⟨a, b, c, d, e, f⟩ := of_decide_eq_true this h1
  refine ⟨a, b, c, fun x hx i hi => ?_, fun k hk i hi => ?_, fun x hx i hi => ?_⟩
  · have := of_decide_eq_true (List.all_eq_true.1 d x (List.mem_range.2 (by omega))) hx
    simpa using List.all_eq_true.1 this i (List.mem_range.2 hi)
  · have := List.all_eq_true.1 e k (List.mem_range.2 hk)
    simpa using List.all_eq_true.1 this i (List.mem_range.2 hi)
  · have := List.all_eq_true.1 f x (List.mem_range.2 hx)
    simpa using List.all_eq_true.1 this i (List.mem_range.2 hi)
theorem und_all {s : Nat} (h1 : 2 ≤ s) (h2 : s ≤ 24) : (∀ r, r < s → ∀ k, k < s → prodD s r k = sumZ (topC s) (fun i => remF s r i * prodD s i k)) ∧
    ∀ i, i < topC s → ∀ j, j < topC s → sumZ s (fun k => undF s i k * prodD s j k) = if i = j then (undT s).1 else 0 := by
  have := List.all_eq_true.1 und_chk s (List.mem_range.2 (by omega))
  obtain ⟨a, b⟩ := of_decide_eq_true this h1
  refine ⟨fun r hr k hk => ?_, fun i hi j hj => ?_⟩
  · have := List.all_eq_true.1 a r (List.mem_range.2 hr)
    simpa using List.all_eq_true.1 this k (List.mem_range.2 hk)
  · have := List.all_eq_true.1 b i (List.mem_range.2 hi)
    simpa using List.all_eq_true.1 this j (List.mem_range.2 hj)

theorem sum_window (n b L : Nat) (h : b + L ≤ n) (f : Nat → Int) : sumZ n (fun j => if b ≤ j ∧ j < b + L then f j else 0) = sumZ L (fun j => f (b + j)) := by
  obtain ⟨r, rfl⟩ : ∃ r, n = b + (L + r) := ⟨n - b - L, by omega⟩
  rw [sumZ_split, sumZ_split]
  rw [sumZ_congr (n := b) (g := fun _ => 0) (fun i hi => by rw [if_neg (by omega)]), sumZ_zero]
  rw [sumZ_congr (n := r) (g := fun _ => 0) (fun i hi => by rw [if_neg (by omega)]), sumZ_zero]
  rw [Int.zero_add, Int.add_zero]
  exact sumZ_congr (fun i hi => by rw [if_pos (by omega)])

theorem lin_step {s n : Nat} (h1 : 2 ≤ s) (h2 : s ≤ 24) (hn : n ≤ 24) (F : Nat → Int) {t : Nat} (ht : t + topC s < n) {i : Nat} (hi : i < topC s) :
    linF s n (rsN F (cycF s) n (topC s) (t + 1)) i = linF s n (rsN F (cycF s) n (topC s) t) i := by
  obtain ⟨a1, a2, a3, a4, a5, a6⟩ := rem_all h1 h2
  obtain ⟨b, hb⟩ : ∃ b, n - 1 - t - topC s = b := ⟨_, rfl⟩
  have hk : n - 1 - t = b + topC s := by omega
  unfold linF
  have e : sumZ n (fun k => rsN F (cycF s) n (topC s) (t + 1) k * remF s k i) = sumZ n (fun k => rsN F (cycF s) n (topC s) t k * remF s k i - rsN F (cycF s) n (topC s) t (b + topC s) * (if b ≤ k ∧ k < b + (topC s + 1) then cycF s (k - b) * remF s k i else 0)) := sumZ_congr (fun k hk2 => by
    rw [rsN_succ, hb, hk]
    by_cases h : b ≤ k ∧ k ≤ b + topC s
    · rw [if_pos h, if_pos (by omega), Int.sub_mul, Int.mul_assoc]
    · rw [if_neg h, if_neg (by omega), Int.mul_zero, Int.sub_zero])
  have e2 : sumZ (topC s + 1) (fun j => cycF s (b + j - b) * remF s (b + j) i) = 0 := by
    rw [← a4 b (by omega) i hi]
    exact sumZ_congr (fun j _ => by rw [Nat.add_sub_cancel_left])
  rw [e, sumZ_sub, sumZ_mul, sum_window n b (topC s + 1) (by omega), e2, Int.mul_zero, Int.sub_zero]
theorem lin_all {s n : Nat} (h1 : 2 ≤ s) (h2 : s ≤ 24) (hn : n ≤ 24) (F : Nat → Int) {i : Nat} (hi : i < topC s) : ∀ t, t + topC s ≤ n → linF s n (rsN F (cycF s) n (topC s) t) i = linF s n F i
  | 0, _ => rfl
  | t + 1, ht => by rw [lin_step h1 h2 hn F (by omega) hi, lin_all h1 h2 hn F hi t (by omega)]

theorem rs_high {F G : Nat → Int} {m top : Nat} (hG : G top = 1) : ∀ t, t + top ≤ m → ∀ j, m - t ≤ j → j < m → rsN F G m top t j = 0
  | 0, _, j, h1, h2 => by omega
  | t + 1, ht, j, h1, h2 => by
    rw [rsN_succ]
    by_cases e : j = m - 1 - t
    · rw [if_pos (by omega), e, show m - 1 - t - (m - 1 - t - top) = top by omega, hG, Int.mul_one, Int.sub_self]
    · rw [if_neg (by omega)]
      exact rs_high hG t (by omega) j (by omega) h2

/-- Nothing is left exactly if the sums of what is left of the powers of x are 0. -/
theorem rs_lin {s n : Nat} (h1 : 2 ≤ s) (h2 : s ≤ 24) (hn : n ≤ 24) (hsn : s ≤ n) (F : Nat → Int) :
    (∀ j, j < n → rsN F (cycF s) n (topC s) (n - topC s) j = 0) ↔ ∀ i, i < topC s → linF s n F i = 0 := by
  obtain ⟨a1, a2, a3, a4, a5, a6⟩ := rem_all h1 h2
  have hG := (cyc_all (s := s) (by omega) h2).2.2.1
  have hz := rs_high (F := F) (G := cycF s) (m := n) (top := topC s) hG (n - topC s) (by omega)
  have hl : ∀ i, i < topC s → linF s n F i = rsN F (cycF s) n (topC s) (n - topC s) i := fun i hi => by
    rw [← lin_all h1 h2 hn F hi (n - topC s) (by omega)]
    generalize rsN F (cycF s) n (topC s) (n - topC s) = R at *
    unfold linF
    obtain ⟨r, hr⟩ : ∃ r, n = topC s + r := ⟨n - topC s, by omega⟩
    rw [hr, sumZ_split, sumZ_congr (n := r) (g := fun _ => 0) (fun k hk => by rw [hz _ (by omega) (by omega), Int.zero_mul]), sumZ_zero, Int.add_zero]
    have e : sumZ (topC s) (fun k => R k * remF s k i) = sumZ (topC s) (fun k => if i ≤ k ∧ k < i + 1 then R k else 0) := sumZ_congr (fun k hk => by
      rw [a5 k hk i hi]
      by_cases e : k = i
      · rw [if_pos e, if_pos (by omega), Int.mul_one]
      · rw [if_neg e, if_neg (by omega), Int.mul_zero])
    rw [e, sum_window _ _ _ (by omega)]
    simp [sumZ]
  constructor
  · intro h i hi; rw [hl i hi]; exact h i (by omega)
  · intro h j hj
    by_cases hjt : j < topC s
    · rw [← hl j hjt]; exact h j hjt
    · exact hz j (by omega) hj

theorem fold_sum (l : List Nat) (s : Nat) : ∀ (ps : List Nat) (f : Nat → Nat → Int), ps.foldl (fun F p => mulF p s F) (fun k => sumI l (fun x => f x k)) = fun k => sumI l (fun x => ps.foldl (fun F p => mulF p s F) (f x) k)
  | [], f => rfl
  | p :: ps, f => by
    simp only [List.foldl_cons]
    rw [← fold_sum l s ps (fun x => mulF p s (f x))]
    congr 1
    funext k
    unfold mulF
    rw [← sumI_sub]
theorem cnt_sumI (l : List Nat) (s k : Nat) : ((cntMod l s k : Nat) : Int) = sumI l (fun x => if x % s = k then 1 else 0) := by
  induction l with
  | nil => rfl
  | cons x l ih =>
    have e : cntMod (x :: l) s k = (if x % s = k then 1 else 0) + cntMod l s k := by
      unfold cntMod
      rw [List.filter_cons]
      by_cases h : x % s = k
      · simp [h]; omega
      · simp [h]
    rw [e]
    simp only [sumI]
    rw [← ih]
    by_cases h : x % s = k <;> simp [h]
theorem prodF_sum (l : List Nat) (s k : Nat) : prodF l s (primesL s) k = sumI l (fun x => prodD s (x % s) k) := by
  unfold prodF prodD
  have := fold_sum l s (primesL s) (fun x k => if x % s = k then 1 else 0)
  rw [show (fun k => ((cntMod l s k : Nat) : Int)) = fun k => sumI l (fun x => if x % s = k then 1 else 0) from funext (cnt_sumI l s), this]

theorem prod_lin {s n a : Nat} (h1 : 2 ≤ s) (h2 : s ≤ 24) (hn : n ≤ 24) (ha : a < 2 ^ n) {k : Nat} (hk : k < s) :
    prodF (tonesL a) s (primesL s) k = sumZ (topC s) (fun i => linF s n (bitF a) i * prodD s i k) := by
  obtain ⟨a1, a2, a3, a4, a5, a6⟩ := rem_all h1 h2
  obtain ⟨b1, b2⟩ := und_all h1 h2
  rw [prodF_sum, tonesL_eq a (by omega) ha]
  have e1 : sumI (tonesB n a) (fun x => prodD s (x % s) k) = sumI (tonesB n a) (fun x => sumZ (topC s) (fun i => remF s x i * prodD s i k)) := sumI_congr (fun x hx => by
    have hxn : x < n := List.mem_range.1 (List.mem_filter.1 hx).1
    rw [b1 _ (Nat.mod_lt _ (by omega)) k hk]
    exact sumZ_congr (fun i hi => by rw [a6 x (by omega) i hi]))
  rw [e1, sumI_swap]
  refine sumZ_congr (fun i hi => ?_)
  rw [sumI_mulr, sumI_tones]
  rfl

theorem root_eq {s n a : Nat} (h1 : 2 ≤ s) (hn : n ≤ 24) (hsn : s ≤ n) (ha : a < 2 ^ n) :
    (∀ j, j < n → rsN (bitF a) (cycF s) n (topC s) (n - topC s) j = 0) ↔ rootB a s = true := by
  have h2 : s ≤ 24 := by omega
  obtain ⟨a1, a2, a3, a4, a5, a6⟩ := rem_all h1 h2
  obtain ⟨b1, b2⟩ := und_all h1 h2
  rw [rs_lin h1 h2 hn hsn]
  have hp := fun k hk => prod_lin (a := a) h1 h2 hn ha (k := k) hk
  have hr : rootB a s = true ↔ ∀ k, k < s → prodF (tonesL a) s (primesL s) k = 0 := by
    unfold rootB
    rw [List.all_eq_true]
    exact ⟨fun h k hk => by simpa using h k (List.mem_range.2 hk), fun h k hk => by simpa using h k (List.mem_range.1 hk)⟩
  rw [hr]
  generalize linF s n (bitF a) = v at *
  constructor
  · intro h k hk
    rw [hp k hk, sumZ_congr (g := fun _ => 0) (fun i hi => by rw [h i hi, Int.zero_mul]), sumZ_zero]
  · intro h i hi
    have e0 : sumZ s (fun k => undF s i k * sumZ (topC s) (fun j => v j * prodD s j k)) = 0 := by
      rw [sumZ_congr (g := fun _ => 0) (fun k hk => by rw [← hp k hk, h k hk, Int.mul_zero]), sumZ_zero]
    have e1 : sumZ s (fun k => undF s i k * sumZ (topC s) (fun j => v j * prodD s j k)) = sumZ (topC s) (fun j => v j * sumZ s (fun k => undF s i k * prodD s j k)) := by
      rw [sumZ_congr (g := fun k => sumZ (topC s) (fun j => v j * (undF s i k * prodD s j k))) (fun k _ => by
        rw [← sumZ_mul]; exact sumZ_congr (fun j _ => by rw [Int.mul_left_comm])), sumZ_swap]
      exact sumZ_congr (fun j _ => by rw [sumZ_mul])
    rw [e1, sumZ_congr (g := fun j => if i ≤ j ∧ j < i + 1 then v j * (undT s).1 else 0) (fun j hj => by
      rw [b2 i hi j hj]
      by_cases e : i = j
      · rw [if_pos e, if_pos (by omega)]
      · rw [if_neg e, if_neg (by omega), Int.mul_zero]), sum_window _ _ _ (by omega)] at e0
    have e2 : v i * (undT s).1 = 0 := by simpa [sumZ] using e0
    rcases Int.mul_eq_zero.1 e2 with e | e
    · exact e
    · exact absurd e a3
end Go.Proofs.YtmcdelabcmnfiaaDoor
