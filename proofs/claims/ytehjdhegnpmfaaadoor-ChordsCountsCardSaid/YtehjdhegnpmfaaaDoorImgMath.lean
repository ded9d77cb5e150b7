/-
  The images of a chord: moves and turns compose; how many leave a chord as it is. Plain mathematics.
-/
import Derived.Test.YtehjdhegnpmfaaaDoorSumsMath
import Derived.Test.YtehjdhegnpmfaaaDoorPrimesLaw
import Derived.Test.YtehjdhegnpmfaaaDoorDeepFns
import Derived.Test.YtehjdhegnpmfaaaDoorWayFns
namespace Go.Proofs.YtehjdhegnpmfaaaDoor
open Go.RowKit

theorem testBit_turn {n c : Nat} (hn : 2 ≤ n) (hn2 : n ≤ 64) (hc : c < 2 ^ n) (i : Nat) : (mulN n c (-1)).testBit i = (decide (i < n) && c.testBit ((n - i) % n)) := by
  unfold mulN
  rw [testBit_orL, Bool.eq_iff_iff, Bool.and_eq_true, List.any_eq_true, decide_eq_true_eq]
  constructor
  · rintro ⟨t, ht, he⟩
    have ht2 := (mem_tonesL.1 ht).2
    have htn : t < n := bit_lt hc ht2
    rw [decide_eq_true_eq] at he
    by_cases h0 : t = 0
    · subst h0
      simp at he
      subst he
      exact ⟨by omega, by rw [Nat.sub_zero, Nat.mod_self]; exact ht2⟩
    · have e : ((t : Int) * -1) % n = (n : Int) - t := by
        rw [Int.mul_neg_one, ← Int.add_mul_emod_self_left (-(t : Int)) n 1, Int.emod_eq_of_lt (by omega) (by omega)]; omega
      rw [e] at he
      have hi : i = n - t := by omega
      subst hi
      exact ⟨by omega, by rw [show n - (n - t) = t from by omega, Nat.mod_eq_of_lt htn]; exact ht2⟩
  · rintro ⟨hi, hb⟩
    refine ⟨(n - i) % n, ?_, ?_⟩
    · refine mem_tonesL.2 ⟨?_, hb⟩
      have := Nat.mod_lt (n - i) (show 0 < n by omega)
      omega
    · rw [decide_eq_true_eq]
      by_cases h0 : i = 0
      · subst h0; simp
      · rw [Nat.mod_eq_of_lt (show n - i < n by omega)]
        have e : (((n - i : Nat) : Int) * -1) % n = (i : Int) := by
          rw [Int.mul_neg_one, ← Int.add_mul_emod_self_left (-((n - i : Nat) : Int)) n 1, Int.emod_eq_of_lt (by omega) (by omega)]; omega
        rw [e]; simp

theorem turn_lt {n c : Nat} (hn : 2 ≤ n) : mulN n c (-1) < 2 ^ n := mulN_lt16 hn

theorem mv_mv {n c u v : Nat} (hc : c < 2 ^ n) (hu : u < n) (hv : v < n) : mvN n (mvN n c u) v = mvN n c ((u + v) % n) := by
  apply Nat.eq_of_testBit_eq
  intro i
  rw [testBit_mv hv mv_lt, testBit_mv hu hc, testBit_mv (Nat.mod_lt _ (by omega)) hc]
  by_cases hi : i < n
  · rw [decide_eq_true hi, Bool.true_and, Bool.true_and, decide_eq_true (Nat.mod_lt _ (by omega)), Bool.true_and]
    congr 1
    have e1 := mod_two (x := i + n - v) (n := n) (by omega)
    have e2 := mod_two (x := u + v) (n := n) (by omega)
    have l1 := Nat.mod_lt (i + n - v) (show 0 < n by omega)
    have l2 := Nat.mod_lt (u + v) (show 0 < n by omega)
    generalize (i + n - v) % n = a at *
    generalize (u + v) % n = b at *
    rw [mod_two (x := a + n - u) (n := n) (by omega), mod_two (x := i + n - b) (n := n) (by omega)]
    split at e1 <;> split at e2 <;> split <;> split <;> omega
  · rw [decide_eq_false hi, Bool.false_and, Bool.false_and]

theorem mv_zero {n c : Nat} (hn : 2 ≤ n) (hc : c < 2 ^ n) : mvN n c 0 = c := by
  apply Nat.eq_of_testBit_eq
  intro i
  rw [testBit_mv (by omega) hc]
  by_cases hi : i < n
  · rw [decide_eq_true hi, Bool.true_and, show i + n - 0 = i + n from rfl, Nat.add_mod_right, Nat.mod_eq_of_lt hi]
  · rw [decide_eq_false hi, Bool.false_and]
    cases h : c.testBit i with
    | false => rfl
    | true => exact absurd (bit_lt hc h) hi

theorem turn_turn {n c : Nat} (hn : 2 ≤ n) (hn2 : n ≤ 64) (hc : c < 2 ^ n) : mulN n (mulN n c (-1)) (-1) = c := by
  apply Nat.eq_of_testBit_eq
  intro i
  rw [testBit_turn hn hn2 (turn_lt hn), testBit_turn hn hn2 hc]
  by_cases hi : i < n
  · rw [decide_eq_true hi, Bool.true_and, decide_eq_true (Nat.mod_lt _ (by omega)), Bool.true_and]
    congr 1
    have e1 := mod_two (x := n - i) (n := n) (by omega)
    generalize (n - i) % n = a at *
    rw [mod_two (x := n - a) (n := n) (by omega)]
    split at e1 <;> split <;> omega
  · rw [decide_eq_false hi, Bool.false_and]
    cases h : c.testBit i with
    | false => rfl
    | true => exact absurd (bit_lt hc h) hi

theorem turn_mv {n c u : Nat} (hn : 2 ≤ n) (hn2 : n ≤ 64) (hc : c < 2 ^ n) (hu : u < n) : mulN n (mvN n c u) (-1) = mvN n (mulN n c (-1)) ((n - u) % n) := by
  apply Nat.eq_of_testBit_eq
  intro i
  rw [testBit_turn hn hn2 mv_lt, testBit_mv hu hc, testBit_mv (Nat.mod_lt _ (by omega)) (turn_lt hn), testBit_turn hn hn2 hc]
  by_cases hi : i < n
  · rw [decide_eq_true hi, Bool.true_and, Bool.true_and, decide_eq_true (Nat.mod_lt _ (by omega)), decide_eq_true (Nat.mod_lt _ (by omega)), Bool.true_and, Bool.true_and]
    congr 1
    have e1 := mod_two (x := n - i) (n := n) (by omega)
    have e2 := mod_two (x := n - u) (n := n) (by omega)
    have l1 := Nat.mod_lt (n - i) (show 0 < n by omega)
    have l2 := Nat.mod_lt (n - u) (show 0 < n by omega)
    generalize (n - i) % n = a at *
    generalize (n - u) % n = b at *
    have e3 := mod_two (x := i + n - b) (n := n) (by omega)
    have l3 := Nat.mod_lt (i + n - b) (show 0 < n by omega)
    generalize (i + n - b) % n = d at *
    rw [mod_two (x := a + n - u) (n := n) (by omega), mod_two (x := n - d) (n := n) (by omega)]
    split at e1 <;> split at e2 <;> split at e3 <;> split <;> split <;> omega
  · rw [decide_eq_false hi, Bool.false_and, Bool.false_and]

theorem mv_back {n c u : Nat} (hn : 2 ≤ n) (hc : c < 2 ^ n) (hu : u < n) : mvN n (mvN n c u) ((n - u) % n) = c := by
  rw [mv_mv hc hu (Nat.mod_lt _ (by omega)), Nat.add_mod_mod, show u + (n - u) = n from by omega, Nat.mod_self, mv_zero hn hc]

theorem mem_imgs {n c x : Nat} : x ∈ imgs n c ↔ ∃ i, i < n ∧ (mvN n c i = x ∨ mvN n (mulN n c (-1)) i = x) := by
  unfold imgs imgOf
  rw [List.mem_append, List.mem_map, List.mem_map]
  constructor
  · rintro (⟨i, hi, h⟩ | ⟨i, hi, h⟩)
    · exact ⟨i, List.mem_range.1 hi, Or.inl h⟩
    · exact ⟨i, List.mem_range.1 hi, Or.inr h⟩
  · rintro ⟨i, hi, h | h⟩
    · exact Or.inl ⟨i, List.mem_range.2 hi, h⟩
    · exact Or.inr ⟨i, List.mem_range.2 hi, h⟩

theorem imgs_mv_sub {n c u x : Nat} (hn : 2 ≤ n) (hn2 : n ≤ 64) (hc : c < 2 ^ n) (hu : u < n) (h : x ∈ imgs n (mvN n c u)) : x ∈ imgs n c := by
  obtain ⟨i, hi, h⟩ := mem_imgs.1 h
  rw [mv_mv hc hu hi, turn_mv hn hn2 hc hu, mv_mv (turn_lt hn) (Nat.mod_lt _ (by omega)) hi] at h
  rcases h with h | h
  · exact mem_imgs.2 ⟨_, Nat.mod_lt _ (by omega), Or.inl h⟩
  · exact mem_imgs.2 ⟨_, Nat.mod_lt _ (by omega), Or.inr h⟩
theorem imgs_mv {n c u x : Nat} (hn : 2 ≤ n) (hn2 : n ≤ 64) (hc : c < 2 ^ n) (hu : u < n) : x ∈ imgs n (mvN n c u) ↔ x ∈ imgs n c := by
  refine ⟨imgs_mv_sub hn hn2 hc hu, fun h => ?_⟩
  refine imgs_mv_sub hn hn2 (mv_lt (c := c) (u := u)) (Nat.mod_lt (n - u) (show 0 < n by omega)) ?_
  rwa [mv_back hn hc hu]
theorem imgs_turn {n c x : Nat} (hn : 2 ≤ n) (hn2 : n ≤ 64) (hc : c < 2 ^ n) : x ∈ imgs n (mulN n c (-1)) ↔ x ∈ imgs n c := by
  rw [mem_imgs, mem_imgs, turn_turn hn hn2 hc]
  constructor
  · rintro ⟨i, hi, h⟩; exact ⟨i, hi, h.symm⟩
  · rintro ⟨i, hi, h⟩; exact ⟨i, hi, h.symm⟩
theorem cls_ext {n a b : Nat} (h : ∀ x, x ∈ imgs n a ↔ x ∈ imgs n b) : clsN n a = clsN n b := by
  unfold clsN
  refine List.filter_congr (fun x _ => ?_)
  rw [decide_eq_decide]; exact h x

/-- How many moves make b of a. -/
def N1 (n a b : Nat) : Nat := sumN n (fun i => if mvN n a i = b then 1 else 0)
theorem ways_N1 (n a b k : Nat) : (waysTo n a b k).length = sumN k (fun i => if mvN n a i = b then 1 else 0) := by
  induction k with
  | zero => rfl
  | succ k ih =>
    rw [waysTo_succ, List.length_append, ih]
    simp only [sumN]
    split <;> rfl
theorem N1_left {n a b u : Nat} (ha : a < 2 ^ n) (hu : u < n) : N1 n (mvN n a u) b = N1 n a b := by
  unfold N1
  rw [← sum_move n u hu (fun i => if mvN n a i = b then 1 else 0)]
  refine sum_congr (fun i hi => ?_)
  rw [mv_mv ha hu hi, Nat.add_comm u i]
theorem N1_right {n a b u : Nat} (hn : 2 ≤ n) (ha : a < 2 ^ n) (hb : b < 2 ^ n) (hu : u < n) : N1 n a (mvN n b u) = N1 n a b := by
  unfold N1
  have hw : (n - u) % n < n := Nat.mod_lt _ (by omega)
  rw [← sum_move n ((n - u) % n) hw (fun i => if mvN n a i = b then 1 else 0)]
  refine sum_congr (fun i hi => ?_)
  rw [← mv_mv ha hi hw]
  have : (mvN n a i = mvN n b u) ↔ (mvN n (mvN n a i) ((n - u) % n) = b) := by
    constructor
    · intro h; rw [h]; exact mv_back hn hb hu
    · intro h
      rw [← h, mv_mv mv_lt hw hu, Nat.mod_add_mod, show n - u + u = n from by omega, Nat.mod_self, mv_zero hn mv_lt]
  by_cases h : mvN n a i = mvN n b u
  · rw [if_pos h, if_pos (this.1 h)]
  · rw [if_neg h, if_neg (fun e => h (this.2 e))]
theorem neg_neg {n i : Nat} (hi : i < n) : (n - (n - i) % n) % n = i := by
  have e1 := mod_two (x := n - i) (n := n) (by omega)
  generalize (n - i) % n = a at *
  rw [mod_two (x := n - a) (n := n) (by omega)]
  split at e1 <;> split <;> omega
theorem N1_turn {n a b : Nat} (hn : 2 ≤ n) (hn2 : n ≤ 64) (ha : a < 2 ^ n) (hb : b < 2 ^ n) : N1 n (mulN n a (-1)) (mulN n b (-1)) = N1 n a b := by
  unfold N1
  rw [← sum_perm n (fun i => (n - i) % n) (fun i => (n - i) % n) (fun i _ => Nat.mod_lt _ (by omega)) (fun i _ => Nat.mod_lt _ (by omega)) (fun i hi => neg_neg hi) (fun i hi => neg_neg hi) (fun i => if mvN n a i = b then 1 else 0)]
  refine sum_congr (fun i hi => ?_)
  have e := turn_mv hn hn2 ha (Nat.mod_lt (n - i) (show 0 < n by omega))
  rw [neg_neg hi] at e
  rw [← e]
  have : (mulN n (mvN n a ((n - i) % n)) (-1) = mulN n b (-1)) ↔ (mvN n a ((n - i) % n) = b) := by
    constructor
    · intro h; rw [← turn_turn hn hn2 (mv_lt (c := a) (u := (n - i) % n)), h, turn_turn hn hn2 hb]
    · intro h; rw [h]
  by_cases h : mvN n a ((n - i) % n) = b
  · rw [if_pos (this.2 h), if_pos h]
  · rw [if_neg (fun e => h (this.1 e)), if_neg h]

/-- As many ways lead to each image as leave the chord as it is. -/
theorem N1_image {n c x : Nat} (hn : 2 ≤ n) (hn2 : n ≤ 64) (hc : c < 2 ^ n) (hx : x ∈ imgs n c) : N1 n c x + N1 n (mulN n c (-1)) x = N1 n c c + N1 n (mulN n c (-1)) c := by
  obtain ⟨i, hi, rfl | rfl⟩ := mem_imgs.1 hx
  · rw [N1_right hn hc hc hi, N1_right hn (turn_lt hn) hc hi]
  · rw [N1_right hn hc (turn_lt hn) hi, N1_right hn (turn_lt hn) (turn_lt hn) hi, N1_turn hn hn2 hc hc]
    have := N1_turn (b := mulN n c (-1)) hn hn2 hc (turn_lt hn)
    rw [turn_turn hn hn2 hc] at this
    rw [← this]
    omega
theorem N1_else {n c x : Nat} (hx : x ∉ imgs n c) : N1 n c x + N1 n (mulN n c (-1)) x = 0 := by
  unfold N1
  have e1 : sumN n (fun i => if mvN n c i = x then 1 else 0) = 0 := by
    rw [sum_congr (g := fun _ => 0) (fun i hi => if_neg (fun h => hx (mem_imgs.2 ⟨i, hi, Or.inl h⟩))), sum_zero]
  have e2 : sumN n (fun i => if mvN n (mulN n c (-1)) i = x then 1 else 0) = 0 := by
    rw [sum_congr (g := fun _ => 0) (fun i hi => if_neg (fun h => hx (mem_imgs.2 ⟨i, hi, Or.inr h⟩))), sum_zero]
  rw [e1, e2]
theorem N1_all (n a : Nat) : sumN (2 ^ n) (fun x => N1 n a x) = n := by
  unfold N1
  rw [sum_swap]
  have : sumN n (fun i => sumN (2 ^ n) (fun x => if mvN n a i = x then 1 else 0)) = sumN n (fun _ => 1) := by
    refine sum_congr (fun i hi => ?_)
    have e := sum_single (2 ^ n) (mvN n a i) (fun _ => 1)
    rw [if_pos mv_lt] at e
    refine (sum_congr (fun x hx => ?_)).trans e
    by_cases h : mvN n a i = x
    · rw [if_pos h, if_pos h.symm]
    · rw [if_neg h, if_neg (fun e => h e.symm)]
  rw [this, sum_const, Nat.mul_one]
theorem cls_sum (n c K k : Nat) : (clsTo n c k).length * K = sumN k (fun x => if x ∈ imgs n c then K else 0) := by
  induction k with
  | zero => simp [clsTo, sumN]
  | succ k ih =>
    rw [clsTo_succ, List.length_append, Nat.add_mul, ih]
    simp only [sumN]
    split <;> simp
/-- Orbit times stabilizer. -/
theorem cls_times {n c : Nat} (hn : 2 ≤ n) (hn2 : n ≤ 64) (hc : c < 2 ^ n) : (clsN n c).length * ((waysTo n c c n).length + (waysTo n (mulN n c (-1)) c n).length) = 2 * n := by
  rw [ways_N1, ways_N1]
  show (clsTo n c (2 ^ n)).length * (N1 n c c + N1 n (mulN n c (-1)) c) = 2 * n
  rw [cls_sum]
  have e : sumN (2 ^ n) (fun x => if x ∈ imgs n c then N1 n c c + N1 n (mulN n c (-1)) c else 0) = sumN (2 ^ n) (fun x => N1 n c x + N1 n (mulN n c (-1)) x) := by
    refine sum_congr (fun x hx => ?_)
    by_cases h : x ∈ imgs n c
    · rw [if_pos h, N1_image hn hn2 hc h]
    · rw [if_neg h, N1_else h]
  rw [e, sum_add, N1_all, N1_all]
  omega

theorem still_mv {n c u : Nat} (hn : 2 ≤ n) (hn2 : n ≤ 64) (hc : c < 2 ^ n) (hu : u < n) :
    (waysTo n (mvN n c u) (mvN n c u) n).length = (waysTo n c c n).length ∧ (waysTo n (mulN n (mvN n c u) (-1)) (mvN n c u) n).length = (waysTo n (mulN n c (-1)) c n).length := by
  rw [ways_N1, ways_N1, ways_N1, ways_N1]
  constructor
  · show N1 n _ _ = N1 n _ _
    rw [N1_left hc hu, N1_right hn hc hc hu]
  · show N1 n _ _ = N1 n _ _
    rw [turn_mv hn hn2 hc hu, N1_left (turn_lt hn) (Nat.mod_lt _ (by omega)), N1_right hn (turn_lt hn) hc hu]
theorem still_turn {n c : Nat} (hn : 2 ≤ n) (hn2 : n ≤ 64) (hc : c < 2 ^ n) :
    (waysTo n (mulN n c (-1)) (mulN n c (-1)) n).length = (waysTo n c c n).length ∧ (waysTo n (mulN n (mulN n c (-1)) (-1)) (mulN n c (-1)) n).length = (waysTo n (mulN n c (-1)) c n).length := by
  rw [ways_N1, ways_N1, ways_N1, ways_N1]
  constructor
  · show N1 n _ _ = N1 n _ _
    rw [N1_turn hn hn2 hc hc]
  · show N1 n _ _ = N1 n _ _
    rw [N1_turn hn hn2 (turn_lt hn) hc]

theorem aut_mv {n c u d : Nat} (hn : 2 ≤ n) (hc : c < 2 ^ n) (hu : u < n) : autN n (mvN n c u) d = autN n c d := by
  by_cases h0 : u = 0
  · subst h0; rw [mv_zero hn hc]
  · unfold autN
    rw [← sum_move n (n - u) (by omega) (fun t => bI c t * bI c ((t + d) % n))]
    refine sum_congr (fun t ht => ?_)
    rw [bI_mv hu hc ht, bI_mv hu hc (Nat.mod_lt _ (by omega))]
    congr 2
    rw [Nat.mod_add_mod, Nat.mod_add_mod]
    congr 1
    omega
theorem bI_turn {n c t : Nat} (hn : 2 ≤ n) (hn2 : n ≤ 64) (hc : c < 2 ^ n) (ht : t < n) : bI (mulN n c (-1)) t = bI c ((n - t) % n) := by
  unfold bI
  rw [testBit_turn hn hn2 hc, decide_eq_true ht, Bool.true_and]
theorem aut_turn {n c d : Nat} (hn : 2 ≤ n) (hn2 : n ≤ 64) (hc : c < 2 ^ n) (hd : d < n) : autN n (mulN n c (-1)) d = autN n c d := by
  unfold autN
  have hinv : ∀ s, s < n → (n - ((n - (s + d) % n) % n + d) % n) % n = s := by
    intro s hs
    have e1 := mod_two (x := s + d) (n := n) (by omega)
    have l1 := Nat.mod_lt (s + d) (show 0 < n by omega)
    generalize (s + d) % n = a at *
    have e2 := mod_two (x := n - a) (n := n) (by omega)
    have l2 := Nat.mod_lt (n - a) (show 0 < n by omega)
    generalize (n - a) % n = b at *
    have e3 := mod_two (x := b + d) (n := n) (by omega)
    have l3 := Nat.mod_lt (b + d) (show 0 < n by omega)
    generalize (b + d) % n = g at *
    rw [mod_two (x := n - g) (n := n) (by omega)]
    split at e1 <;> split at e2 <;> split at e3 <;> split <;> omega
  rw [← sum_perm n (fun s => (n - (s + d) % n) % n) (fun s => (n - (s + d) % n) % n) (fun i _ => Nat.mod_lt _ (by omega)) (fun i _ => Nat.mod_lt _ (by omega)) hinv hinv (fun t => bI c t * bI c ((t + d) % n))]
  refine sum_congr (fun s hs => ?_)
  rw [bI_turn hn hn2 hc hs, bI_turn hn hn2 hc (Nat.mod_lt _ (by omega)), Nat.mul_comm]
  congr 2
  have e1 := mod_two (x := s + d) (n := n) (by omega)
  have l1 := Nat.mod_lt (s + d) (show 0 < n by omega)
  generalize (s + d) % n = a at *
  have e2 := mod_two (x := n - a) (n := n) (by omega)
  have l2 := Nat.mod_lt (n - a) (show 0 < n by omega)
  generalize (n - a) % n = b at *
  rw [mod_two (x := b + d) (n := n) (by omega), mod_two (x := n - s) (n := n) (by omega)]
  split at e1 <;> split at e2 <;> split <;> split <;> omega
theorem vec_ext {n a b : Nat} (hn : n ≤ 64) (ha : a < 2 ^ n) (hb : b < 2 ^ n) (h : ∀ d, d < n → autN n a d = autN n b d) : vecN n a = vecN n b := by
  apply List.ext_getElem
  · rw [vecN_length, vecN_length]
  · intro i h1 h2
    have l1 : i < n / 2 := by rw [vecN_length] at h1; exact h1
    have e1 := aut_vec (n := n) (c := a) (d := i + 1) hn ha (by omega) (by omega)
    have e2 := aut_vec (n := n) (c := b) (d := i + 1) hn hb (by omega) (by omega)
    rw [h (i + 1) (by omega), e2] at e1
    rw [Nat.add_sub_cancel, List.getElem?_eq_getElem h1, List.getElem?_eq_getElem h2] at e1
    simp only [Option.getD_some] at e1
    split at e1 <;> omega

theorem minL_mem (c : Nat) (xs : List Nat) : minL c xs = c ∨ minL c xs ∈ xs := by
  unfold minL
  induction xs generalizing c with
  | nil => exact Or.inl rfl
  | cons x xs ih =>
    rw [List.foldl_cons]
    rcases ih (min c x) with h | h
    · by_cases hle : c ≤ x
      · rw [h]; left; omega
      · rw [h]; right; rw [show min c x = x from by omega]; simp
    · right; exact List.mem_cons_of_mem _ h
theorem minL_le_mem (c : Nat) {xs : List Nat} {x : Nat} (h : x ∈ xs) : minL c xs ≤ x := by
  obtain ⟨a, b, rfl⟩ := List.append_of_mem h
  rw [minL_append, show x :: b = [x] ++ b from rfl, minL_append]
  have : minL c [x] = min c x := rfl
  omega
theorem self_imgs {n c : Nat} (hn : 2 ≤ n) (hc : c < 2 ^ n) : c ∈ imgs n c := mem_imgs.2 ⟨0, by omega, Or.inl (mv_zero hn hc)⟩
theorem mem_clsN {n c x : Nat} : x ∈ clsN n c ↔ x ∈ imgs n c := by
  unfold clsN
  rw [List.mem_filter, List.mem_range, decide_eq_true_eq]
  exact ⟨fun h => h.2, fun h => ⟨imgs_lt h, h⟩⟩
theorem cls_first {n c : Nat} (hn : 2 ≤ n) (hc : c < 2 ^ n) : (clsN n c)[0]?.getD 0 = primeN n c := by
  have hl := clsN_some (n := n) (c := c) hn
  have hs : (clsN n c).Pairwise (· < ·) := (List.pairwise_lt_range (n := 2 ^ n)).filter _
  have hp : primeN n c ∈ imgs n c := by
    rcases minL_mem c (imgs n c) with h | h
    · show minL c (imgs n c) ∈ _; rw [h]; exact self_imgs hn hc
    · exact h
  rw [List.getElem?_eq_getElem hl]
  show (clsN n c)[0] = _
  have h1 : primeN n c ≤ (clsN n c)[0] := minL_le_mem c (mem_clsN.1 (List.getElem_mem hl))
  obtain ⟨j, hj, e⟩ := List.mem_iff_getElem.1 (mem_clsN.2 hp)
  have h2 : (clsN n c)[0] ≤ primeN n c := by
    rw [← e]
    by_cases h0 : j = 0
    · subst h0; exact Nat.le_refl _
    · exact Nat.le_of_lt (List.pairwise_iff_getElem.1 hs 0 j hl hj (by omega))
  omega
theorem prime_ext {n a b : Nat} (hn : 2 ≤ n) (ha : a < 2 ^ n) (hb : b < 2 ^ n) (h : clsN n a = clsN n b) : primeN n a = primeN n b := by
  rw [← cls_first hn ha, ← cls_first hn hb, h]

/-- All that the images share. -/
theorem image_shares {n c z : Nat} (hn : 2 ≤ n) (hn2 : n ≤ 64) (hc : c < 2 ^ n) (y u : Nat) (hy : y = c ∨ y = mulN n c (-1)) (hu : u < n) (hz : z = mvN n y u) :
    vecN n z = vecN n c ∧ primeN n z = primeN n c ∧ (waysTo n z z n).length = (waysTo n c c n).length ∧ (waysTo n (mulN n z (-1)) z n).length = (waysTo n (mulN n c (-1)) c n).length ∧ z ∈ clsN n c ∧ wayE (waysTo n c z n) (waysTo n (mulN n c (-1)) z n) = 0 := by
  have hyl : y < 2 ^ n := by rcases hy with rfl | rfl; exact hc; exact turn_lt hn
  have hzi : z ∈ imgs n c := by
    rcases hy with rfl | rfl
    · exact mem_imgs.2 ⟨u, hu, Or.inl hz.symm⟩
    · exact mem_imgs.2 ⟨u, hu, Or.inr hz.symm⟩
  have hzl : z < 2 ^ n := imgs_lt hzi
  have hcls : clsN n z = clsN n c := cls_ext (fun x => by
    rw [hz, imgs_mv hn hn2 hyl hu]
    rcases hy with rfl | rfl
    · rfl
    · exact imgs_turn hn hn2 hc)
  refine ⟨vec_ext hn2 hzl hc (fun d hd => ?_), prime_ext hn hzl hc hcls, ?_, ?_, mem_clsN.2 hzi, ?_⟩
  · rw [hz, aut_mv hn hyl hu]
    rcases hy with rfl | rfl
    · rfl
    · exact aut_turn hn hn2 hc hd
  · rw [hz, (still_mv hn hn2 hyl hu).1]
    rcases hy with rfl | rfl
    · rfl
    · exact (still_turn hn hn2 hc).1
  · rw [hz, (still_mv hn hn2 hyl hu).2]
    rcases hy with rfl | rfl
    · rfl
    · exact (still_turn hn hn2 hc).2
  · have : u ∈ waysTo n y z n := by
      unfold waysTo
      exact List.mem_filter.2 ⟨List.mem_range.2 hu, by rw [hz]; simp⟩
    rcases hy with rfl | rfl
    · cases h : waysTo n y z n with
      | nil => rw [h] at this; cases this
      | cons a b => rfl
    · cases h : waysTo n (mulN n c (-1)) z n with
      | nil => rw [h] at this; cases this
      | cons a b => cases waysTo n c z n <;> rfl

end Go.Proofs.YtehjdhegnpmfaaaDoor
