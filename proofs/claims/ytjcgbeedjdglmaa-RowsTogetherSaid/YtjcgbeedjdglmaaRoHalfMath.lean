/-
  Rows in which every step comes: the ends are half of the circle apart; the halves turned.
-/
import Derived.Test.YtjcgbeedjdglmaaRoFollowMath
namespace Go.Proofs.Ytjcgbeedjdglmaa

theorem perm_of_subset : ∀ {l m : List Nat}, l.Nodup → (∀ x ∈ l, x ∈ m) → m.length ≤ l.length → l.Perm m
  | [], m, _, _, h => by
    have : m = [] := List.eq_nil_of_length_eq_zero (by simpa using h)
    subst this; exact List.Perm.refl _
  | x :: l, m, hn, hs, hl => by
    rw [List.nodup_cons] at hn
    have hm := hs x (by simp)
    have hp := List.perm_cons_erase hm
    refine List.Perm.trans (List.Perm.cons x ?_) hp.symm
    refine perm_of_subset hn.2 (fun y hy => ?_) ?_
    · refine (List.mem_erase_of_ne ?_).2 (hs y (by simp [hy]))
      rintro rfl; exact hn.1 hy
    · rw [List.length_erase_of_mem hm]
      rw [List.length_cons] at hl; omega

theorem perm_sum {l m : List Nat} (h : l.Perm m) : l.sum = m.sum := by
  induction h with
  | nil => rfl
  | cons x _ ih => simp [ih]
  | swap x y l => simp only [List.sum_cons]; omega
  | trans _ _ h1 h2 => exact h1.trans h2

theorem sumN_list (f : Nat → Nat) (k : Nat) : sumN k f = ((List.range k).map f).sum := by
  induction k with
  | zero => rfl
  | succ k ih => rw [List.range_succ, List.map_append, List.sum_append, ← ih]; simp [sumN]

theorem sum_gauss (k : Nat) (hk : k ≤ 9) : 2 * ((List.range k).map (fun i => i + 1)).sum = k * (k + 1) := by
  have : ∀ k, k < 10 → 2 * ((List.range k).map (fun i => i + 1)).sum = k * (k + 1) := by decide
  exact this k (by omega)

/-- Where the steps lead. -/
theorem walk_steps {n : Nat} {ys : List Nat} (h : IsRow n ys) : ∀ k, k < n → (ys[0]?.getD 0 + sumN k (stepN n ys)) % n = ys[k]?.getD 0
  | 0, _ => by
    show (ys[0]?.getD 0 + 0) % n = _
    rw [Nat.add_zero, Nat.mod_eq_of_lt (getD_lt h.lt h.pos 0)]
  | k + 1, hk => by
    have ih := walk_steps h k (by omega)
    have h1 := getD_lt h.lt h.pos k
    have h2 := getD_lt h.lt h.pos (k + 1)
    show (ys[0]?.getD 0 + (sumN k (stepN n ys) + stepN n ys k)) % n = _
    rw [← Nat.add_assoc, Nat.add_mod, ih]
    unfold stepN
    rw [Nat.mod_mod, Nat.add_mod_mod, show ys[k]?.getD 0 + (ys[k + 1]?.getD 0 + n - ys[k]?.getD 0) = ys[k + 1]?.getD 0 + n by omega, Nat.add_mod_right, Nat.mod_eq_of_lt h2]

theorem step_pos {n : Nat} {ys : List Nat} (h : IsRow n ys) {i : Nat} (hi : i + 1 < n) : 1 ≤ stepN n ys i := by
  have hl := h.len
  have h1 := getD_lt h.lt h.pos i
  have h2 := getD_lt h.lt h.pos (i + 1)
  have hne : ys[i]?.getD 0 ≠ ys[i + 1]?.getD 0 := fun e => by have := getD_inj h.nd (by omega) (by omega) e; omega
  unfold stepN
  by_cases hc : ys[i]?.getD 0 < ys[i + 1]?.getD 0
  · rw [Nat.mod_eq_sub_mod (by omega), Nat.mod_eq_of_lt (by omega)]; omega
  · rw [Nat.mod_eq_of_lt (by omega)]; omega

theorem steps_perm {n : Nat} {ys : List Nat} (h : IsRow n ys) (he : everyB n ys = true) : (stepsL n ys).Perm ((List.range (n - 1)).map (fun i => i + 1)) := by
  have hn : (stepsL n ys).Nodup := by unfold everyB at he; exact of_decide_eq_true he
  refine perm_of_subset hn (fun x hx => ?_) (by rw [stepsL_length, h.len]; simp)
  have h2 := stepsL_lt h.pos ys x hx
  obtain ⟨i, hi, rfl⟩ := List.mem_map.1 hx
  rw [List.mem_range, h.len] at hi
  have h1 := step_pos h (show i + 1 < n by omega)
  exact List.mem_map.2 ⟨stepN n ys i - 1, List.mem_range.2 (by omega), by omega⟩

/-- With every step the ends are half of the circle apart. -/
theorem every_ends {n : Nat} {ys : List Nat} (h : IsRow n ys) (he : everyB n ys = true) : n % 2 = 0 ∧ (ys[0]?.getD 0 + n / 2) % n = ys[n - 1]?.getD 0 := by
  have hl := h.len
  have hlo := h.lo
  have hhi := h.hi
  have h1 := perm_sum (steps_perm h he)
  have h2 := sum_gauss (n - 1) (by omega)
  rw [← h1] at h2
  have h3 : (stepsL n ys).sum = sumN (n - 1) (stepN n ys) := by rw [sumN_list]; unfold stepsL; rw [hl]
  rw [h3] at h2
  have h4 := walk_steps h (n - 1) (by omega)
  have h5 : ys[0]?.getD 0 ≠ ys[n - 1]?.getD 0 := fun e => by have := getD_inj h.nd (by omega) (by omega) e; omega
  have h6 := getD_lt h.lt h.pos 0
  have h7 := getD_lt h.lt h.pos (n - 1)
  generalize ys[0]?.getD 0 = a at *
  generalize ys[n - 1]?.getD 0 = b at *
  generalize sumN (n - 1) (stepN n ys) = S at *
  clear h h1 h3 he hl
  have hc : n = 2 ∨ n = 3 ∨ n = 4 ∨ n = 5 ∨ n = 6 ∨ n = 7 ∨ n = 8 ∨ n = 9 ∨ n = 10 := by omega
  rcases hc with rfl | rfl | rfl | rfl | rfl | rfl | rfl | rfl | rfl <;> omega

theorem mem_steps {n : Nat} {ys : List Nat} (h : IsRow n ys) (he : everyB n ys = true) {s : Nat} (h1 : 1 ≤ s) (h2 : s < n) : s ∈ stepsL n ys := by
  rw [(steps_perm h he).mem_iff]
  exact List.mem_map.2 ⟨s - 1, List.mem_range.2 (by omega), by omega⟩

/-- The place of the step that is half of the circle. -/
def midI (n : Nat) (ys : List Nat) : Nat := (stepsL n ys).idxOf (n / 2)
/-- The halves turned. -/
def halvesL (n : Nat) (ys : List Nat) : List Nat := ys.drop (midI n ys + 1) ++ ys.take (midI n ys + 1)

theorem mid_lt {n : Nat} {ys : List Nat} (h : IsRow n ys) (he : everyB n ys = true) : midI n ys < n - 1 := by
  have hlo := h.lo
  have := List.idxOf_lt_length_iff.2 (mem_steps h he (s := n / 2) (by omega) (by omega))
  rw [stepsL_length, h.len] at this; exact this
theorem mid_step {n : Nat} {ys : List Nat} (h : IsRow n ys) (he : everyB n ys = true) : stepN n ys (midI n ys) = n / 2 := by
  have hlo := h.lo
  have h1 := List.idxOf_lt_length_iff.2 (mem_steps h he (s := n / 2) (by omega) (by omega))
  have h2 := mid_lt h he
  have h3 := stepsL_at (n := n) (ys := ys) (i := midI n ys) (by rw [h.len]; exact h2)
  rw [← h3]
  unfold midI
  rw [List.getElem?_eq_getElem h1]
  exact List.getElem_idxOf h1
theorem mid_unique {n : Nat} {ys : List Nat} (h : IsRow n ys) (he : everyB n ys = true) {i : Nat} (hi : i < n - 1) (hs : stepN n ys i = n / 2) : midI n ys = i := by
  have hn : (stepsL n ys).Nodup := by unfold everyB at he; exact of_decide_eq_true he
  have hl : (stepsL n ys).length = n - 1 := by rw [stepsL_length, h.len]
  have hm := mid_lt h he
  refine getD_inj hn (by omega) (by omega) ?_
  rw [stepsL_at (by rw [h.len]; exact hm), stepsL_at (by rw [h.len]; exact hi), mid_step h he, hs]

theorem halves_perm (n : Nat) (ys : List Nat) : (halvesL n ys).Perm ys := by
  unfold halvesL
  refine List.perm_append_comm.trans ?_
  rw [List.take_append_drop]
theorem halves_row {n : Nat} {ys : List Nat} (h : IsRow n ys) : IsRow n (halvesL n ys) :=
  ⟨by rw [(halves_perm n ys).length_eq, h.len], h.lo, h.hi, fun y hy => h.lt y ((halves_perm n ys).mem_iff.1 hy), (halves_perm n ys).nodup_iff.2 h.nd⟩

theorem halves_at {n : Nat} {ys : List Nat} (h : IsRow n ys) (he : everyB n ys = true) (i : Nat) (hi : i < n) : (halvesL n ys)[i]?.getD 0 = if i < n - (midI n ys + 1) then ys[midI n ys + 1 + i]?.getD 0 else ys[i - (n - (midI n ys + 1))]?.getD 0 := by
  have hl := h.len
  have hm := mid_lt h he
  have hdl : (ys.drop (midI n ys + 1)).length = n - (midI n ys + 1) := by rw [List.length_drop, hl]
  unfold halvesL
  by_cases hc : i < n - (midI n ys + 1)
  · rw [if_pos hc, List.getElem?_append_left (by omega), List.getElem?_drop]
  · rw [if_neg hc, List.getElem?_append_right (by omega), hdl, List.getElem?_take_of_lt (by omega)]

/-- The steps of the row with its halves turned. -/
theorem halves_step {n : Nat} {ys : List Nat} (h : IsRow n ys) (he : everyB n ys = true) (i : Nat) (hi : i < n - 1) :
    stepN n (halvesL n ys) i = if i < n - midI n ys - 2 then stepN n ys (midI n ys + 1 + i) else if i = n - midI n ys - 2 then n / 2 else stepN n ys (i - (n - (midI n ys + 1))) := by
  have hl := h.len
  have hm := mid_lt h he
  have hlo := h.lo
  unfold stepN
  rw [halves_at h he i (by omega), halves_at h he (i + 1) (by omega)]
  by_cases h1 : i < n - midI n ys - 2
  · rw [if_pos h1, if_pos (by omega), if_pos (by omega), show midI n ys + 1 + (i + 1) = midI n ys + 1 + i + 1 by omega]
  · rw [if_neg h1, if_neg (show ¬ i + 1 < n - (midI n ys + 1) by omega)]
    by_cases h2 : i = n - midI n ys - 2
    · rw [if_pos h2, if_pos (by omega), show i + 1 - (n - (midI n ys + 1)) = 0 by omega, show midI n ys + 1 + i = n - 1 by omega]
      obtain ⟨hev, hen⟩ := every_ends h he
      have h6 := getD_lt h.lt h.pos 0
      rw [← hen]
      generalize ys[0]?.getD 0 = a at *
      by_cases hc : a + n / 2 < n
      · rw [Nat.mod_eq_of_lt hc, Nat.mod_eq_of_lt (by omega)]; omega
      · rw [Nat.mod_eq_sub_mod (show n ≤ a + n / 2 by omega), Nat.mod_eq_of_lt (show a + n / 2 - n < n by omega), Nat.mod_eq_sub_mod (by omega), Nat.mod_eq_of_lt (by omega)]; omega
    · rw [if_neg h2, if_neg (by omega), show i + 1 - (n - (midI n ys + 1)) = i - (n - (midI n ys + 1)) + 1 by omega]

theorem every_of_inj {n : Nat} {zs : List Nat} (hl : zs.length = n) (h : ∀ i j, i < n - 1 → j < n - 1 → stepN n zs i = stepN n zs j → i = j) : everyB n zs = true := by
  unfold everyB stepsL
  refine decide_eq_true ?_
  unfold List.Nodup
  rw [List.pairwise_map, hl]
  refine (List.nodup_range (n := n - 1)).imp_of_mem (fun {a b} ha hb hne e => hne (h a b (List.mem_range.1 ha) (List.mem_range.1 hb) e))
theorem every_inj {n : Nat} {ys : List Nat} (hl : ys.length = n) (he : everyB n ys = true) {i j : Nat} (hi : i < n - 1) (hj : j < n - 1) (e : stepN n ys i = stepN n ys j) : i = j := by
  have hn : (stepsL n ys).Nodup := by unfold everyB at he; exact of_decide_eq_true he
  have hs : (stepsL n ys).length = n - 1 := by rw [stepsL_length, hl]
  refine getD_inj hn (by omega) (by omega) ?_
  rw [stepsL_at (by omega), stepsL_at (by omega), e]

/-- From which step of the row a step of the turned one comes. -/
def fromI (n m i : Nat) : Nat := if i < n - m - 2 then m + 1 + i else if i = n - m - 2 then m else i - (n - (m + 1))
theorem halves_from {n : Nat} {ys : List Nat} (h : IsRow n ys) (he : everyB n ys = true) (i : Nat) (hi : i < n - 1) : stepN n (halvesL n ys) i = stepN n ys (fromI n (midI n ys) i) := by
  rw [halves_step h he i hi]
  unfold fromI
  by_cases h1 : i < n - midI n ys - 2
  · rw [if_pos h1, if_pos h1]
  · rw [if_neg h1, if_neg h1]
    by_cases h2 : i = n - midI n ys - 2
    · rw [if_pos h2, if_pos h2, mid_step h he]
    · rw [if_neg h2, if_neg h2]
theorem halves_every {n : Nat} {ys : List Nat} (h : IsRow n ys) (he : everyB n ys = true) : everyB n (halvesL n ys) = true := by
  have hm := mid_lt h he
  have hlo := h.lo
  refine every_of_inj (halves_row h).len (fun i j hi hj e => ?_)
  rw [halves_from h he i hi, halves_from h he j hj] at e
  have hb : ∀ i, i < n - 1 → fromI n (midI n ys) i < n - 1 := by
    intro i hi
    unfold fromI
    split
    · omega
    · split <;> omega
  have e2 := every_inj h.len he (hb i hi) (hb j hj) e
  unfold fromI at e2
  split at e2 <;> split at e2 <;> (try split at e2) <;> (try split at e2) <;> omega

theorem mid_halves {n : Nat} {ys : List Nat} (h : IsRow n ys) (he : everyB n ys = true) : midI n (halvesL n ys) = n - midI n ys - 2 := by
  have hm := mid_lt h he
  refine mid_unique (halves_row h) (halves_every h he) (by omega) ?_
  rw [halves_step h he _ (by omega), if_neg (by omega), if_pos rfl]

theorem halves_twice {n : Nat} {ys : List Nat} (h : IsRow n ys) (he : everyB n ys = true) : halvesL n (halvesL n ys) = ys := by
  have hl := h.len
  have hm := mid_lt h he
  have hdl : (ys.drop (midI n ys + 1)).length = n - midI n ys - 2 + 1 := by rw [List.length_drop, hl]; omega
  have e : ∀ zs, halvesL n zs = zs.drop (midI n zs + 1) ++ zs.take (midI n zs + 1) := fun _ => rfl
  rw [e (halvesL n ys), mid_halves h he, e ys, ← hdl, List.drop_left, List.take_left, List.take_append_drop]

/-! ### multiplied -/
def timesL (n m : Nat) (ys : List Nat) : List Nat := ys.map (fun x => m * x % n)
theorem times_inj {n m x y : Nat} (hg : Nat.gcd m n = 1) (hx : x < n) (hy : y < n) (e : m * x % n = m * y % n) : x = y := by
  have key : ∀ {x y : Nat}, x ≤ y → y < n → m * x % n = m * y % n → x = y := by
    intro x y hxy hy e
    have h1 : n ∣ m * (y - x) := by
      rw [Nat.mul_sub]
      exact Nat.dvd_of_mod_eq_zero (Nat.sub_mod_eq_zero_of_mod_eq e.symm)
    have h2 : n ∣ y - x := Nat.Coprime.dvd_of_dvd_mul_left (by rw [Nat.coprime_iff_gcd_eq_one, Nat.gcd_comm]; exact hg) h1
    obtain ⟨c, hc⟩ := h2
    by_cases h0 : y - x = 0
    · omega
    · have := Nat.le_of_dvd (by omega) ⟨c, hc⟩
      omega
  rcases Nat.le_total x y with h | h
  · exact key h hy e
  · exact (key h hx e.symm).symm
theorem times_row {n m : Nat} {ys : List Nat} (h : IsRow n ys) (hg : Nat.gcd m n = 1) : IsRow n (timesL n m ys) :=
  ⟨by unfold timesL; rw [List.length_map, h.len], h.lo, h.hi, fun y hy => by
      obtain ⟨x, _, rfl⟩ := List.mem_map.1 hy
      exact Nat.mod_lt _ h.pos, by
      unfold timesL List.Nodup
      rw [List.pairwise_map]
      exact h.nd.imp_of_mem (fun {a b} ha hb hne e => hne (times_inj hg (h.lt a ha) (h.lt b hb) e))⟩
theorem times_at {n m : Nat} {ys : List Nat} {i : Nat} (hi : i < ys.length) : (timesL n m ys)[i]?.getD 0 = m * (ys[i]?.getD 0) % n := by
  unfold timesL
  rw [List.getElem?_map, List.getElem?_eq_getElem hi]; rfl
theorem times_step {n m : Nat} {ys : List Nat} (h : IsRow n ys) (i : Nat) (hi : i < n - 1) : stepN n (timesL n m ys) i = m * stepN n ys i % n := by
  have hl := h.len
  have h1 := getD_lt h.lt h.pos i
  have h2 := getD_lt h.lt h.pos (i + 1)
  unfold stepN
  rw [times_at (by omega), times_at (by omega)]
  generalize ys[i]?.getD 0 = a at *
  generalize ys[i + 1]?.getD 0 = b at *
  have hb := Nat.mod_lt (m * a) h.pos
  have e1 : (((m * b % n + n - m * a % n) % n : Nat) : Int) = (((m * ((b + n - a) % n)) % n : Nat) : Int) := by
    rw [Int.natCast_emod, Int.natCast_emod, Int.natCast_mul, Int.natCast_emod, Int.natCast_sub (by omega), Int.natCast_add, Int.natCast_sub (by omega), Int.natCast_add, Int.natCast_emod, Int.natCast_emod, Int.natCast_mul, Int.natCast_mul]
    rw [Int.mul_emod (m : Int) (((b : Int) + n - a) % n), Int.emod_emod_of_dvd _ (Int.dvd_refl _), ← Int.mul_emod]
    have e2 : (m : Int) * ((b : Int) + n - a) = (m : Int) * b - m * a + n * m := by
      rw [Int.mul_sub, Int.mul_add, Int.mul_comm (m : Int) (n : Int)]; omega
    rw [e2, Int.add_mul_emod_self_left]
    have e3 : ((m : Int) * b % n + n - m * a % n) = ((m : Int) * b % n - m * a % n) + n := by omega
    rw [e3, Int.add_emod_right, ← Int.sub_emod]
  exact_mod_cast e1
theorem times_every {n m : Nat} {ys : List Nat} (h : IsRow n ys) (hg : Nat.gcd m n = 1) (he : everyB n ys = true) : everyB n (timesL n m ys) = true := by
  refine every_of_inj (times_row h hg).len (fun i j hi hj e => ?_)
  rw [times_step h i hi, times_step h j hj] at e
  exact every_inj h.len he hi hj (times_inj hg (stepN_lt h.pos ys i) (stepN_lt h.pos ys j) e)
end Go.Proofs.Ytjcgbeedjdglmaa
