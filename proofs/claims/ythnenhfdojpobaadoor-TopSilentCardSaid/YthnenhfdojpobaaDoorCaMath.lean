/-
  Rhythms on a circle of beats, as numbers: tilings as counts, periods. Plain mathematics; no program is spoken of.
-/
import Derived.Test.YthnenhfdojpobaaDoorSumMath
namespace Go.Proofs.YthnenhfdojpobaaDoor

theorem bI01 (c t : Nat) : bI c t ≤ 1 := by unfold bI; split <;> omega
theorem bI_one {c t : Nat} : bI c t = 1 ↔ c.testBit t = true := by unfold bI; split <;> simp_all
theorem bI_zero {c t : Nat} : bI c t = 0 ↔ c.testBit t = false := by unfold bI; split <;> simp_all

/-- How many beats a rhythm has. -/
def cardN (n c : Nat) : Nat := sumN n (bI c)

theorem cardN_tonesB (n c : Nat) : (tonesB n c).length = cardN n c := by
  have h := sum_tones n c (fun _ => 1)
  have e : ((tonesB n c).map (fun _ => 1)).sum = (tonesB n c).length := by
    induction tonesB n c with
    | nil => rfl
    | cons x l ih => simp only [List.map_cons, List.sum_cons, List.length_cons]; omega
  rw [← e, h]
  exact sum_congr (fun i _ => Nat.mul_one _)
theorem cardN_tonesL {n c : Nat} (h : n ≤ 64) (hc : c < 2 ^ n) : (tonesL c).length = cardN n c := by rw [tonesL_eq c h hc, cardN_tonesB]

theorem sum_leq {n : Nat} {f g : Nat → Nat} (h : ∀ i, i < n → f i ≤ g i) : sumN n f ≤ sumN n g := by
  induction n with
  | zero => exact Nat.le_refl _
  | succ n ih => simp only [sumN]; have := ih (fun i hi => h i (by omega)); have := h n (by omega); omega
theorem sum_mono {k n : Nat} (h : k ≤ n) (f : Nat → Nat) : sumN k f ≤ sumN n f := by
  induction n with
  | zero => rw [Nat.le_zero.1 h]; exact Nat.le_refl _
  | succ n ih =>
    by_cases e : k = n + 1
    · rw [e]; exact Nat.le_refl _
    · have := ih (by omega)
      simp only [sumN]; omega
theorem sum_at {n : Nat} (f : Nat → Nat) {i : Nat} (h : i < n) : f i ≤ sumN n f := by
  induction n with
  | zero => omega
  | succ n ih =>
    simp only [sumN]
    by_cases e : i = n
    · subst e; omega
    · have := ih (by omega); omega
theorem sum_two {n : Nat} (f : Nat → Nat) {i j : Nat} (hi : i < n) (hj : j < n) (hne : i ≠ j) : f i + f j ≤ sumN n f := by
  induction n with
  | zero => omega
  | succ n ih =>
    simp only [sumN]
    by_cases e1 : i = n
    · have := sum_at f (n := n) (i := j) (by omega); subst e1; omega
    · by_cases e2 : j = n
      · have := sum_at f (n := n) (i := i) (by omega); subst e2; omega
      · have := ih (by omega) (by omega); omega
theorem sum_pos {n : Nat} {f : Nat → Nat} (h : 0 < sumN n f) : ∃ i, i < n ∧ 0 < f i := by
  induction n with
  | zero => simp [sumN] at h
  | succ n ih =>
    simp only [sumN] at h
    by_cases e : 0 < f n
    · exact ⟨n, by omega, e⟩
    · obtain ⟨i, hi, hf⟩ := ih (by omega)
      exact ⟨i, by omega, hf⟩
/-- As many as there are, and none is nothing: each is one. -/
theorem sum_all_one {n : Nat} {f : Nat → Nat} (h : ∀ i, i < n → 1 ≤ f i) (hs : sumN n f = n) : ∀ i, i < n → f i = 1 := by
  induction n with
  | zero => intro i hi; omega
  | succ n ih =>
    have h1 : sumN n (fun _ => 1) ≤ sumN n f := sum_leq (fun i hi => h i (by omega))
    rw [sum_const, Nat.mul_one] at h1
    simp only [sumN] at hs
    have h2 := h n (by omega)
    intro i hi
    by_cases e : i = n
    · subst e; omega
    · exact ih (fun j hj => h j (by omega)) (by omega) i (by omega)
/-- A sum that is one has just one. -/
theorem sum_one {n : Nat} {f : Nat → Nat} (h : sumN n f = 1) : ∃ y, y < n ∧ f y = 1 ∧ ∀ z, z < n → 0 < f z → z = y := by
  obtain ⟨y, hy, hf⟩ := sum_pos (show 0 < sumN n f by omega)
  have h1 := sum_at f hy
  refine ⟨y, hy, by omega, fun z hz hf2 => ?_⟩
  apply Classical.byContradiction
  intro hne
  have := sum_two f hz hy hne
  omega

/-! ### how often a beat is filled -/

/-- How often the beat i is filled by the entries below k. -/
def cntK (n a b i k : Nat) : Nat := sumN k (fun y => bI b y * bI a ((i + n - y) % n))
def cntN (n a b i : Nat) : Nat := cntK n a b i n
theorem cntK_succ (n a b i k : Nat) : cntK n a b i (k + 1) = cntK n a b i k + bI b k * bI a ((i + n - k) % n) := rfl
theorem cntK_le {n a b i k : Nat} (h : k ≤ n) : cntK n a b i k ≤ cntN n a b i := sum_mono h _

/-- Two rhythms fill the circle. -/
def Tile (n a b : Nat) : Prop := ∀ i, i < n → cntN n a b i = 1
def tileB (n a b : Nat) : Bool := decide (∀ i, i < n → cntN n a b i = 1)
theorem tileB_true {n a b : Nat} : tileB n a b = true ↔ Tile n a b := decide_eq_true_iff
theorem tileB_false {n a b : Nat} : tileB n a b = false ↔ ¬ Tile n a b := decide_eq_false_iff_not

/-- Back around the circle. -/
theorem sum_turned (n u : Nat) (hu : u < n) (f : Nat → Nat) : sumN n (fun i => f ((i + n - u) % n)) = sumN n f := by
  by_cases h0 : u = 0
  · subst h0
    refine sum_congr (fun i hi => ?_)
    rw [Nat.sub_zero, Nat.add_mod_right, Nat.mod_eq_of_lt hi]
  · have := sum_move n (n - u) (by omega) f
    rw [← this]
    refine sum_congr (fun i hi => ?_)
    rw [show i + n - u = i + (n - u) from by omega]

theorem cnt_sum (n a b : Nat) : sumN n (cntN n a b) = cardN n a * cardN n b := by
  unfold cntN cntK
  rw [sum_swap]
  have e : sumN n (fun j => sumN n (fun i => bI b j * bI a ((i + n - j) % n))) = sumN n (fun j => cardN n a * bI b j) :=
    sum_congr (fun j hj => by rw [sum_mul, sum_turned n j hj (bI a)]; unfold cardN; rw [Nat.mul_comm])
  rw [e, sum_mul]
  rfl

/-- A rhythm moved by some steps, all together. -/
def orMv (n a : Nat) (l : List Nat) : Nat := l.foldl (fun acc y => acc ||| mvN n a y) 0
theorem orMv_snoc (n a : Nat) (l : List Nat) (y : Nat) : orMv n a (l ++ [y]) = orMv n a l ||| mvN n a y := by
  unfold orMv; rw [List.foldl_append]; rfl
theorem testBit_orMv_aux (n a : Nat) (l : List Nat) (acc i : Nat) : (l.foldl (fun acc y => acc ||| mvN n a y) acc).testBit i = (acc.testBit i || l.any (fun y => (mvN n a y).testBit i)) := by
  induction l generalizing acc with
  | nil => simp
  | cons x l ih => rw [List.foldl_cons, ih, Nat.testBit_or, List.any_cons, Bool.or_assoc]
theorem testBit_orMv (n a : Nat) (l : List Nat) (i : Nat) : (orMv n a l).testBit i = l.any (fun y => (mvN n a y).testBit i) := by
  unfold orMv; rw [testBit_orMv_aux]; simp
theorem orMv_lt (n a : Nat) (l : List Nat) : orMv n a l < 2 ^ n := by
  apply Nat.lt_pow_two_of_testBit
  intro i hi
  rw [testBit_orMv, List.any_eq_false]
  intro y _
  rw [Nat.testBit_lt_two_pow (Nat.lt_of_lt_of_le mv_lt (Nat.pow_le_pow_right (by omega) hi))]
  simp

theorem orMv_bit {n a k i : Nat} (b : Nat) (hk : k ≤ n) (ha : a < 2 ^ n) (hi : i < n) : (orMv n a (tonesB k b)).testBit i = decide (1 ≤ cntK n a b i k) := by
  rw [testBit_orMv, Bool.eq_iff_iff, List.any_eq_true, decide_eq_true_eq]
  constructor
  · rintro ⟨y, hy, hb⟩
    unfold tonesB at hy
    rw [List.mem_filter, List.mem_range] at hy
    rw [testBit_mv (by omega) ha, Bool.and_eq_true] at hb
    have h1 := sum_at (fun y => bI b y * bI a ((i + n - y) % n)) hy.1
    have e : bI b y * bI a ((i + n - y) % n) = 1 := by rw [bI_one.2 hy.2, bI_one.2 hb.2]
    simp only [e] at h1
    exact h1
  · intro h
    obtain ⟨y, hy, hf⟩ := sum_pos (show 0 < sumN k (fun y => bI b y * bI a ((i + n - y) % n)) from h)
    have h1 := bI01 b y
    have h2 := bI01 a ((i + n - y) % n)
    have e1 : bI b y = 1 := by
      rcases Nat.eq_zero_or_pos (bI b y) with e | e
      · simp [e] at hf
      · omega
    have e2 : bI a ((i + n - y) % n) = 1 := by
      rcases Nat.eq_zero_or_pos (bI a ((i + n - y) % n)) with e | e
      · simp [e] at hf
      · omega
    refine ⟨y, ?_, ?_⟩
    · unfold tonesB; rw [List.mem_filter, List.mem_range]; exact ⟨hy, bI_one.1 e1⟩
    · rw [testBit_mv (by omega) ha, decide_eq_true hi, Bool.true_and]; exact bI_one.1 e2

theorem full_iff {n x : Nat} (hx : x < 2 ^ n) : x = 2 ^ n - 1 ↔ ∀ i, i < n → x.testBit i = true := by
  constructor
  · rintro rfl i hi; rw [Nat.testBit_two_pow_sub_one]; simp [hi]
  · intro h
    apply Nat.eq_of_testBit_eq
    intro i
    rw [Nat.testBit_two_pow_sub_one]
    by_cases hi : i < n
    · rw [h i hi]; simp [hi]
    · rw [Nat.testBit_lt_two_pow (Nat.lt_of_lt_of_le hx (Nat.pow_le_pow_right (by omega) (by omega)))]; simp [hi]

/-- The program's test. -/
theorem tile_prog {n a b : Nat} (ha : a < 2 ^ n) : (orMv n a (tonesB n b) = 2 ^ n - 1 ∧ cardN n a * cardN n b = n) ↔ Tile n a b := by
  rw [full_iff (orMv_lt _ _ _)]
  constructor
  · rintro ⟨h1, h2⟩
    rw [← cnt_sum] at h2
    exact sum_all_one (fun i hi => by have := h1 i hi; rw [orMv_bit b (Nat.le_refl _) ha hi, decide_eq_true_eq] at this; exact this) h2
  · intro h
    refine ⟨fun i hi => ?_, ?_⟩
    · rw [orMv_bit b (Nat.le_refl _) ha hi, decide_eq_true_eq]; have := h i hi; unfold cntN at this; omega
    · rw [← cnt_sum, sum_congr (g := fun _ => 1) h, sum_const, Nat.mul_one]

/-- The reference's test: no beat comes twice, till now. -/
def OnceK (n a b k : Nat) : Prop := ∀ i, i < n → cntK n a b i k ≤ 1
theorem once_zero (n a b : Nat) : OnceK n a b 0 := fun i _ => by simp [cntK, sumN]
theorem tonesB_snoc (k b : Nat) : tonesB (k + 1) b = tonesB k b ++ if b.testBit k then [k] else [] := by
  unfold tonesB
  rw [List.range_succ, List.filter_append]
  congr 1
  cases h : b.testBit k <;> simp [h]
theorem once_step {n a b k : Nat} (hk : k < n) (ha : a < 2 ^ n) (hb : b.testBit k = true) (h : OnceK n a b k) :
    (orMv n a (tonesB k b) &&& mvN n a k = 0 → OnceK n a b (k + 1)) ∧ (orMv n a (tonesB k b) &&& mvN n a k ≠ 0 → ¬ Tile n a b) := by
  constructor
  · intro h0 i hi
    rw [cntK_succ]
    have h1 := h i hi
    have h2 : (orMv n a (tonesB k b) &&& mvN n a k).testBit i = false := by rw [h0]; simp
    rw [Nat.testBit_and, orMv_bit b (by omega) ha hi, testBit_mv hk ha, decide_eq_true hi, Bool.true_and] at h2
    have h3 := bI01 b k
    have h4 := bI01 a ((i + n - k) % n)
    rw [bI_one.2 hb, Nat.one_mul]
    rcases Bool.and_eq_false_iff.1 h2 with e | e
    · rw [decide_eq_false_iff_not] at e; omega
    · rw [bI_zero.2 e]; omega
  · intro h0 ht
    obtain ⟨i, hi⟩ : ∃ i, (orMv n a (tonesB k b) &&& mvN n a k).testBit i = true := Nat.exists_testBit_of_ne_zero h0
    rw [Nat.testBit_and, Bool.and_eq_true, testBit_mv hk ha, Bool.and_eq_true, decide_eq_true_eq] at hi
    obtain ⟨h1, hin, h2⟩ := hi
    rw [orMv_bit b (by omega) ha hin, decide_eq_true_eq] at h1
    have h3 := cntK_le (n := n) (a := a) (b := b) (i := i) (k := k + 1) (by omega)
    rw [cntK_succ, bI_one.2 hb, bI_one.2 h2] at h3
    have := ht i hin
    omega
theorem once_skip {n a b k : Nat} (hb : b.testBit k = false) (h : OnceK n a b k) : OnceK n a b (k + 1) := fun i hi => by
  rw [cntK_succ, bI_zero.2 hb, Nat.zero_mul]; exact h i hi
theorem once_full {n a b : Nat} (ha : a < 2 ^ n) (h : OnceK n a b n) : orMv n a (tonesB n b) = 2 ^ n - 1 ↔ Tile n a b := by
  rw [full_iff (orMv_lt _ _ _)]
  constructor
  · intro h1 i hi
    have h2 := h1 i hi
    rw [orMv_bit b (Nat.le_refl _) ha hi, decide_eq_true_eq] at h2
    have := h i hi
    unfold cntN; omega
  · intro h1 i hi
    rw [orMv_bit b (Nat.le_refl _) ha hi, decide_eq_true_eq]
    have := h1 i hi
    unfold cntN at this; omega

/-- Where a beat comes from. -/
def comes (n a b beat y : Nat) : Bool := b.testBit y && a.testBit ((beat + n - y) % n)
theorem tile_entry {n a b : Nat} (h : Tile n a b) {beat : Nat} (hi : beat < n) : ∃ y, y < n ∧ comes n a b beat y = true ∧ ∀ z, z < n → comes n a b beat z = true → z = y := by
  obtain ⟨y, hy, h1, h2⟩ := sum_one (show sumN n (fun y => bI b y * bI a ((beat + n - y) % n)) = 1 from h beat hi)
  have key : ∀ z, bI b z * bI a ((beat + n - z) % n) = 1 ↔ comes n a b beat z = true := fun z => by
    unfold comes bI
    cases b.testBit z <;> cases a.testBit ((beat + n - z) % n) <;> simp
  refine ⟨y, hy, (key y).1 h1, fun z hz hc => h2 z hz ?_⟩
  have := (key z).2 hc
  simp only [this]
  omega

/-! ### periods -/

theorem mv_full {n c : Nat} (hc : c < 2 ^ n) : mvN n c n = c := by
  apply Nat.eq_of_testBit_eq
  intro i
  unfold mvN
  rw [Nat.testBit_and, Nat.testBit_or, Nat.testBit_two_pow_sub_one, Nat.testBit_shiftLeft, Nat.testBit_shiftRight]
  by_cases h : i < n
  · rw [Nat.sub_self, Nat.zero_add]; simp [h]; intro hle; omega
  · rw [Nat.testBit_lt_two_pow (Nat.lt_of_lt_of_le hc (Nat.pow_le_pow_right (by omega) (show n ≤ i by omega)))]; simp [h]

def perB (n a d : Nat) : Bool := n % d == 0 && mvN n a d == a
theorem perB_full {n a : Nat} (ha : a < 2 ^ n) : perB n a n = true := by unfold perB; rw [mv_full ha]; simp
/-- The least period. -/
def perN (n a : Nat) : Nat := ((List.range' 1 n).find? (perB n a)).getD n
theorem perN_of {n a p : Nat} (h1 : 1 ≤ p) (h2 : p ≤ n) (h3 : perB n a p = true) (h4 : ∀ j, 1 ≤ j → j < p → perB n a j = false) : perN n a = p := by
  unfold perN
  have e : (List.range' 1 n).find? (perB n a) = some p := by
    rw [List.find?_range'_eq_some]
    refine ⟨h3, by simp; omega, fun j hj1 hj2 => by simp [h4 j hj1 hj2]⟩
  rw [e]; rfl
theorem perN_spec {n a : Nat} (hn : 1 ≤ n) (ha : a < 2 ^ n) : 1 ≤ perN n a ∧ perN n a ≤ n ∧ perB n a (perN n a) = true ∧ ∀ j, 1 ≤ j → j < perN n a → perB n a j = false := by
  have h : ∃ p, 1 ≤ p ∧ p ≤ n ∧ perB n a p = true ∧ ∀ j, 1 ≤ j → j < p → perB n a j = false := by
    have : ∀ k, (∃ p, 1 ≤ p ∧ p ≤ k ∧ perB n a p = true ∧ ∀ j, 1 ≤ j → j < p → perB n a j = false) ∨ (∀ j, 1 ≤ j → j ≤ k → perB n a j = false) := by
      intro k
      induction k with
      | zero => right; intro j h1 h2; omega
      | succ k ih =>
        rcases ih with ⟨p, h1, h2, h3, h4⟩ | h
        · left; exact ⟨p, h1, by omega, h3, h4⟩
        · cases e : perB n a (k + 1)
          · right; intro j h1 h2
            by_cases e2 : j = k + 1
            · rw [e2, e]
            · exact h j h1 (by omega)
          · left; exact ⟨k + 1, by omega, by omega, e, fun j h1 h2 => h j h1 (by omega)⟩
    rcases this n with ⟨p, h1, h2, h3, h4⟩ | h
    · exact ⟨p, h1, h2, h3, h4⟩
    · have := h n hn (Nat.le_refl _); rw [perB_full ha] at this; cases this
  obtain ⟨p, h1, h2, h3, h4⟩ := h
  rw [perN_of h1 h2 h3 h4]
  exact ⟨h1, h2, h3, h4⟩

/-- A period leads a beat to a beat. -/
theorem per_bit {n a d : Nat} (hd : 1 ≤ d) (hdn : d ≤ n) (ha : a < 2 ^ n) (h : perB n a d = true) {i : Nat} (hi : i < n) : a.testBit i = a.testBit ((i + n - d) % n) := by
  unfold perB at h
  rw [Bool.and_eq_true, beq_iff_eq, beq_iff_eq] at h
  by_cases e : d = n
  · subst e; rw [show i + d - d = i from by omega, Nat.mod_eq_of_lt hi]
  · have h2 := testBit_mv (n := n) (c := a) (u := d) (by omega) ha i
    rw [h.2, decide_eq_true hi, Bool.true_and] at h2
    exact h2
theorem per_mod {n a d : Nat} (hd : 1 ≤ d) (hdn : d ≤ n) (ha : a < 2 ^ n) (h : perB n a d = true) : ∀ i, i < n → a.testBit i = a.testBit (i % d) := by
  intro i
  induction i using Nat.strongRecOn with
  | ind i ih =>
    intro hi
    by_cases e : i < d
    · rw [Nat.mod_eq_of_lt e]
    · rw [per_bit hd hdn ha h hi, show i + n - d = (i - d) + n from by omega, Nat.add_mod_right, Nat.mod_eq_of_lt (by omega), ih (i - d) (by omega) (by omega)]
      congr 1
      rw [← Nat.mod_eq_sub_mod (by omega)]
/-- A rhythm on a circle of one period. -/
def foldN (n a d : Nat) : Nat := orL (fun x => x % d) (tonesB n a)
theorem fold_eq {n a d : Nat} (hd : 1 ≤ d) (hdn : d ≤ n) (ha : a < 2 ^ n) (h : perB n a d = true) : a &&& (2 ^ d - 1) = foldN n a d := by
  apply Nat.eq_of_testBit_eq
  intro i
  unfold foldN
  rw [Nat.testBit_and, Nat.testBit_two_pow_sub_one, testBit_orL, Bool.eq_iff_iff, Bool.and_eq_true, decide_eq_true_eq, List.any_eq_true]
  constructor
  · rintro ⟨h1, h2⟩
    refine ⟨i, ?_, by rw [decide_eq_true_eq, Nat.mod_eq_of_lt h2]⟩
    unfold tonesB; rw [List.mem_filter, List.mem_range]; exact ⟨by omega, h1⟩
  · rintro ⟨x, hx, e⟩
    unfold tonesB at hx
    rw [List.mem_filter, List.mem_range] at hx
    rw [decide_eq_true_eq] at e
    rw [← e]
    exact ⟨by rw [← per_mod hd hdn ha h x hx.1]; exact hx.2, Nat.mod_lt _ (by omega)⟩

end Go.Proofs.YthnenhfdojpobaaDoor
