/-
  The least cost is that of a rotation of the rising tones: crossing voices are exchanged until none is left. Plain mathematics.
-/
import Derived.Test.YtkpiakoijkflmaaVoPrice
import Derived.Test.YtkpiakoijkflmaaVoRise
namespace Go.Proofs.Ytkpiakoijkflmaa

section
def sumZ' : Nat → (Nat → Int) → Int
  | 0, _ => 0
  | k + 1, f => sumZ' k f + f k
theorem sumZ'_congr {f g : Nat → Int} : ∀ {k : Nat}, (∀ i, i < k → f i = g i) → sumZ' k f = sumZ' k g
  | 0, _ => rfl
  | k + 1, h => by rw [sumZ', sumZ', sumZ'_congr (fun i hi => h i (by omega)), h k (by omega)]
theorem sumZ'_le {f g : Nat → Int} : ∀ {k : Nat}, (∀ i, i < k → f i ≤ g i) → sumZ' k f ≤ sumZ' k g
  | 0, _ => Int.le_refl _
  | k + 1, h => by
    have := sumZ'_le (k := k) (f := f) (g := g) (fun i hi => h i (by omega))
    have := h k (by omega)
    rw [sumZ', sumZ']; omega
theorem sumZ'_nonneg {f : Nat → Int} : ∀ {k : Nat}, (∀ i, i < k → 0 ≤ f i) → 0 ≤ sumZ' k f
  | 0, _ => Int.le_refl _
  | k + 1, h => by
    have := sumZ'_nonneg (k := k) (f := f) (fun i hi => h i (by omega))
    have := h k (by omega)
    rw [sumZ']; omega
theorem sumZ'_one {f g : Nat → Int} {i : Nat} : ∀ {k : Nat}, i < k → (∀ m, m < k → m ≠ i → g m = f m) → sumZ' k g = sumZ' k f + (g i - f i)
  | 0, h, _ => by omega
  | k + 1, h, he => by
    rw [sumZ', sumZ']
    by_cases e : i = k
    · subst e
      rw [sumZ'_congr (g := f) (fun m hm => he m (by omega) (by omega))]; omega
    · rw [sumZ'_one (k := k) (f := f) (g := g) (by omega) (fun m hm hne => he m (by omega) hne), he k (by omega) (by omega)]; omega
theorem sumZ'_two {f g : Nat → Int} {i j k : Nat} (hij : i < j) (hj : j < k) (he : ∀ m, m < k → m ≠ i → m ≠ j → g m = f m) : sumZ' k g = sumZ' k f + (g i - f i) + (g j - f j) := by
  have h1 := sumZ'_one (f := f) (g := fun m => if m = i then g i else f m) (i := i) (k := k) (by omega) (fun m _ hne => by simp [hne])
  have h2 := sumZ'_one (f := fun m => if m = i then g i else f m) (g := g) (i := j) (k := k) hj (fun m hm hne => by
    by_cases e : m = i
    · subst e; simp
    · simp only [e, if_false]; exact he m hm e hne)
  have hne : ¬ j = i := by omega
  simp only [if_true] at h1
  simp only [hne, if_false] at h2
  omega

def absZ (z : Int) : Int := max z (-z)
/-- The tones of the second voicing, on and on around the circle. -/
def onY (n k : Nat) (Y : Nat → Int) (j : Int) : Int := Y (j % (k : Int)).toNat + (n : Int) * (j / (k : Int))
theorem onY_add (n : Nat) {k : Nat} (hk : 0 < k) (Y : Nat → Int) (j : Int) : onY n k Y (j + k) = onY n k Y j + n := by
  unfold onY
  rw [Int.add_emod_right, Int.add_ediv_of_dvd_right (Int.dvd_refl _), Int.ediv_self (by omega), Int.mul_add, Int.mul_one]; omega
theorem onY_sub (n : Nat) {k : Nat} (hk : 0 < k) (Y : Nat → Int) (j : Int) : onY n k Y (j - k) = onY n k Y j - n := by
  have := onY_add n hk Y (j - k)
  rw [Int.sub_add_cancel] at this; omega
/-- Tones in rising order. -/
structure Ris (n k : Nat) (Y : Nat → Int) : Prop where
  lo : ∀ i, i < k → 0 ≤ Y i
  hi : ∀ i, i < k → Y i < n
  up : ∀ i, i + 1 < k → Y i ≤ Y (i + 1)
theorem onY_step {n k : Nat} (hk : 0 < k) {Y : Nat → Int} (h : Ris n k Y) (j : Int) : onY n k Y j ≤ onY n k Y (j + 1) := by
  obtain ⟨q, hq⟩ : ∃ q, q = j / (k : Int) := ⟨_, rfl⟩
  obtain ⟨r, hr⟩ : ∃ r : Nat, (r : Int) = j % (k : Int) := ⟨(j % (k : Int)).toNat, by have := Int.emod_nonneg j (show (k : Int) ≠ 0 by omega); omega⟩
  have hrk : r < k := by have := Int.emod_lt_of_pos j (show 0 < (k : Int) by omega); omega
  have hj : j = k * q + r := by rw [hq, hr]; exact (Int.mul_ediv_add_emod j k).symm
  have e1 : ∀ (a : Int) (s : Nat), s < k → onY n k Y (k * a + s) = Y s + n * a := fun a s hs => by
    unfold onY
    rw [Int.mul_add_emod_self_left, Int.emod_eq_of_lt (by omega) (by omega), Int.mul_add_ediv_left _ _ (by omega), Int.ediv_eq_zero_of_lt (by omega) (by omega)]
    simp
  rw [hj, e1 q r hrk]
  by_cases e : r + 1 < k
  · have := e1 q (r + 1) e
    rw [show (k : Int) * q + r + 1 = k * q + ((r + 1 : Nat) : Int) from by omega, this]
    have := h.up r e; omega
  · have h0 := e1 (q + 1) 0 hk
    have e2 : (k : Int) * q + r + 1 = k * (q + 1) + ((0 : Nat) : Int) := by rw [Int.mul_add, Int.mul_one]; omega
    rw [e2, h0, Int.mul_add, Int.mul_one]
    have := h.hi r hrk
    have := h.lo 0 hk
    omega
theorem onY_mono {n k : Nat} (hk : 0 < k) {Y : Nat → Int} (h : Ris n k Y) {i j : Int} (hij : i ≤ j) : onY n k Y i ≤ onY n k Y j := by
  obtain ⟨d, rfl⟩ : ∃ d : Nat, j = i + d := ⟨(j - i).toNat, by omega⟩
  clear hij
  induction d with
  | zero => simp
  | succ d ih =>
    have := onY_step hk h (i + d)
    rw [show i + ((d + 1 : Nat) : Int) = i + d + 1 from by omega]
    omega

/-- Exchanging two voices. -/
def exch (g : Nat → Int) (i j : Nat) (d : Int) : Nat → Int := fun m => if m = i then g j - d else if m = j then g i + d else g m
theorem exch_fst (g : Nat → Int) (i j : Nat) (d : Int) : exch g i j d i = g j - d := by simp [exch]
theorem exch_snd (g : Nat → Int) {i j : Nat} (h : i < j) (d : Int) : exch g i j d j = g i + d := by
  have : ¬ j = i := by omega
  simp [exch, this]
theorem exch_else (g : Nat → Int) {i j m : Nat} (h1 : m ≠ i) (h2 : m ≠ j) (d : Int) : exch g i j d m = g m := by simp [exch, h1, h2]
def Apart' (k : Nat) (g : Nat → Int) : Prop := ∀ i j, i < k → j < k → i ≠ j → g i % (k : Int) ≠ g j % (k : Int)
theorem apart_exch {k : Nat} {g : Nat → Int} {i j : Nat} {d : Int} (hij : i < j) (hj : j < k) (hd : d = 0 ∨ d = k) (h : Apart' k g) : Apart' k (exch g i j d) := by
  obtain ⟨t, ht⟩ : ∃ t : Nat → Nat, t = fun m => if m = i then j else if m = j then i else m := ⟨_, rfl⟩
  have hm : ∀ m, m < k → exch g i j d m % (k : Int) = g (t m) % (k : Int) ∧ t m < k ∧ t (t m) = m := fun m hm => by
    by_cases e : m = i
    · subst e
      have hji : ¬ j = m := by omega
      refine ⟨?_, by rw [ht]; simp only [if_true]; exact hj, by rw [ht]; simp [hji]⟩
      rw [exch_fst, ht]; simp only [if_true]
      rcases hd with rfl | rfl
      · simp
      · exact Int.sub_emod_right _ _
    · by_cases e2 : m = j
      · subst e2
        refine ⟨?_, by rw [ht]; simp only [e, if_false, if_true]; omega, by rw [ht]; simp [e]⟩
        rw [exch_snd g hij, ht]; simp only [e, if_false, if_true]
        rcases hd with rfl | rfl
        · simp
        · exact Int.add_emod_right _ _
      · refine ⟨by rw [exch_else g e e2, ht]; simp [e, e2], by rw [ht]; simp only [e, e2, if_false]; exact hm, by rw [ht]; simp [e, e2]⟩
  intro a b ha hb hab
  rw [(hm a ha).1, (hm b hb).1]
  refine h _ _ (hm a ha).2.1 (hm b hb).2.1 (fun e => hab ?_)
  rw [← (hm a ha).2.2, ← (hm b hb).2.2, e]

def goZ (n k : Nat) (X Y g : Nat → Int) : Int := sumZ' k fun i => absZ (X i - onY n k Y (g i))
def devZ (k : Nat) (g : Nat → Int) : Int := sumZ' k fun i => (g i - i) * (g i - i)
theorem sq_nonneg' (z : Int) : 0 ≤ z * z := by
  rcases Int.le_total 0 z with h | h
  · exact Int.mul_nonneg h h
  · exact Int.mul_nonneg_of_nonpos_of_nonpos h h
theorem devZ_nonneg (k : Nat) (g : Nat → Int) : 0 ≤ devZ k g := sumZ'_nonneg fun i _ => sq_nonneg' _
theorem sq_sub_one (z : Int) : (z - 1) * (z - 1) = z * z - 2 * z + 1 := by
  rw [Int.sub_mul, Int.mul_sub]; omega
theorem sq_add_one (z : Int) : (z + 1) * (z + 1) = z * z + 2 * z + 1 := by
  rw [Int.add_mul, Int.mul_add]; omega

theorem uncross {n k : Nat} (hk : 0 < k) {X Y : Nat → Int} (hX : Ris n k X) (hY : Ris n k Y) : ∀ (D : Nat) (g : Nat → Int), (devZ k g).toNat = D → Apart' k g → ∃ c : Int, goZ n k X Y (fun i => c + i) ≤ goZ n k X Y g := by
  intro D
  induction D using Nat.strongRecOn with
  | ind D ih =>
    intro g hD hg
    by_cases h1 : ∃ i, i + 1 < k ∧ g (i + 1) < g i
    · obtain ⟨i, hi, hlt⟩ := h1
      have hdev : devZ k (exch g i (i + 1) 0) < devZ k g := by
        unfold devZ
        rw [sumZ'_two (f := fun i => (g i - i) * (g i - i)) (i := i) (j := i + 1) (k := k) (by omega) hi (fun m _ a b => by simp only [exch_else g a b])]
        try simp only
        rw [exch_fst, exch_snd g (by omega)]
        have a1 := sq_sub_one (g i - i)
        have a2 := sq_sub_one (g (i + 1) - i)
        rw [show g i + 0 - ((i + 1 : Nat) : Int) = g i - i - 1 from by omega, show g (i + 1) - 0 - (i : Int) = g (i + 1) - i from by omega, show g (i + 1) - ((i + 1 : Nat) : Int) = g (i + 1) - i - 1 from by omega, a1, a2]
        omega
      have hgo : goZ n k X Y (exch g i (i + 1) 0) ≤ goZ n k X Y g := by
        unfold goZ
        rw [sumZ'_two (f := fun i => absZ (X i - onY n k Y (g i))) (i := i) (j := i + 1) (k := k) (by omega) hi (fun m _ a b => by simp only [exch_else g a b])]
        try simp only
        rw [exch_fst, exch_snd g (by omega), Int.add_zero, Int.sub_zero]
        have b1 := onY_mono hk hY (Int.le_of_lt hlt)
        have b2 := hX.up i hi
        unfold absZ
        omega
      obtain ⟨c, hc⟩ := ih _ (by have := devZ_nonneg k (exch g i (i + 1) 0); omega) (exch g i (i + 1) 0) rfl (apart_exch (by omega) hi (Or.inl rfl) hg)
      exact ⟨c, by omega⟩
    · by_cases h2 : g 0 + k < g (k - 1)
      · have hk2 : 0 < k - 1 := by
          rcases Nat.lt_or_ge 0 (k - 1) with h | h
          · exact h
          · have : k - 1 = 0 := by omega
            rw [this] at h2; omega
        have hkc : ((k - 1 : Nat) : Int) = k - 1 := by omega
        have hdev : devZ k (exch g 0 (k - 1) k) < devZ k g := by
          unfold devZ
          rw [sumZ'_two (f := fun i => (g i - i) * (g i - i)) (i := 0) (j := k - 1) (k := k) hk2 (by omega) (fun m _ a b => by simp only [exch_else g a b])]
          try simp only
          rw [exch_fst, exch_snd g hk2, hkc]
          have a1 := sq_sub_one (g (k - 1) - (k - 1))
          have a2 := sq_add_one (g 0)
          rw [show g (k - 1) - (k : Int) - ((0 : Nat) : Int) = g (k - 1) - (k - 1) - 1 from by omega, show g 0 + (k : Int) - (k - 1) = g 0 + 1 from by omega, show g 0 - ((0 : Nat) : Int) = g 0 from by omega, a1, a2]
          omega
        have hgo : goZ n k X Y (exch g 0 (k - 1) k) ≤ goZ n k X Y g := by
          unfold goZ
          rw [sumZ'_two (f := fun i => absZ (X i - onY n k Y (g i))) (i := 0) (j := k - 1) (k := k) hk2 (by omega) (fun m _ a b => by simp only [exch_else g a b])]
          try simp only
          rw [exch_fst, exch_snd g hk2, onY_add n hk, onY_sub n hk]
          have b1 := onY_mono hk hY (Int.le_of_lt h2)
          rw [onY_add n hk] at b1
          have b2 := hX.lo 0 hk
          have b3 := hX.hi (k - 1) (by omega)
          unfold absZ
          omega
        obtain ⟨c, hc⟩ := ih _ (by have := devZ_nonneg k (exch g 0 (k - 1) k); omega) (exch g 0 (k - 1) k) rfl (apart_exch hk2 (by omega) (Or.inr rfl) hg)
        exact ⟨c, by omega⟩
      · have up : ∀ i, i + 1 < k → g i + 1 ≤ g (i + 1) := fun i hi => by
          have a : ¬ g (i + 1) < g i := fun h => h1 ⟨i, hi, h⟩
          have b : g i ≠ g (i + 1) := fun h => hg i (i + 1) (by omega) hi (by omega) (by rw [h])
          omega
        have low : ∀ i, i < k → g 0 + i ≤ g i := fun i => by
          induction i with
          | zero => intro _; omega
          | succ i ihi => intro hi; have := ihi (by omega); have := up i hi; omega
        have top : g (k - 1) ≤ g 0 + (k - 1 : Nat) := by
          by_cases e : k = 1
          · subst e; simp
          · have b : g (k - 1) ≠ g 0 + k := fun h => hg (k - 1) 0 (by omega) hk (by omega) (by rw [h, Int.add_emod_right])
            omega
        have hi' : ∀ d, d < k → g (k - 1 - d) ≤ g 0 + (k - 1 - d : Nat) := fun d => by
          induction d with
          | zero => intro _; exact top
          | succ d ihd =>
            intro hd
            have a := ihd (by omega)
            have b := up (k - 1 - (d + 1)) (by omega)
            rw [show k - 1 - (d + 1) + 1 = k - 1 - d from by omega] at b
            omega
        refine ⟨g 0, Int.le_of_eq ?_⟩
        unfold goZ
        refine sumZ'_congr fun i hi => ?_
        have a := low i hi
        have b := hi' (k - 1 - i) (by omega)
        rw [show k - 1 - (k - 1 - i) = i from by omega] at b
        have : g i = g 0 + i := by omega
        simp only [this]
end

section
/-
  The least cost is that of a rotation: from lists.
-/
def atZ (us : List Nat) (i : Nat) : Int := (us[i]?.getD 0 : Nat)
/-- The leading that goes on by r places. -/
def rotN (k r : Nat) : List Nat := (List.range k).map fun i => (i + r) % k
theorem rotN_length (k r : Nat) : (rotN k r).length = k := by simp [rotN]
theorem rotN_at {k r i : Nat} (h : i < k) : (rotN k r)[i]?.getD 0 = (i + r) % k := by
  unfold rotN; rw [List.getElem?_map, List.getElem?_range h]; rfl
theorem rotN_fits {k r : Nat} : Fits k 0 (rotN k r) := by
  by_cases hk : 0 < k
  · refine ⟨?_, fun p hp => ?_⟩
    · rw [List.Nodup, List.pairwise_iff_getElem]
      intro i j hi hj hij
      rw [rotN_length] at hj hi
      have hat : ∀ m (hm : m < (rotN k r).length), (rotN k r)[m] = (m + r) % k := fun m hm => by simp [rotN]
      rw [hat, hat]
      intro e
      have h1 := Nat.mod_add_div (i + r) k
      have h2 := Nat.mod_add_div (j + r) k
      have h3 : k * ((j + r) / k) - k * ((i + r) / k) = j - i := by omega
      rw [← Nat.mul_sub] at h3
      rcases Nat.eq_zero_or_pos ((j + r) / k - (i + r) / k) with h | h
      · rw [h, Nat.mul_zero] at h3; omega
      · have := Nat.mul_le_mul_left k h; omega
    · unfold rotN at hp
      obtain ⟨i, _, rfl⟩ := List.mem_map.1 hp
      exact ⟨Nat.mod_lt _ hk, Nat.zero_testBit _⟩
  · have : k = 0 := by omega
    subst this
    exact ⟨by simp [rotN], by simp [rotN]⟩

theorem atZ_ris {n : Nat} {us : List Nat} (h : us.Pairwise (· ≤ ·)) (hb : ∀ x ∈ us, x < n) : Ris n us.length (atZ us) := by
  have hat : ∀ i (hi : i < us.length), atZ us i = (us[i] : Nat) := fun i hi => by unfold atZ; rw [List.getElem?_eq_getElem hi]; rfl
  refine ⟨fun i _ => Int.natCast_nonneg _, fun i hi => ?_, fun i hi => ?_⟩
  · rw [hat i hi]; have := hb _ (List.getElem_mem hi); omega
  · rw [hat i (by omega), hat (i + 1) hi]
    have := (List.pairwise_iff_getElem.1 h) i (i + 1) (by omega) hi (by omega)
    omega
theorem prT_sum {n : Nat} {us bs l : List Nat} (h : us.length = l.length) : ∀ k, k ≤ l.length → (prT n bs (us.take k) (l.take k) : Int) = sumZ' k fun i => (dsN n (us[i]?.getD 0) (bs[l[i]?.getD 0]?.getD 0) : Int)
  | 0, _ => by simp [prT, sumZ']
  | k + 1, hk => by rw [prT_take h (by omega), sumZ', ← prT_sum h k (by omega)]; exact Int.natCast_add _ _
theorem prT_all {n : Nat} {us bs l : List Nat} (h : us.length = l.length) : (prT n bs us l : Int) = sumZ' us.length fun i => (dsN n (us[i]?.getD 0) (bs[l[i]?.getD 0]?.getD 0) : Int) := by
  have := prT_sum (n := n) (bs := bs) h us.length (by omega)
  rwa [List.take_length, List.take_of_length_le (by omega)] at this

theorem ds_le_turn {n x y : Nat} (hx : x < n) (hy : y < n) (q : Int) : (dsN n x y : Int) ≤ absZ ((x : Int) - (y + (n : Int) * q)) := by
  have hq : (n : Int) * q = 0 ∨ (n : Int) ≤ n * q ∨ (n : Int) * q ≤ -n := by
    rcases Int.lt_trichotomy q 0 with h | h | h
    · right; right
      have := Int.mul_le_mul_of_nonneg_left (show q ≤ -1 by omega) (show (0 : Int) ≤ n by omega)
      omega
    · left; rw [h, Int.mul_zero]
    · right; left
      have := Int.mul_le_mul_of_nonneg_left (show 1 ≤ q by omega) (show (0 : Int) ≤ n by omega)
      omega
  generalize (n : Int) * q = Q at *
  unfold absZ
  by_cases h : x ≤ y
  · rw [dsN_ge h hy]; omega
  · rw [dsN_comm, dsN_ge (by omega) hx]; omega
theorem ds_turn {n x y : Nat} (hx : x < n) (hy : y < n) : ∃ q : Int, (dsN n x y : Int) = absZ ((x : Int) - (y + (n : Int) * q)) := by
  unfold absZ
  by_cases h : x ≤ y
  · rw [dsN_ge h hy]
    by_cases h2 : y - x ≤ x + n - y
    · exact ⟨0, by rw [Int.mul_zero]; omega⟩
    · exact ⟨-1, by rw [Int.mul_neg, Int.mul_one]; omega⟩
  · rw [dsN_comm, dsN_ge (by omega) hx]
    by_cases h2 : x - y ≤ y + n - x
    · exact ⟨0, by rw [Int.mul_zero]; omega⟩
    · exact ⟨1, by rw [Int.mul_one]; omega⟩

theorem rot_least {n : Nat} {us bs : List Nat} (hv : Vc n us bs) (hu : us.Pairwise (· ≤ ·)) (hb : bs.Pairwise (· ≤ ·)) : ∃ r, r < us.length ∧ prT n bs us (rotN us.length r) ≤ costN n us bs := by
  have hk := hv.l1
  have hlen := hv.len
  obtain ⟨l, hl, hf, hc⟩ := cost_ex (n := n) (bs := bs) («as» := us) (T := 0) (by rw [free_all, hlen]; exact Nat.le_refl _)
  have hX := atZ_ris hu hv.la
  have hY := atZ_ris hb hv.lb
  rw [← hlen] at hY
  have hax : ∀ i, i < us.length → us[i]?.getD 0 < n := fun i hi => by
    rw [List.getElem?_eq_getElem hi]; exact hv.la _ (List.getElem_mem hi)
  have hbx : ∀ i, i < us.length → bs[i]?.getD 0 < n := fun i hi => by
    rw [List.getElem?_eq_getElem (show i < bs.length by omega)]; exact hv.lb _ (List.getElem_mem _)
  have hli : ∀ i, i < us.length → l[i]?.getD 0 < us.length := fun i hi => by
    rw [List.getElem?_eq_getElem (show i < l.length by omega)]; have := (hf.2 _ (List.getElem_mem (show i < l.length by omega))).1; simp only [Option.getD_some]; omega
  have e1 : ∀ (a : Int) (s : Nat), s < us.length → onY n us.length (atZ bs) (s + us.length * a) = atZ bs s + n * a := fun a s hs => by
    unfold onY
    rw [Int.add_mul_emod_self_left, Int.emod_eq_of_lt (by omega) (by omega), Int.add_mul_ediv_left _ _ (by omega), Int.ediv_eq_zero_of_lt (by omega) (by omega)]
    simp
  have hq : ∀ i, ∃ q : Int, i < us.length → (dsN n (us[i]?.getD 0) (bs[l[i]?.getD 0]?.getD 0) : Int) = absZ (atZ us i - (atZ bs (l[i]?.getD 0) + n * q)) := fun i => by
    by_cases hi : i < us.length
    · obtain ⟨q, h⟩ := ds_turn (hax i hi) (hbx _ (hli i hi))
      exact ⟨q, fun _ => h⟩
    · exact ⟨0, fun h => absurd h hi⟩
  obtain ⟨q, hq⟩ := Classical.axiomOfChoice hq
  obtain ⟨g, hg⟩ : ∃ g : Nat → Int, g = fun i => ((l[i]?.getD 0 : Nat) : Int) + us.length * q i := ⟨_, rfl⟩
  have hgo : goZ n us.length (atZ us) (atZ bs) g = (costN n us bs : Int) := by
    unfold costN
    rw [hc, prT_all (by omega)]
    unfold goZ
    refine sumZ'_congr fun i hi => ?_
    rw [hq i hi, hg, e1 _ _ (hli i hi)]
  have hap : Apart' us.length g := fun i j hi hj hij => by
    have hm : ∀ m, m < us.length → g m % (us.length : Int) = ((l[m]?.getD 0 : Nat) : Int) := fun m hm => by
      rw [hg]
      simp only
      rw [Int.add_mul_emod_self_left, Int.emod_eq_of_lt (by omega) (by have := hli m hm; omega)]
    rw [hm i hi, hm j hj]
    intro e
    have e' : l[i]?.getD 0 = l[j]?.getD 0 := by exact_mod_cast e
    rw [List.getElem?_eq_getElem (show i < l.length by omega), List.getElem?_eq_getElem (show j < l.length by omega)] at e'
    simp only [Option.getD_some] at e'
    have hp := List.pairwise_iff_getElem.1 hf.1
    rcases Nat.lt_or_gt_of_ne hij with h | h
    · exact hp i j (by omega) (by omega) h e'
    · exact hp j i (by omega) (by omega) h e'.symm
  obtain ⟨c, hcc⟩ := uncross hk hX hY _ g rfl hap
  obtain ⟨r, hr⟩ : ∃ r : Nat, (r : Int) = c % (us.length : Int) := ⟨(c % (us.length : Int)).toNat, by have := Int.emod_nonneg c (show (us.length : Int) ≠ 0 by omega); omega⟩
  have hrk : r < us.length := by have := Int.emod_lt_of_pos c (show 0 < (us.length : Int) by omega); omega
  refine ⟨r, hrk, ?_⟩
  have : (prT n bs us (rotN us.length r) : Int) ≤ goZ n us.length (atZ us) (atZ bs) (fun i => c + i) := by
    rw [prT_all (by rw [rotN_length])]
    unfold goZ
    refine sumZ'_le fun i hi => ?_
    rw [rotN_at hi]
    unfold onY
    have em : ((c + (i : Int)) % (us.length : Int)).toNat = (i + r) % us.length := by
      have : (c + (i : Int)) % (us.length : Int) = (((i + r) % us.length : Nat) : Int) := by
        rw [Int.natCast_emod, Int.natCast_add, hr, Int.add_comm c, Int.add_emod_emod]
      omega
    rw [em]
    exact ds_le_turn (hax i hi) (hbx _ (Nat.mod_lt _ (by omega))) _
  omega
/-- The prices of the first rotations. -/
def rotP (n : Nat) (bs us : List Nat) (j : Nat) : List Nat := (List.range j).map fun r => prT n bs us (rotN us.length r)
theorem rotP_succ (n : Nat) (bs us : List Nat) (j : Nat) : rotP n bs us (j + 1) = rotP n bs us j ++ [prT n bs us (rotN us.length j)] := by simp [rotP, List.range_succ]
theorem rot_min {n : Nat} {us bs : List Nat} (hv : Vc n us bs) (hu : us.Pairwise (· ≤ ·)) (hb : bs.Pairwise (· ≤ ·)) : minS (rotP n bs us us.length) = some (costN n us bs) := by
  obtain ⟨r, hr, hp⟩ := rot_least hv hu hb
  have hle : ∀ x ∈ rotP n bs us us.length, costN n us bs ≤ x := fun x hx => by
    obtain ⟨j, _, rfl⟩ := List.mem_map.1 hx
    unfold costN
    exact cost_le (rotN_length _ _) (by rw [← hv.len]; exact rotN_fits)
  have hm : prT n bs us (rotN us.length r) ∈ rotP n bs us us.length := List.mem_map.2 ⟨r, List.mem_range.2 hr, rfl⟩
  cases e : minS (rotP n bs us us.length) with
  | none => rw [(minS_none _).1 e] at hm; simp at hm
  | some m =>
    obtain ⟨h1, h2⟩ := minS_some e
    have a := h2 _ hm
    have b := hle _ h1
    have : m = costN n us bs := by omega
    rw [this]
/-- What the law keeps as the least so far. -/
def leastZ (o : Option Nat) : Int := match o with | none => -1 | some m => m
end

end Go.Proofs.Ytkpiakoijkflmaa
