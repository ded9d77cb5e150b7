/-
  The least cost is that of a rotation: from lists.
-/
import Derived.Test.YtkpiakoijkflmaaVoRot
import Derived.Test.YtkpiakoijkflmaaVoRise
namespace Go.Proofs.Ytkpiakoijkflmaa

def atZ (us : List Nat) (i : Nat) : Int := (us[i]?.getD 0 : Nat)
/-- The leading that goes on by r places. -/
def rotN (k r : Nat) : List Nat := (List.range k).map fun i => (i + r) % k
theorem rotN_length (k r : Nat) : (rotN k r).length = k := by simp [rotN]
theorem rotN_at {k r i : Nat} (h : i < k) : (rotN k r)[i]?.getD 0 = (i + r) % k := by
  unfold rotN; rw [List.getElem?_map, List.getElem?_range h]; rfl
theorem rotN_fits {k r : Nat} : Fits k 0 (rotN k r) := by
  by_cases hk : 0 < k
  · refine ⟨?_, fun p hp => ?_⟩
    · rw [List.Nodup, List.pairwise_iff_getElem]
      intro i j hi hj hij
      rw [rotN_length] at hj hi
      have hat : ∀ m (hm : m < (rotN k r).length), (rotN k r)[m] = (m + r) % k := fun m hm => by simp [rotN]
      rw [hat, hat]
      intro e
      have h1 := Nat.mod_add_div (i + r) k
      have h2 := Nat.mod_add_div (j + r) k
      have h3 : k * ((j + r) / k) - k * ((i + r) / k) = j - i := by omega
      rw [← Nat.mul_sub] at h3
      rcases Nat.eq_zero_or_pos ((j + r) / k - (i + r) / k) with h | h
      · rw [h, Nat.mul_zero] at h3; omega
      · have := Nat.mul_le_mul_left k h; omega
    · unfold rotN at hp
      obtain ⟨i, _, rfl⟩ := List.mem_map.1 hp
      exact ⟨Nat.mod_lt _ hk, Nat.zero_testBit _⟩
  · have : k = 0 := by omega
    subst this
    exact ⟨by simp [rotN], by simp [rotN]⟩

theorem atZ_ris {n : Nat} {us : List Nat} (h : us.Pairwise (· ≤ ·)) (hb : ∀ x ∈ us, x < n) : Ris n us.length (atZ us) := by
  have hat : ∀ i (hi : i < us.length), atZ us i = (us[i] : Nat) := fun i hi => by unfold atZ; rw [List.getElem?_eq_getElem hi]; rfl
  refine ⟨fun i _ => Int.natCast_nonneg _, fun i hi => ?_, fun i hi => ?_⟩
  · rw [hat i hi]; have := hb _ (List.getElem_mem hi); omega
  · rw [hat i (by omega), hat (i + 1) hi]
    have := (List.pairwise_iff_getElem.1 h) i (i + 1) (by omega) hi (by omega)
    omega
theorem prT_sum {n : Nat} {us bs l : List Nat} (h : us.length = l.length) : ∀ k, k ≤ l.length → (prT n bs (us.take k) (l.take k) : Int) = sumZ' k fun i => (dsN n (us[i]?.getD 0) (bs[l[i]?.getD 0]?.getD 0) : Int)
  | 0, _ => by simp [prT, sumZ']
  | k + 1, hk => by rw [prT_take h (by omega), sumZ', ← prT_sum h k (by omega)]; exact Int.natCast_add _ _
theorem prT_all {n : Nat} {us bs l : List Nat} (h : us.length = l.length) : (prT n bs us l : Int) = sumZ' us.length fun i => (dsN n (us[i]?.getD 0) (bs[l[i]?.getD 0]?.getD 0) : Int) := by
  have := prT_sum (n := n) (bs := bs) h us.length (by omega)
  rwa [List.take_length, List.take_of_length_le (by omega)] at this

theorem ds_le_turn {n x y : Nat} (hx : x < n) (hy : y < n) (q : Int) : (dsN n x y : Int) ≤ absZ ((x : Int) - (y + (n : Int) * q)) := by
  have hq : (n : Int) * q = 0 ∨ (n : Int) ≤ n * q ∨ (n : Int) * q ≤ -n := by
    rcases Int.lt_trichotomy q 0 with h | h | h
    · right; right
      have := Int.mul_le_mul_of_nonneg_left (show q ≤ -1 by omega) (show (0 : Int) ≤ n by omega)
      omega
    · left; rw [h, Int.mul_zero]
    · right; left
      have := Int.mul_le_mul_of_nonneg_left (show 1 ≤ q by omega) (show (0 : Int) ≤ n by omega)
      omega
  generalize (n : Int) * q = Q at *
  unfold absZ
  by_cases h : x ≤ y
  · rw [dsN_ge h hy]; omega
  · rw [dsN_comm, dsN_ge (by omega) hx]; omega
theorem ds_turn {n x y : Nat} (hx : x < n) (hy : y < n) : ∃ q : Int, (dsN n x y : Int) = absZ ((x : Int) - (y + (n : Int) * q)) := by
  unfold absZ
  by_cases h : x ≤ y
  · rw [dsN_ge h hy]
    by_cases h2 : y - x ≤ x + n - y
    · exact ⟨0, by rw [Int.mul_zero]; omega⟩
    · exact ⟨-1, by rw [Int.mul_neg, Int.mul_one]; omega⟩
  · rw [dsN_comm, dsN_ge (by omega) hx]
    by_cases h2 : x - y ≤ y + n - x
    · exact ⟨0, by rw [Int.mul_zero]; omega⟩
    · exact ⟨1, by rw [Int.mul_one]; omega⟩

theorem rot_least {n : Nat} {us bs : List Nat} (hv : Vc n us bs) (hu : us.Pairwise (· ≤ ·)) (hb : bs.Pairwise (· ≤ ·)) : ∃ r, r < us.length ∧ prT n bs us (rotN us.length r) ≤ costN n us bs := by
  have hk := hv.l1
  have hlen := hv.len
  obtain ⟨l, hl, hf, hc⟩ := cost_ex (n := n) (bs := bs) («as» := us) (T := 0) (by rw [free_all, hlen]; exact Nat.le_refl _)
  have hX := atZ_ris hu hv.la
  have hY := atZ_ris hb hv.lb
  rw [← hlen] at hY
  have hax : ∀ i, i < us.length → us[i]?.getD 0 < n := fun i hi => by
    rw [List.getElem?_eq_getElem hi]; exact hv.la _ (List.getElem_mem hi)
  have hbx : ∀ i, i < us.length → bs[i]?.getD 0 < n := fun i hi => by
    rw [List.getElem?_eq_getElem (show i < bs.length by omega)]; exact hv.lb _ (List.getElem_mem _)
  have hli : ∀ i, i < us.length → l[i]?.getD 0 < us.length := fun i hi => by
    rw [List.getElem?_eq_getElem (show i < l.length by omega)]; have := (hf.2 _ (List.getElem_mem (show i < l.length by omega))).1; simp only [Option.getD_some]; omega
  have e1 : ∀ (a : Int) (s : Nat), s < us.length → onY n us.length (atZ bs) (s + us.length * a) = atZ bs s + n * a := fun a s hs => by
    unfold onY
    rw [Int.add_mul_emod_self_left, Int.emod_eq_of_lt (by omega) (by omega), Int.add_mul_ediv_left _ _ (by omega), Int.ediv_eq_zero_of_lt (by omega) (by omega)]
    simp
  have hq : ∀ i, ∃ q : Int, i < us.length → (dsN n (us[i]?.getD 0) (bs[l[i]?.getD 0]?.getD 0) : Int) = absZ (atZ us i - (atZ bs (l[i]?.getD 0) + n * q)) := fun i => by
    by_cases hi : i < us.length
    · obtain ⟨q, h⟩ := ds_turn (hax i hi) (hbx _ (hli i hi))
      exact ⟨q, fun _ => h⟩
    · exact ⟨0, fun h => absurd h hi⟩
  obtain ⟨q, hq⟩ := Classical.axiomOfChoice hq
  obtain ⟨g, hg⟩ : ∃ g : Nat → Int, g = fun i => ((l[i]?.getD 0 : Nat) : Int) + us.length * q i := ⟨_, rfl⟩
  have hgo : goZ n us.length (atZ us) (atZ bs) g = (costN n us bs : Int) := by
    unfold costN
    rw [hc, prT_all (by omega)]
    unfold goZ
    refine sumZ'_congr fun i hi => ?_
    rw [hq i hi, hg, e1 _ _ (hli i hi)]
  have hap : Apart' us.length g := fun i j hi hj hij => by
    have hm : ∀ m, m < us.length → g m % (us.length : Int) = ((l[m]?.getD 0 : Nat) : Int) := fun m hm => by
      rw [hg]
      simp only
      rw [Int.add_mul_emod_self_left, Int.emod_eq_of_lt (by omega) (by have := hli m hm; omega)]
    rw [hm i hi, hm j hj]
    intro e
    have e' : l[i]?.getD 0 = l[j]?.getD 0 := by exact_mod_cast e
    rw [List.getElem?_eq_getElem (show i < l.length by omega), List.getElem?_eq_getElem (show j < l.length by omega)] at e'
    simp only [Option.getD_some] at e'
    have hp := List.pairwise_iff_getElem.1 hf.1
    rcases Nat.lt_or_gt_of_ne hij with h | h
    · exact hp i j (by omega) (by omega) h e'
    · exact hp j i (by omega) (by omega) h e'.symm
  obtain ⟨c, hcc⟩ := uncross hk hX hY _ g rfl hap
  obtain ⟨r, hr⟩ : ∃ r : Nat, (r : Int) = c % (us.length : Int) := ⟨(c % (us.length : Int)).toNat, by have := Int.emod_nonneg c (show (us.length : Int) ≠ 0 by omega); omega⟩
  have hrk : r < us.length := by have := Int.emod_lt_of_pos c (show 0 < (us.length : Int) by omega); omega
  refine ⟨r, hrk, ?_⟩
  have : (prT n bs us (rotN us.length r) : Int) ≤ goZ n us.length (atZ us) (atZ bs) (fun i => c + i) := by
    rw [prT_all (by rw [rotN_length])]
    unfold goZ
    refine sumZ'_le fun i hi => ?_
    rw [rotN_at hi]
    unfold onY
    have em : ((c + (i : Int)) % (us.length : Int)).toNat = (i + r) % us.length := by
      have : (c + (i : Int)) % (us.length : Int) = (((i + r) % us.length : Nat) : Int) := by
        rw [Int.natCast_emod, Int.natCast_add, hr, Int.add_comm c, Int.add_emod_emod]
      omega
    rw [em]
    exact ds_le_turn (hax i hi) (hbx _ (Nat.mod_lt _ (by omega))) _
  omega
/-- The prices of the first rotations. -/
def rotP (n : Nat) (bs us : List Nat) (j : Nat) : List Nat := (List.range j).map fun r => prT n bs us (rotN us.length r)
theorem rotP_succ (n : Nat) (bs us : List Nat) (j : Nat) : rotP n bs us (j + 1) = rotP n bs us j ++ [prT n bs us (rotN us.length j)] := by simp [rotP, List.range_succ]
theorem rot_min {n : Nat} {us bs : List Nat} (hv : Vc n us bs) (hu : us.Pairwise (· ≤ ·)) (hb : bs.Pairwise (· ≤ ·)) : minS (rotP n bs us us.length) = some (costN n us bs) := by
  obtain ⟨r, hr, hp⟩ := rot_least hv hu hb
  have hle : ∀ x ∈ rotP n bs us us.length, costN n us bs ≤ x := fun x hx => by
    obtain ⟨j, _, rfl⟩ := List.mem_map.1 hx
    unfold costN
    exact cost_le (rotN_length _ _) (by rw [← hv.len]; exact rotN_fits)
  have hm : prT n bs us (rotN us.length r) ∈ rotP n bs us us.length := List.mem_map.2 ⟨r, List.mem_range.2 hr, rfl⟩
  cases e : minS (rotP n bs us us.length) with
  | none => rw [(minS_none _).1 e] at hm; simp at hm
  | some m =>
    obtain ⟨h1, h2⟩ := minS_some e
    have a := h2 _ hm
    have b := hle _ h1
    have : m = costN n us bs := by omega
    rw [this]
/-- What the law keeps as the least so far. -/
def leastZ (o : Option Nat) : Int := match o with | none => -1 | some m => m
end Go.Proofs.Ytkpiakoijkflmaa
