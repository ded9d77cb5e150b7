/-
  The triads of a Kind are the images of one of them. Plain mathematics.
-/
import Derived.Test.YtibkhjbcagihbaaDoorTrFindMath
import Derived.Test.YtibkhjbcagihbaaDoorTrStep
import Derived.Test.YtibkhjbcagihbaaDoorChClassFns
namespace Go.Proofs.YtibkhjbcagihbaaDoor
open Ch

theorem nodup_sub : ∀ {l m : List Nat}, l.Nodup → (∀ x ∈ l, x ∈ m) → l.length ≤ m.length
  | [], _, _, _ => Nat.zero_le _
  | x :: l, m, hn, h => by
    rw [List.nodup_cons] at hn
    have hm := h x (by simp)
    have h1 := nodup_sub (m := m.erase x) hn.2 (fun y hy => by
      refine (List.mem_erase_of_ne ?_).2 (h y (by simp [hy]))
      rintro rfl; exact hn.1 hy)
    have h2 := List.length_erase_of_mem hm
    have h3 : 0 < m.length := List.length_pos_of_mem hm
    simp only [List.length_cons]; omega

/-- The tones of a triad on any place. -/
theorem tone_tri {n a b : Nat} (hk : KOk n a b) (d : Bool) (z : Int) (k : Nat) : ((toneN n a b (tri n d z) k : Nat) : Int) = (if d then z - (offN a b k : Nat) else z + (offN a b k : Nat)) % n := by
  have hn := hk.pos
  have ht := tri_int n hn d z
  have h1 := Int.emod_nonneg z (show (n : Int) ≠ 0 by omega)
  have h2 := Int.emod_lt_of_pos z (show (0 : Int) < n by omega)
  cases d
  · simp only [Bool.false_eq_true, if_false, Int.zero_add] at ht ⊢
    have := tone_up (k := k) hk (t := tri n false z) (by omega)
    rw [← this, ht, Int.tmod_eq_emod_of_nonneg h1, Int.emod_emod_of_dvd _ (Int.dvd_refl _), Int.emod_add_emod]
  · simp only [if_true] at ht ⊢
    have := tone_down (k := k) hk (t := tri n true z) (by omega)
    rw [← this, ht, Int.tmod_eq_emod_of_nonneg (by omega), Int.add_emod_left, Int.emod_emod_of_dvd _ (Int.dvd_refl _)]
    rw [show z % n + -((offN a b k : Nat) : Int) = z % n - ((offN a b k : Nat) : Int) by omega, Int.emod_sub_emod]

theorem setT_below {n a b t i : Nat} (hk : KOk n a b) (h : ¬ i < n) : (setT n a b t 3).testBit i = false := by
  have hl := setT_lt hk t 3
  exact Nat.testBit_lt_two_pow (Nat.lt_of_lt_of_le hl (Nat.pow_le_pow_right (by omega) (by omega)))

/-- Moved. -/
theorem mv_tri {n a b u : Nat} (hk : KOk n a b) (d : Bool) (z : Int) (hu : u < n) : mvN n (setT n a b (tri n d z) 3) u = setT n a b (tri n d (z + u)) 3 := by
  apply Nat.eq_of_testBit_eq
  intro i
  rw [testBit_mv hu (setT_lt hk _ _)]
  by_cases hi : i < n
  · rw [decide_eq_true hi, Bool.true_and, Bool.eq_iff_iff, setT_bit, setT_bit]
    have hc : ∀ k, (toneN n a b (tri n d z) k = (i + n - u) % n ↔ toneN n a b (tri n d (z + u)) k = i) := by
      intro k
      have e1 := tone_tri hk d z k
      have e2 := tone_tri hk d (z + u) k
      have e3 : (((i + n - u) % n : Nat) : Int) = ((i : Int) - u) % n := by
        rw [Int.natCast_emod, show ((i + n - u : Nat) : Int) = ((i : Int) - u) + n * 1 by omega, Int.add_mul_emod_self_left]
      have e4 : (i : Int) % n = i := Int.emod_eq_of_lt (by omega) (by omega)
      obtain ⟨A, hA, hA2⟩ : ∃ A : Int, (if d then z - (offN a b k : Nat) else z + (offN a b k : Nat)) = A ∧ (if d then (z + u) - (offN a b k : Nat) else (z + u) + (offN a b k : Nat)) = A + u := by
        cases d
        · exact ⟨_, rfl, by simp; omega⟩
        · exact ⟨_, rfl, by simp; omega⟩
      rw [hA] at e1; rw [hA2] at e2
      have key : A % n = ((i : Int) - u) % n ↔ (A + u) % n = (i : Int) % n := by
        rw [Int.emod_eq_emod_iff_emod_sub_eq_zero, Int.emod_eq_emod_iff_emod_sub_eq_zero]
        rw [show A - ((i : Int) - u) = A + u - i by omega]
      constructor
      · intro h; have := key.1 (by rw [← e1, ← e3, h]); omega
      · intro h; have := key.2 (by rw [← e2, e4, h]); omega
    constructor
    · rintro ⟨k, h1, h2⟩; exact ⟨k, h1, (hc k).1 h2⟩
    · rintro ⟨k, h1, h2⟩; exact ⟨k, h1, (hc k).2 h2⟩
  · rw [decide_eq_false hi, Bool.false_and, setT_below hk hi]

/-- Turned. -/
theorem turn_tri {n a b : Nat} (hk : KOk n a b) (d : Bool) (z : Int) : mulN n (setT n a b (tri n d z) 3) (-1) = setT n a b (tri n (!d) (-z)) 3 := by
  have h16 := hk.h16
  have hn := hk.pos
  apply Nat.eq_of_testBit_eq
  intro i
  unfold mulN
  rw [testBit_orL, Bool.eq_iff_iff, List.any_eq_true, setT_bit]
  have hc : ∀ k, (((((toneN n a b (tri n d z) k : Nat) : Int) * -1) % n).toNat = i ↔ toneN n a b (tri n (!d) (-z)) k = i) := by
    intro k
    have e1 := tone_tri hk d z k
    have e2 := tone_tri hk (!d) (-z) k
    have e3 : (((toneN n a b (tri n d z) k : Nat) : Int) * -1) % n = ((toneN n a b (tri n (!d) (-z)) k : Nat) : Int) := by
      rw [e1, e2, Int.mul_neg_one]
      rw [show -((if d then z - (offN a b k : Nat) else z + (offN a b k : Nat)) % (n : Int)) = 0 - (if d then z - (offN a b k : Nat) else z + (offN a b k : Nat)) % (n : Int) by omega, Int.sub_emod_emod]
      congr 1
      cases d <;> simp <;> omega
    rw [e3, Int.toNat_natCast]
  constructor
  · rintro ⟨x, hx, he⟩
    obtain ⟨k, h1, h2⟩ := setT_bit.1 (mem_tonesL.1 hx).2
    refine ⟨k, h1, (hc k).1 ?_⟩
    rw [h2]; exact of_decide_eq_true he
  · rintro ⟨k, h1, h2⟩
    refine ⟨toneN n a b (tri n d z) k, mem_tonesL.2 ⟨?_, setT_bit.2 ⟨k, h1, rfl⟩⟩, decide_eq_true ((hc k).2 h2)⟩
    have := toneN_lt hk (tri n d z) k
    omega

/-- What a shift does to the chord. -/
theorem shift_set {n a b t u : Nat} (hk : KOk n a b) (ht : t < 2 * n) (hu : u < n) (tu : Bool) :
    setT n a b (shiftN n t (u : Int) tu) 3 = mvN n (if tu then mulN n (setT n a b t 3) (-1) else setT n a b t 3) u := by
  obtain ⟨d, z, rfl⟩ : ∃ (d : Bool) (z : Int), t = tri n d z := ⟨_, _, tri_of ht⟩
  rw [shift_tri hk.pos]
  cases tu
  · simp only [Bool.false_eq_true, if_false, Bool.xor_false]
    rw [mv_tri hk d z hu, Int.add_comm]
  · simp only [if_true, Bool.xor_true]
    rw [turn_tri hk d z, mv_tri hk _ _ hu]
    congr 2; omega

theorem mem_imgs {n a b t x : Nat} (hk : KOk n a b) (ht : t < 2 * n) : x ∈ imgs n (setT n a b t 3) ↔ ∃ u, u < 2 * n ∧ setT n a b u 3 = x := by
  have hn := hk.pos
  obtain ⟨d, z, rfl⟩ : ∃ (d : Bool) (z : Int), t = tri n d z := ⟨_, _, tri_of ht⟩
  unfold imgs imgOf
  rw [List.mem_append, List.mem_map, List.mem_map]
  constructor
  · rintro (⟨y, hy, rfl⟩ | ⟨y, hy, rfl⟩)
    · rw [mv_tri hk d z (List.mem_range.1 hy)]; exact ⟨_, tri_lt hn _ _, rfl⟩
    · rw [turn_tri hk, mv_tri hk _ _ (List.mem_range.1 hy)]; exact ⟨_, tri_lt hn _ _, rfl⟩
  · rintro ⟨u, hu, rfl⟩
    obtain ⟨d', z', rfl⟩ : ∃ (d : Bool) (z : Int), u = tri n d z := ⟨_, _, tri_of hu⟩
    by_cases hd : d' = d
    · subst hd
      have he := emod_nat hn (z' - z)
      refine .inl ⟨((z' - z) % n).toNat, List.mem_range.2 he.2, ?_⟩
      rw [mv_tri hk _ _ he.2]
      congr 1
      apply tri_congr
      rw [he.1, Int.add_emod_emod]
      congr 1; omega
    · have hd' : d' = !d := by cases d <;> cases d' <;> simp_all
      subst hd'
      have he := emod_nat hn (z' + z)
      refine .inr ⟨((z' + z) % n).toNat, List.mem_range.2 he.2, ?_⟩
      rw [turn_tri hk, mv_tri hk _ _ he.2]
      congr 1
      apply tri_congr
      rw [he.1, Int.add_emod_emod]
      congr 1; omega

theorem mem_cls {n a b t x : Nat} (hk : KOk n a b) (ht : t < 2 * n) : x ∈ clsN n (setT n a b t 3) ↔ ∃ u, u < 2 * n ∧ setT n a b u 3 = x := by
  rw [← mem_imgs hk ht]
  unfold clsN
  rw [List.mem_filter, List.mem_range, decide_eq_true_eq]
  exact ⟨fun h => h.2, fun h => ⟨imgs_lt h, h⟩⟩

theorem nodup_map_of {f : Nat → Nat} : ∀ {l : List Nat}, l.Nodup → (∀ x ∈ l, ∀ y ∈ l, f x = f y → x = y) → (l.map f).Nodup
  | [], _, _ => List.nodup_nil
  | x :: l, h, hi => by
    rw [List.nodup_cons] at h
    rw [List.map_cons, List.nodup_cons]
    refine ⟨fun hm => ?_, nodup_map_of h.2 (fun x hx y hy => hi x (by simp [hx]) y (by simp [hy]))⟩
    obtain ⟨y, hy, e⟩ := List.mem_map.1 hm
    have := hi y (by simp [hy]) x (by simp) e
    subst this; exact h.1 hy

theorem cls_length {n a b t : Nat} (hk : KOk n a b) (ht : t < 2 * n) : (clsN n (setT n a b t 3)).length = 2 * n := by
  have h1 : ((List.range (2 * n)).map (fun u => setT n a b u 3)).Nodup :=
    nodup_map_of List.nodup_range (fun x hx y hy e => setT_inj hk (List.mem_range.1 hx) (List.mem_range.1 hy) e)
  have h2 : (clsN n (setT n a b t 3)).Nodup := List.Pairwise.filter _ List.nodup_range
  have l1 := nodup_sub h1 (m := clsN n (setT n a b t 3)) (fun x hx => by
    obtain ⟨u, hu, rfl⟩ := List.mem_map.1 hx
    exact (mem_cls hk ht).2 ⟨u, List.mem_range.1 hu, rfl⟩)
  have l2 := nodup_sub h2 (m := (List.range (2 * n)).map (fun u => setT n a b u 3)) (fun x hx => by
    obtain ⟨u, hu, rfl⟩ := (mem_cls hk ht).1 hx
    exact List.mem_map.2 ⟨u, List.mem_range.2 hu, rfl⟩)
  simp only [List.length_map, List.length_range] at l1 l2
  omega
end Go.Proofs.YtibkhjbcagihbaaDoor
