/-
  Chords that are heard alike, and flat ones, by how often a distance occurs. Plain mathematics.
-/
import Derived.Test.YtlmfmfbnbbooaaaWhOthMath
import Derived.Test.YtlmfmfbnbbooaaaWhVecR
namespace Go.Proofs.Ytlmfmfbnbbooaaa

theorem aut_ch {n c d : Nat} (hd : d < n) : auF n (chF n c) d = autN n c d := by
  unfold auF autN
  rw [if_pos hd]
  exact sum_congr fun x hx => by unfold chF; rw [if_pos hx, if_pos (Nat.mod_lt _ (by omega))]
theorem aut_bound (n c d : Nat) : autN n c d ≤ n := by
  have h : ∀ m : Nat, sumN m (fun t => bI c t * bI c ((t + d) % n)) ≤ m := fun m => by
    induction m with
    | zero => exact Nat.le_refl _
    | succ m ih =>
      simp only [sumN]
      have h1 : bI c m * bI c ((m + d) % n) ≤ 1 := Nat.le_trans (Nat.mul_le_mul (bI_le c m) (bI_le c _)) (Nat.le_refl _)
      omega
  exact h n
theorem aut_wh {n : Nat} (h : Circ n) (c : Nat) : IsWh n (auF n (chF n c)) :=
  ⟨fun x => by
    by_cases hx : x < n
    · rw [aut_ch hx]; have := aut_bound n c x; have := h.n_lt; omega
    · unfold auF; rw [if_neg hx]; exact h.q_pos, fun x hx => by unfold auF; rw [if_neg (by omega)]⟩
theorem aut_zero (n c : Nat) : autN n c 0 = sumN n (bI c) := by
  unfold autN
  refine sum_congr fun x hx => ?_
  rw [Nat.add_zero, Nat.mod_eq_of_lt hx]
  unfold bI; split <;> rfl
theorem aut_neg {n c d : Nat} (hd : d < n) : autN n c ((n - d) % n) = autN n c d := by
  unfold autN
  rw [← sum_move n d hd (fun t => bI c t * bI c ((t + (n - d) % n) % n))]
  refine sum_congr fun t ht => ?_
  have e : ((t + d) % n + (n - d) % n) % n = t := by
    rw [← Nat.add_mod, show t + d + (n - d) = t + n by omega, Nat.add_mod_right, Nat.mod_eq_of_lt ht]
  show bI c ((t + d) % n) * bI c (((t + d) % n + (n - d) % n) % n) = _
  rw [e, Nat.mul_comm]
/-- The same vector and the same number of tones: every distance occurs as often. -/
theorem aut_same {n a b : Nat} (h : Circ n) (ha : a < 2 ^ n) (hb : b < 2 ^ n) :
    (∀ d, d < n → autN n a d = autN n b d) ↔ sumN n (bI a) = sumN n (bI b) ∧ vecN n a = vecN n b := by
  have hn : n ≤ 64 := by have := h.2; omega
  constructor
  · intro hd
    refine ⟨by rw [← aut_zero, ← aut_zero]; exact hd 0 h.pos, list_ext_nat (by rw [vecN_length, vecN_length]) fun i hi => ?_⟩
    rw [vecN_length] at hi
    have e := hd (i + 1) (by omega)
    rw [aut_vec hn ha (by omega) (by omega), aut_vec hn hb (by omega) (by omega), Nat.add_sub_cancel] at e
    by_cases h2 : 2 * (i + 1) = n
    · rw [if_pos h2, if_pos h2] at e; omega
    · rw [if_neg h2, if_neg h2] at e; exact e
  · rintro ⟨h0, hv⟩ d hd
    have key : ∀ d, d < n → 2 * d ≤ n → autN n a d = autN n b d := fun d hd h2 => by
      rcases Nat.eq_zero_or_pos d with rfl | h1
      · rw [aut_zero, aut_zero, h0]
      · rw [aut_vec hn ha h1 h2, aut_vec hn hb h1 h2, hv]
    by_cases h2 : 2 * d ≤ n
    · exact key d hd h2
    · rw [← aut_neg (c := a) hd, ← aut_neg (c := b) hd]
      exact key _ (Nat.mod_lt _ h.pos) (by rw [Nat.mod_eq_of_lt (by omega)]; omega)
theorem po_same {n a b : Nat} (h : Circ n) (ha : a < 2 ^ n) (hb : b < 2 ^ n) : poF n (chF n a) = poF n (chF n b) ↔ sumN n (bI a) = sumN n (bI b) ∧ vecN n a = vecN n b := by
  rw [← aut_same h ha hb, po_aut h, po_aut h]
  constructor
  · intro e d hd
    have := spec_inj h (aut_wh h a) (aut_wh h b) (fun k _ => by rw [e])
    rw [← aut_ch hd, ← aut_ch hd, this]
  · intro e
    have : auF n (chF n a) = auF n (chF n b) := by
      funext d
      by_cases hd : d < n
      · rw [aut_ch hd, aut_ch hd, e d hd]
      · unfold auF; rw [if_neg hd, if_neg hd]
    rw [this]
theorem heard_iff {n a b : Nat} (h : Circ n) (ha : a < 2 ^ n) (hb : b < 2 ^ n) :
    ((List.range 16).all fun x => poF n (chF n a) x == poF n (chF n b) x) = (decide (sumN n (bI a) = sumN n (bI b)) && decide (vecN n a = vecN n b)) := by
  rw [Bool.eq_iff_iff, Bool.and_eq_true, decide_eq_true_eq, decide_eq_true_eq, ← po_same h ha hb, List.all_eq_true]
  constructor
  · intro e
    refine (po_wh h _).eq (po_wh h _) fun k hk => ?_
    have := e k (List.mem_range.2 (by have := h.2; omega))
    rw [beq_iff_eq] at this
    rw [this]; exact rfl
  · intro e x _
    rw [e, beq_iff_eq]

/-- A wheel that is the same everywhere but at 0. -/
theorem flat_sum {n : Nat} (h : Circ n) (f : Nat → Nat) (g : Nat) (hf : ∀ d, 0 < d → d < n → f d = g) (e : Nat) (he : e % n ≠ 0) : Md (qN n) (sumN n (fun x => f x * wN n ^ (x * e)) + g) (f 0) := by
  have h1 : sumN n (fun x => f x * wN n ^ (x * e)) + g = g * sumN n (fun x => wN n ^ (x * e)) + f 0 := by
    have e1 : sumN n (fun x => if x = 0 then g else 0) = g := by rw [sum_single n 0 (fun _ => g), if_pos h.pos]
    have e2 : sumN n (fun x => if x = 0 then f 0 else 0) = f 0 := by rw [sum_single n 0 (fun _ => f 0), if_pos h.pos]
    rw [← sum_mul]
    conv => lhs; rw [← e1, ← sum_add]
    conv => rhs; rw [← e2, ← sum_add]
    refine sum_congr fun x hx => ?_
    rcases Nat.eq_zero_or_pos x with rfl | h0
    · simp; omega
    · rw [if_neg (by omega), if_neg (by omega), hf x h0 hx]
  rw [h1]
  have h2 := orth h e
  rw [if_neg he] at h2
  exact (((Md.refl _ g).mul h2).add (Md.refl _ (f 0))).trans (Md.of_eq (by rw [Nat.mul_zero, Nat.zero_add]))
theorem md_cancel {n a b : Nat} (h : Circ n) (e : Md (qN n) (a * n) (b * n)) : Md (qN n) a b := by
  have hi := inv_all n h.2 h.1 n (by have := h.n_lt; omega) (by have := h.1; omega)
  generalize n ^ (qN n - 2) % qN n = r at hi
  have h1 : ∀ x, Md (qN n) (x * n * r) x := fun x => by
    have e1 : Md (qN n) (n * r) 1 := by unfold Md; rw [hi, Nat.mod_eq_of_lt (by have := h.n_lt; have := h.1; omega)]
    rw [Nat.mul_assoc]
    exact ((Md.refl _ x).mul e1).trans (Md.of_eq (Nat.mul_one _))
  exact (h1 a).symm.trans ((e.mul (Md.refl _ r)).trans (h1 b))
theorem flat_iff {n c : Nat} (h : Circ n) : flatB n (poF n (chF n c)) = (List.range (n - 1)).all (fun i => autN n c (i + 1) == autN n c 1) := by
  unfold flatB
  have h1 := h.1
  rw [Bool.eq_iff_iff, List.all_eq_true, List.all_eq_true, po_aut h]
  have hw := aut_wh h c
  constructor
  · intro hp i hi
    have hi := List.mem_range.1 hi
    rw [beq_iff_eq]
    have hp' : ∀ d, 0 < d → d < n → spF n (auF n (chF n c)) d = spF n (auF n (chF n c)) 1 := fun d d0 d1 => by
      have := hp (d - 1) (List.mem_range.2 (by omega))
      rw [beq_iff_eq, Nat.sub_add_cancel d0] at this
      exact this
    have key : ∀ x, 0 < x → x < n → Md (qN n) (autN n c x * n + spF n (auF n (chF n c)) 1) (spF n (auF n (chF n c)) 0) := fun x x0 x1 => by
      have t := twice h x1 (auF n (chF n c))
      have s := flat_sum h (spF n (auF n (chF n c))) _ hp' (n - x) (by rw [Nat.mod_eq_of_lt (by omega)]; omega)
      rw [aut_ch x1] at t
      exact (t.symm.add (Md.refl _ _)).trans s
    have e := md_cancel h (((key (i + 1) (by omega) (by omega)).trans (key 1 (by omega) (by omega)).symm).add_right_cancel)
    have b1 := aut_bound n c (i + 1)
    have b2 := aut_bound n c 1
    have hq := h.n_lt
    exact e.eq (by omega) (by omega)
  · intro ha i hi
    have hi := List.mem_range.1 hi
    rw [beq_iff_eq]
    have ha' : ∀ d, 0 < d → d < n → auF n (chF n c) d = autN n c 1 := fun d d0 d1 => by
      have := ha (d - 1) (List.mem_range.2 (by omega))
      rw [beq_iff_eq, Nat.sub_add_cancel d0] at this
      rw [aut_ch d1]
      exact this
    have key : ∀ k, 0 < k → k < n → Md (qN n) (spF n (auF n (chF n c)) k + autN n c 1) (auF n (chF n c) 0) := fun k k0 k1 => by
      have s := flat_sum h (auF n (chF n c)) _ ha' k (by rw [Nat.mod_eq_of_lt k1]; omega)
      have m := sp_md k1 (auF n (chF n c))
      rw [show (fun x => auF n (chF n c) x * wN n ^ (k * x)) = fun x => auF n (chF n c) x * wN n ^ (x * k) from by funext x; rw [Nat.mul_comm k]] at m
      exact (m.add (Md.refl _ _)).trans s
    exact (((key (i + 1) (by omega) (by omega)).trans (key 1 (by omega) (by omega)).symm).add_right_cancel).eq ((sp_wh h _).lt _) ((sp_wh h _).lt _)

/-- Whether two different tones of a chord are so far apart. -/
def htB (n c d x y : Nat) : Nat := if x ≠ y ∧ bI c x = 1 ∧ bI c y = 1 ∧ (x + n - y) % n = d then 1 else 0
/-- How often each difference has been found: whole rows of pairs, and the beginning of one. -/
def htN (n c X Y d : Nat) : Nat := sumN X (fun x => sumN n (htB n c d x)) + sumN Y (htB n c d X)
theorem htN_row (n c X d : Nat) : htN n c X n d = htN n c (X + 1) 0 d := by
  unfold htN; simp only [sumN]; omega
theorem htN_step (n c X Y d : Nat) : htN n c X (Y + 1) d = htN n c X Y d + htB n c d X Y := by
  unfold htN; simp only [sumN]; omega
theorem htN_zero (n c d : Nat) : htN n c 0 0 d = 0 := rfl
theorem htN_all {n c d : Nat} (h0 : 0 < d) (hd : d < n) : htN n c n 0 d = autN n c d := by
  unfold htN
  simp only [sumN, Nat.add_zero]
  rw [← aut_neg hd]
  unfold autN
  refine sum_congr fun x hx => ?_
  have e : sumN n (htB n c d x) = sumN n (fun y => if y = (x + (n - d) % n) % n then bI c x * bI c y else 0) := by
    refine sum_congr fun y hy => ?_
    unfold htB
    have hiff : (x + n - y) % n = d ↔ y = (x + (n - d) % n) % n := by
      rw [Nat.mod_eq_of_lt (show n - d < n by omega)]
      by_cases hxy : y ≤ x
      · rw [show x + n - y = (x - y) + n by omega, Nat.add_mod_right, Nat.mod_eq_of_lt (by omega)]
        by_cases hxd : d ≤ x
        · rw [show x + (n - d) = (x - d) + n by omega, Nat.add_mod_right, Nat.mod_eq_of_lt (by omega)]; omega
        · rw [Nat.mod_eq_of_lt (by omega)]; omega
      · rw [Nat.mod_eq_of_lt (by omega)]
        by_cases hxd : d ≤ x
        · rw [show x + (n - d) = (x - d) + n by omega, Nat.add_mod_right, Nat.mod_eq_of_lt (by omega)]; omega
        · rw [Nat.mod_eq_of_lt (by omega)]; omega
    have b1 := bI_le c x
    have b2 := bI_le c y
    by_cases hy2 : y = (x + (n - d) % n) % n
    · have hne : x ≠ y := fun e => by
        have := hiff.2 hy2
        rw [← e, show x + n - x = n by omega, Nat.mod_self] at this
        omega
      rw [if_pos hy2]
      rcases (show bI c x = 0 ∨ bI c x = 1 by omega) with e1 | e1
      · rw [if_neg (fun h => by omega), e1, Nat.zero_mul]
      · rcases (show bI c y = 0 ∨ bI c y = 1 by omega) with e2 | e2
        · rw [if_neg (fun h => by omega), e2, Nat.mul_zero]
        · rw [if_pos ⟨hne, e1, e2, hiff.2 hy2⟩, e1, e2]
    · rw [if_neg hy2, if_neg (fun h => hy2 (hiff.1 h.2.2.2))]
  rw [e, sum_single n _ (fun y => bI c x * bI c y), if_pos (Nat.mod_lt _ (by omega))]
theorem htB_le (n c d x y : Nat) : htB n c d x y ≤ 1 := by unfold htB; split <;> omega
theorem htN_le {n c X Y d : Nat} (hX : X ≤ n) (hY : Y ≤ n) (hn : n < 17) : htN n c X Y d ≤ 400 := by
  have h1 : ∀ (f : Nat → Nat) (B m : Nat), (∀ i, f i ≤ B) → sumN m f ≤ m * B := fun f B m hB => by
    induction m with
    | zero => simp [sumN]
    | succ m ih => simp only [sumN]; rw [Nat.succ_mul]; have := hB m; omega
  unfold htN
  have h2 := h1 (htB n c d X) 1 Y (htB_le n c d X)
  have h3 := h1 (fun x => sumN n (htB n c d x)) n X (fun x => by have := h1 (htB n c d x) 1 n (htB_le n c d x); omega)
  have h4 : X * n ≤ 16 * 16 := Nat.mul_le_mul (by omega) (by omega)
  omega
end Go.Proofs.Ytlmfmfbnbbooaaa
