/-
  Pieces of a row up to forms: an equivalence; a form of a row made of one part is made of one part. Plain mathematics; no program is spoken of.
-/
import Derived.Test.YtdfagnjdconkcaaRoMadeR
namespace Go.Proofs.Ytdfagnjdconkcaa
open Go.RowKit
set_option linter.unusedVariables false

/-- One form: turned or not, backward or not, moved. -/
def tf (n : Nat) (s : Bool) (k x : Nat) : Nat := if s = true then (n - x + k) % n else (x + k) % n
def tL (n : Nat) (s r : Bool) (k : Nat) (p : List Nat) : List Nat := if r = true then (p.map (tf n s k)).reverse else p.map (tf n s k)
def Rel (n : Nat) (p b : List Nat) : Prop := ∃ (s r : Bool) (k : Nat), k < n ∧ tL n s r k p = b

theorem n_cases {n : Nat} (h0 : 2 ≤ n) (h1 : n ≤ 10) : n = 2 ∨ n = 3 ∨ n = 4 ∨ n = 5 ∨ n = 6 ∨ n = 7 ∨ n = 8 ∨ n = 9 ∨ n = 10 := by omega
theorem tf_lt {n : Nat} (hn : 0 < n) (s : Bool) (k x : Nat) : tf n s k x < n := by unfold tf; split <;> exact Nat.mod_lt _ hn
theorem tf_zero {n x : Nat} (hx : x < n) : tf n false 0 x = x := by unfold tf; simp [Nat.mod_eq_of_lt hx]
/-- The move of an undoing. -/
def invK (n : Nat) (s : Bool) (k : Nat) : Nat := if s = true then k else (n - k) % n
def cmpK (n : Nat) (s : Bool) (y x : Nat) : Nat := if s = true then (n - y + x) % n else (y + x) % n
theorem tf_inv {n : Nat} (h0 : 2 ≤ n) (h1 : n ≤ 10) (s : Bool) {k x : Nat} (hk : k < n) (hx : x < n) : tf n s (invK n s k) (tf n s k x) = x := by
  unfold tf invK
  rcases n_cases h0 h1 with rfl | rfl | rfl | rfl | rfl | rfl | rfl | rfl | rfl <;> cases s <;> simp only [if_true, Bool.false_eq_true, if_false] <;> omega
theorem tf_cmp {n : Nat} (h0 : 2 ≤ n) (h1 : n ≤ 10) (s t : Bool) {k j x : Nat} (hk : k < n) (hj : j < n) (hx : x < n) : tf n t j (tf n s k x) = tf n (s != t) (cmpK n t k j) x := by
  unfold tf cmpK
  rcases n_cases h0 h1 with rfl | rfl | rfl | rfl | rfl | rfl | rfl | rfl | rfl <;> cases s <;> cases t <;> simp only [if_true, Bool.false_eq_true, if_false, bne_self_eq_false, Bool.true_bne, Bool.false_bne, Bool.not_true, Bool.not_false] <;> omega

theorem tL_lt {n : Nat} (hn : 0 < n) (s r : Bool) (k : Nat) (p : List Nat) : ∀ x ∈ tL n s r k p, x < n := by
  intro x hx
  have : x ∈ p.map (tf n s k) := by unfold tL at hx; split at hx <;> simpa using hx
  obtain ⟨y, _, rfl⟩ := List.mem_map.1 this
  exact tf_lt hn _ _ _
theorem tL_length (n : Nat) (s r : Bool) (k : Nat) (p : List Nat) : (tL n s r k p).length = p.length := by unfold tL; split <;> simp
theorem map_inv {n : Nat} (h0 : 2 ≤ n) (h1 : n ≤ 10) (s : Bool) {k : Nat} (hk : k < n) {p : List Nat} (hp : ∀ x ∈ p, x < n) : (p.map (tf n s k)).map (tf n s (invK n s k)) = p := by
  rw [List.map_map]
  conv => rhs; rw [← List.map_id p]
  exact List.map_congr_left fun x hx => tf_inv h0 h1 s hk (hp x hx)
theorem Rel.refl {n : Nat} (h0 : 2 ≤ n) {p : List Nat} (hp : ∀ x ∈ p, x < n) : Rel n p p := by
  refine ⟨false, false, 0, by omega, ?_⟩
  unfold tL
  rw [if_neg (by simp)]
  conv => rhs; rw [← List.map_id p]
  exact List.map_congr_left fun x hx => tf_zero (hp x hx)
theorem Rel.symm {n : Nat} (h0 : 2 ≤ n) (h1 : n ≤ 10) {p b : List Nat} (hp : ∀ x ∈ p, x < n) (h : Rel n p b) : Rel n b p := by
  obtain ⟨s, r, k, hk, rfl⟩ := h
  refine ⟨s, r, invK n s k, by unfold invK; split; exact hk; exact Nat.mod_lt _ (by omega), ?_⟩
  unfold tL
  cases r
  · simp only [Bool.false_eq_true, if_false]
    exact map_inv h0 h1 s hk hp
  · simp only [if_true]
    rw [List.map_reverse, List.reverse_reverse]
    exact map_inv h0 h1 s hk hp
theorem Rel.trans {n : Nat} (h0 : 2 ≤ n) (h1 : n ≤ 10) {p b c : List Nat} (hp : ∀ x ∈ p, x < n) (h : Rel n p b) (g : Rel n b c) : Rel n p c := by
  obtain ⟨s, r, k, hk, rfl⟩ := h
  obtain ⟨t, q, j, hj, rfl⟩ := g
  have hm : (p.map (tf n s k)).map (tf n t j) = p.map (tf n (s != t) (cmpK n t k j)) := by
    rw [List.map_map]
    exact List.map_congr_left fun x hx => tf_cmp h0 h1 s t hk hj (hp x hx)
  refine ⟨s != t, r != q, cmpK n t k j, by unfold cmpK; split <;> exact Nat.mod_lt _ (by omega), ?_⟩
  unfold tL
  cases r <;> cases q <;> simp only [if_true, Bool.false_eq_true, if_false, bne_self_eq_false, Bool.true_bne, Bool.false_bne, Bool.not_true, Bool.not_false, List.map_reverse, List.reverse_reverse, hm]

/-- Forms by kind and move are just these. -/
theorem form_tL (n kind k : Nat) (hk : kind < 4) (p : List Nat) : formL n kind k p = tL n (decide (kind % 2 = 1)) (decide (2 ≤ kind)) k p := by
  have e : fm n kind k = tf n (decide (kind % 2 = 1)) k := by
    funext x
    unfold fm tf
    by_cases h : kind % 2 = 1 <;> simp [h]
  unfold formL tL
  rw [e]
  by_cases h : 2 ≤ kind <;> simp [h]
theorem rel_way (n : Nat) (p b : List Nat) (hn : 0 < n) : (wayT n p b).isSome = true ↔ Rel n p b := by
  unfold wayT
  rw [List.find?_isSome]
  constructor
  · rintro ⟨t, ht, h⟩
    have ht' := List.mem_range.1 ht
    have h4 : t / n < 4 := (Nat.div_lt_iff_lt_mul hn).2 ht'
    exact ⟨_, _, t % n, Nat.mod_lt _ hn, by rw [← form_tL n (t / n) (t % n) h4 p]; exact of_decide_eq_true h⟩
  · rintro ⟨s, r, k, hk, h⟩
    obtain ⟨kind, hk4, e1, e2⟩ : ∃ kind, kind < 4 ∧ decide (kind % 2 = 1) = s ∧ decide (2 ≤ kind) = r := by
      cases s <;> cases r
      · exact ⟨0, by decide, rfl, rfl⟩
      · exact ⟨2, by decide, rfl, rfl⟩
      · exact ⟨1, by decide, rfl, rfl⟩
      · exact ⟨3, by decide, rfl, rfl⟩
    have hkn : kind * n + k < 4 * n := by
      have : kind * n ≤ 3 * n := Nat.mul_le_mul_right n (by omega)
      omega
    refine ⟨kind * n + k, List.mem_range.2 hkn, decide_eq_true ?_⟩
    have d1 : (kind * n + k) / n = kind := by rw [Nat.mul_comm, Nat.mul_add_div hn, Nat.div_eq_of_lt hk, Nat.add_zero]
    have d2 : (kind * n + k) % n = k := by rw [Nat.mul_comm, Nat.mul_add_mod, Nat.mod_eq_of_lt hk]
    rw [d1, d2, form_tL n kind k hk4 p, e1, e2]
    exact h

/-- All pieces are of one kind. -/
theorem made_iff {n d q : Nat} {ys : List Nat} (h0 : 2 ≤ n) (hd : 0 < d) (hq : n = q * d) : madeB n ys d = true ↔ ∀ j, j < q → Rel n (pcL ys d 0) (pcL ys d (j * d)) := by
  unfold madeB pcB
  rw [List.all_eq_true, show n / d = q by rw [hq]; exact Nat.mul_div_cancel _ hd]
  have e : pcL ys d 0 = ys.take d := by unfold pcL; simp
  rw [e]
  constructor
  · exact fun h j hj => (rel_way n _ _ (by omega)).1 (h j (List.mem_range.2 hj))
  · exact fun h j hj => (rel_way n _ _ (by omega)).2 (h j (List.mem_range.1 hj))
theorem pc_tL {n d q : Nat} {ys : List Nat} (hl : ys.length = n) (hq : n = q * d) (s r : Bool) (k : Nat) {j : Nat} (hj : j < q) : pcL (tL n s r k ys) d (j * d) = tL n s r k (pcL ys d ((if r = true then q - 1 - j else j) * d)) := by
  unfold tL
  cases r
  · simp only [Bool.false_eq_true, if_false]
    unfold pcL
    rw [List.map_drop, List.map_take]
  · simp only [if_true]
    unfold pcL
    rw [List.map_drop, List.map_take]
    have hm : (ys.map (tf n s k)).length = n := by rw [List.length_map, hl]
    generalize ys.map (tf n s k) = zs at hm
    have a1 : j * d + d = (j + 1) * d := by rw [Nat.add_mul, Nat.one_mul]
    have a2 : (q - 1 - j) * d + d = (q - j) * d := by
      rw [← Nat.succ_mul]; congr 1; omega
    have b1 : (j + 1) * d + (q - 1 - j) * d = n := by rw [← Nat.add_mul, hq]; congr 1; omega
    have b2 : j * d + (q - j) * d = n := by rw [← Nat.add_mul, hq]; congr 1; omega
    rw [a1, a2]
    generalize (j + 1) * d = A at *
    generalize (q - 1 - j) * d = B at *
    generalize j * d = C at *
    generalize (q - j) * d = D at *
    apply List.ext_getElem?
    intro i
    by_cases hi : i < A - C
    · rw [List.getElem?_drop, List.getElem?_take_of_lt (by omega), List.getElem?_reverse (by omega), List.getElem?_reverse (by rw [List.length_drop, List.length_take]; omega), List.length_drop, List.length_take, List.getElem?_drop, List.getElem?_take_of_lt (by omega)]
      congr 1
      omega
    · rw [List.getElem?_eq_none (by rw [List.length_drop, List.length_take, List.length_reverse]; omega), List.getElem?_eq_none (by rw [List.length_reverse, List.length_drop, List.length_take]; omega)]
theorem pc_lt {n d a : Nat} {ys : List Nat} (h : ∀ y ∈ ys, y < n) : ∀ y ∈ pcL ys d a, y < n := fun y hy => h y (pcL_mem hy)
/-- A form of a row is made of one part just where the row is. -/
theorem made_form {n d q : Nat} {ys : List Nat} (h0 : 2 ≤ n) (h1 : n ≤ 10) (hd : 0 < d) (hq : n = q * d) (hl : ys.length = n) (hlt : ∀ y ∈ ys, y < n) {kind : Nat} (hk4 : kind < 4) {k : Nat} (hk : k < n) : madeB n (formL n kind k ys) d = madeB n ys d := by
  rw [form_tL n kind k hk4 ys]
  generalize decide (kind % 2 = 1) = s
  generalize decide (2 ≤ kind) = r
  have hq0 : 0 < q := by rcases Nat.eq_zero_or_pos q with rfl | h; omega; exact h
  have hpc := fun j (hj : j < q) => pc_tL (n := n) (d := d) hl hq s r k hj
  have hp := fun a => pc_lt (d := d) (a := a) hlt
  have hrel : ∀ j, j < q → Rel n (pcL ys d ((if r = true then q - 1 - j else j) * d)) (pcL (tL n s r k ys) d (j * d)) := fun j hj => ⟨s, r, k, hk, (hpc j hj).symm⟩
  have hz := fun a => pc_lt (d := d) (a := a) (tL_lt (n := n) (by omega) s r k ys)
  have e0 : ∀ l : List Nat, pcL l d (0 * d) = pcL l d 0 := fun l => by rw [Nat.zero_mul]
  rw [Bool.eq_iff_iff, made_iff h0 hd hq, made_iff h0 hd hq]
  constructor
  · intro h j hj
    -- j of ys is what comes of some piece of the form
    have key : ∀ i, i < q → Rel n (pcL (tL n s r k ys) d 0) (pcL ys d (i * d)) := fun i hi => by
      have hj' : (if r = true then q - 1 - i else i) < q := by split <;> omega
      have h2 := hrel _ hj'
      have e : (if r = true then q - 1 - (if r = true then q - 1 - i else i) else (if r = true then q - 1 - i else i)) = i := by cases r <;> simp; omega
      rw [e] at h2
      exact (h _ hj').trans h0 h1 (hz 0) (h2.symm h0 h1 (hp _))
    have k0 := key 0 hq0
    rw [e0] at k0
    exact (k0.symm h0 h1 (hz 0)).trans h0 h1 (hp 0) (key j hj)
  · intro h j hj
    have key : ∀ i, i < q → Rel n (pcL ys d 0) (pcL (tL n s r k ys) d (i * d)) := fun i hi => by
      have hj' : (if r = true then q - 1 - i else i) < q := by split <;> omega
      exact (h _ hj').trans h0 h1 (hp 0) (hrel i hi)
    have k0 := key 0 hq0
    rw [e0] at k0
    exact (k0.symm h0 h1 (hp 0)).trans h0 h1 (hz 0) (key j hj)
/-- The row of equal steps. -/
def oneL (n g : Nat) : List Nat := (List.range n).map fun i => i * g % n
theorem oneL_length (n g : Nat) : (oneL n g).length = n := by simp [oneL]
theorem one_row {n g : Nat} (h0 : 2 ≤ n) (h1 : n ≤ 10) (hg : Nat.gcd g n = 1) : IsRow n (oneL n g) := by
  refine ⟨oneL_length n g, h0, h1, fun y hy => ?_, ?_⟩
  · obtain ⟨i, _, rfl⟩ := List.mem_map.1 hy
    exact Nat.mod_lt _ (by omega)
  · have inj : ∀ i j, i ≤ j → j < n → i * g % n = j * g % n → i = j := fun i j hij hj e => by
      have h2 : (j * g - i * g) % n = 0 := Nat.sub_mod_eq_zero_of_mod_eq e.symm
      rw [← Nat.sub_mul] at h2
      have h3 : n ∣ (j - i) * g := Nat.dvd_of_mod_eq_zero h2
      have hc : Nat.Coprime n g := by unfold Nat.Coprime; rw [Nat.gcd_comm]; exact hg
      have h4 : n ∣ j - i := hc.dvd_of_dvd_mul_right h3
      rcases Nat.eq_zero_or_pos (j - i) with h | h
      · omega
      · have := Nat.le_of_dvd h h4
        omega
    unfold oneL List.Nodup
    rw [List.pairwise_map]
    refine List.Pairwise.imp_of_mem ?_ (List.nodup_range (n := n))
    intro a b ha hb hne e
    have ha' := List.mem_range.1 ha
    have hb' := List.mem_range.1 hb
    rcases Nat.le_total a b with h | h
    · exact hne (inj a b h hb' e)
    · exact hne (inj b a h ha' e.symm).symm
theorem one_made {n g d q : Nat} (h0 : 2 ≤ n) (hd : 0 < d) (hq : n = q * d) : madeB n (oneL n g) d = true := by
  rw [made_iff h0 hd hq]
  intro j hj
  refine ⟨false, false, j * d * g % n, Nat.mod_lt _ (by omega), ?_⟩
  have hjd : j * d + d ≤ n := by
    have h := Nat.mul_le_mul_right d (show j + 1 ≤ q by omega)
    rw [Nat.add_mul, Nat.one_mul, ← hq] at h
    exact h
  generalize j * d = a at hjd
  unfold tL
  rw [if_neg (by simp)]
  apply List.ext_getElem?
  intro i
  have hl := oneL_length n g
  by_cases hi : i < d
  · unfold pcL
    rw [List.getElem?_map, List.getElem?_drop, List.getElem?_take_of_lt (by omega), List.getElem?_drop, List.getElem?_take_of_lt (by omega), Nat.zero_add]
    unfold oneL
    rw [List.getElem?_map, List.getElem?_map, List.getElem?_range (by omega), List.getElem?_range (by omega)]
    simp only [Option.map_some]
    unfold tf
    rw [if_neg (by simp), ← Nat.add_mod, ← Nat.add_mul, Nat.add_comm i a]
  · have e1 := pcL_length (d := d) (a := 0) hl (by omega)
    have e2 := pcL_length (d := d) (a := a) hl (by omega)
    rw [List.getElem?_eq_none (by rw [List.length_map, e1]; omega), List.getElem?_eq_none (by rw [e2]; omega)]
end Go.Proofs.Ytdfagnjdconkcaa
