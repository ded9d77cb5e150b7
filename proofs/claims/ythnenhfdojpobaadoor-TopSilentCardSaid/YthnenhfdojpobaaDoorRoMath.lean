/-
  Rows: tones, steps, forms, positions. Plain mathematics; no program is spoken of.
-/
import Derived.Test.YthnenhfdojpobaaDoorBits
import Derived.Test.YthnenhfdojpobaaDoorSumMath
namespace Go.Proofs.YthnenhfdojpobaaDoor

/-- Different tones of a circle of n. -/
def partB (n : Int) (xs : List Int) : Bool := decide ((∀ x ∈ xs, 0 ≤ x ∧ x < n) ∧ xs.Nodup)
/-- A row. -/
def rowB (xs : List Int) : Bool := decide (2 ≤ xs.length ∧ xs.length ≤ 10) && partB xs.length xs

def natI (ys : List Nat) : List Int := ys.map fun (y : Nat) => (y : Int)
theorem natI_length (ys : List Nat) : (natI ys).length = ys.length := by simp [natI]
theorem natI_at (ys : List Nat) (i : Nat) : (natI ys)[i]?.getD 0 = ((ys[i]?.getD 0 : Nat) : Int) := by
  simp only [natI, List.getElem?_map]
  cases ys[i]? <;> rfl

structure IsRow (n : Nat) (ys : List Nat) : Prop where
  len : ys.length = n
  lo : 2 ≤ n
  hi : n ≤ 10
  lt : ∀ y ∈ ys, y < n
  nd : ys.Nodup

theorem natI_ex : ∀ {xs : List Int}, (∀ x ∈ xs, 0 ≤ x) → ∃ ys, xs = natI ys
  | [], _ => ⟨[], rfl⟩
  | x :: xs, h => by
    obtain ⟨ys, hy⟩ := natI_ex (xs := xs) (fun y hy => h y (by simp [hy]))
    obtain ⟨k, hk⟩ := Int.eq_ofNat_of_zero_le (h x (by simp))
    exact ⟨k :: ys, by rw [hy, hk]; rfl⟩
theorem natI_mem {ys : List Nat} {y : Nat} : (y : Int) ∈ natI ys ↔ y ∈ ys := by
  unfold natI
  rw [List.mem_map]
  constructor
  · rintro ⟨z, hz, e⟩
    have : z = y := by omega
    exact this ▸ hz
  · intro h; exact ⟨y, h, rfl⟩
theorem natI_nodup {ys : List Nat} : (natI ys).Nodup ↔ ys.Nodup := by
  unfold natI List.Nodup
  rw [List.pairwise_map]
  constructor
  · intro h; exact h.imp (fun {a b} h e => h (by omega))
  · intro h; exact h.imp (fun {a b} h e => h (by omega))

theorem part_nat {n : Nat} {xs : List Int} (h : partB n xs = true) : ∃ ys, xs = natI ys ∧ (∀ y ∈ ys, y < n) ∧ ys.Nodup := by
  unfold partB at h
  obtain ⟨h1, h2⟩ := of_decide_eq_true h
  obtain ⟨ys, rfl⟩ := natI_ex (fun x hx => (h1 x hx).1)
  refine ⟨ys, rfl, fun y hy => ?_, natI_nodup.1 h2⟩
  have := (h1 y (natI_mem.2 hy)).2
  omega
theorem part_of {n : Nat} {ys : List Nat} (h : ∀ y ∈ ys, y < n) (hd : ys.Nodup) : partB n (natI ys) = true := by
  unfold partB
  refine decide_eq_true ⟨fun x hx => ?_, natI_nodup.2 hd⟩
  obtain ⟨y, hy, rfl⟩ := List.mem_map.1 hx
  have := h y hy
  omega
theorem row_nat {xs : List Int} (h : rowB xs = true) : ∃ ys, xs = natI ys ∧ IsRow ys.length ys := by
  unfold rowB at h
  rw [Bool.and_eq_true, decide_eq_true_eq] at h
  obtain ⟨⟨h1, h2⟩, h3⟩ := h
  obtain ⟨ys, rfl, h4, h5⟩ := part_nat h3
  rw [natI_length] at h1 h2 h4
  exact ⟨ys, rfl, rfl, h1, h2, h4, h5⟩
theorem row_of {n : Nat} {ys : List Nat} (h : IsRow n ys) : rowB (natI ys) = true := by
  unfold rowB
  rw [Bool.and_eq_true, decide_eq_true_eq, natI_length]
  have := h.len; have := h.lo; have := h.hi
  refine ⟨⟨by omega, by omega⟩, part_of (fun y hy => by have := h.lt y hy; omega) h.nd⟩

theorem natI_inj {xs ys : List Nat} (h : natI xs = natI ys) : xs = ys := by
  unfold natI at h
  exact (List.map_inj_right (fun a b e => by omega)).1 h

/-! ### masks -/
/-- The set of some tones. -/
def maskL (ys : List Nat) : Nat := orL id ys
theorem mask_nil : maskL [] = 0 := rfl
theorem mask_snoc (ys : List Nat) (y : Nat) : maskL (ys ++ [y]) = maskL ys ||| (1 <<< y) := orL_snoc id ys y
theorem mask_bit (ys : List Nat) (i : Nat) : (maskL ys).testBit i = decide (i ∈ ys) := by
  unfold maskL
  rw [testBit_orL, Bool.eq_iff_iff, List.any_eq_true, decide_eq_true_eq]
  constructor
  · rintro ⟨t, ht, e⟩
    have : t = i := by simpa using e
    exact this ▸ ht
  · intro h; exact ⟨i, h, by simp⟩
theorem mask_lt {n : Nat} {ys : List Nat} (h : ∀ y ∈ ys, y < n) : maskL ys < 2 ^ n := orL_lt id ys n h
theorem mask_and (ys : List Nat) (y : Nat) : (maskL ys &&& (1 <<< y) = 0) ↔ y ∉ ys := by
  constructor
  · intro h hy
    have h1 : (maskL ys &&& (1 <<< y)).testBit y = true := by rw [Nat.testBit_and, mask_bit, testBit_one_shl]; simp [hy]
    rw [h] at h1; simp at h1
  · intro h
    apply Nat.eq_of_testBit_eq
    intro i
    rw [Nat.testBit_and, mask_bit, testBit_one_shl, Nat.zero_testBit]
    by_cases e : y = i
    · subst e; simp [h]
    · simp [e]
theorem mask_shift (ys : List Nat) (y : Nat) : ((maskL ys >>> y) &&& 1 = 1) ↔ y ∈ ys := by
  have h := mask_bit ys y
  rw [Nat.testBit, Nat.and_comm] at h
  constructor
  · intro e; rw [e] at h; simpa using h.symm
  · intro hy
    rw [decide_eq_true hy] at h
    have h2 : (maskL ys >>> y) &&& 1 ≤ 1 := Nat.and_le_right
    have h3 : (maskL ys >>> y) &&& 1 ≠ 0 := by simpa using h
    omega

/-! ### the first bad place -/
theorem part_false_lt {n : Int} {xs : List Int} {x : Int} (hx : x ∈ xs) (h : ¬ (0 ≤ x ∧ x < n)) : partB n xs = false := by
  unfold partB; exact decide_eq_false (fun hh => h (hh.1 x hx))
theorem part_false_dup {n : Int} {xs : List Int} {k : Nat} (hk : k < xs.length) (h : xs[k] ∈ xs.take k) : partB n xs = false := by
  unfold partB
  refine decide_eq_false (fun hh => ?_)
  have h2 := hh.2
  rw [← List.take_append_drop k xs, List.nodup_append] at h2
  have hm : xs[k] ∈ xs.drop k := by rw [List.drop_eq_getElem_cons hk]; exact List.mem_cons_self
  exact h2.2.2 _ h xs[k] hm rfl

/-! ### steps -/
/-- Step number i. -/
def stepN (n : Nat) (ys : List Nat) (i : Nat) : Nat := (ys[i + 1]?.getD 0 + n - ys[i]?.getD 0) % n
def stepsL (n : Nat) (ys : List Nat) : List Nat := (List.range (ys.length - 1)).map (stepN n ys)
theorem stepsL_length (n : Nat) (ys : List Nat) : (stepsL n ys).length = ys.length - 1 := by simp [stepsL]
theorem stepN_lt {n : Nat} (hn : 0 < n) (ys : List Nat) (i : Nat) : stepN n ys i < n := Nat.mod_lt _ hn
theorem stepsL_lt {n : Nat} (hn : 0 < n) (ys : List Nat) : ∀ s ∈ stepsL n ys, s < n := by
  intro s hs
  obtain ⟨i, _, rfl⟩ := List.mem_map.1 hs
  exact stepN_lt hn ys i
theorem stepsL_at {n : Nat} {ys : List Nat} {i : Nat} (hi : i < ys.length - 1) : (stepsL n ys)[i]?.getD 0 = stepN n ys i := by
  unfold stepsL
  rw [List.getElem?_map, List.getElem?_range hi]; rfl
def everyB (n : Nat) (ys : List Nat) : Bool := decide (stepsL n ys).Nodup
theorem step_int {n : Nat} {ys : List Nat} {i : Nat} (h : ys[i]?.getD 0 < n) : (((ys[i + 1]?.getD 0 : Nat) : Int) - ((ys[i]?.getD 0 : Nat) : Int)) % (n : Int) = ((stepN n ys i : Nat) : Int) := by
  unfold stepN
  have e : (((ys[i + 1]?.getD 0 : Nat) : Int) - ((ys[i]?.getD 0 : Nat) : Int)) = ((ys[i + 1]?.getD 0 + n - ys[i]?.getD 0 : Nat) : Int) - n := by omega
  rw [e, Int.sub_emod_right]; exact_mod_cast rfl
theorem getD_lt {n : Nat} {ys : List Nat} (h : ∀ y ∈ ys, y < n) (hn : 0 < n) (i : Nat) : ys[i]?.getD 0 < n := by
  by_cases hi : i < ys.length
  · rw [List.getElem?_eq_getElem hi]; exact h _ (List.getElem_mem hi)
  · rw [List.getElem?_eq_none (by omega)]; exact hn

/-! ### forms -/
/-- What becomes of a tone in a form. -/
def fm (n kind k x : Nat) : Nat := if kind % 2 = 1 then (n - x + k) % n else (x + k) % n
def formL (n kind k : Nat) (ys : List Nat) : List Nat := if 2 ≤ kind then (ys.map (fm n kind k)).reverse else ys.map (fm n kind k)
theorem formL_length (n kind k : Nat) (ys : List Nat) : (formL n kind k ys).length = ys.length := by unfold formL; split <;> simp
theorem fm_lt {n : Nat} (hn : 0 < n) (kind k x : Nat) : fm n kind k x < n := by unfold fm; split <;> exact Nat.mod_lt _ hn
theorem formL_lt {n : Nat} (hn : 0 < n) (kind k : Nat) (ys : List Nat) : ∀ y ∈ formL n kind k ys, y < n := by
  intro y hy
  have : y ∈ ys.map (fm n kind k) := by unfold formL at hy; split at hy <;> simpa using hy
  obtain ⟨x, _, rfl⟩ := List.mem_map.1 this
  exact fm_lt hn _ _ _
theorem add_mod_cancel {a b k n : Nat} (h : (a + k) % n = (b + k) % n) : a % n = b % n := by
  have h1 : ((a : Int) + k) % n = ((b : Int) + k) % n := by exact_mod_cast h
  have h2 := (Int.emod_add_cancel_right (k : Int)).1 h1
  exact_mod_cast h2
theorem fm_inj {n kind k x y : Nat} (hx : x < n) (hy : y < n) (h : fm n kind k x = fm n kind k y) : x = y := by
  unfold fm at h
  split at h
  · have h1 := add_mod_cancel h
    by_cases e1 : x = 0 <;> by_cases e2 : y = 0
    · omega
    · subst e1; rw [Nat.sub_zero, Nat.mod_self, Nat.mod_eq_of_lt (show n - y < n by omega)] at h1; omega
    · subst e2; rw [Nat.sub_zero, Nat.mod_self, Nat.mod_eq_of_lt (show n - x < n by omega)] at h1; omega
    · rw [Nat.mod_eq_of_lt (show n - x < n by omega), Nat.mod_eq_of_lt (show n - y < n by omega)] at h1; omega
  · have h1 := add_mod_cancel h
    rwa [Nat.mod_eq_of_lt hx, Nat.mod_eq_of_lt hy] at h1
theorem formL_nodup {n kind k : Nat} {ys : List Nat} (h : ∀ y ∈ ys, y < n) (hd : ys.Nodup) : (formL n kind k ys).Nodup := by
  have h1 : (ys.map (fm n kind k)).Nodup := by
    unfold List.Nodup
    rw [List.pairwise_map]
    exact hd.imp_of_mem (fun {a b} ha hb hne e => hne (fm_inj (h a ha) (h b hb) e))
  unfold formL
  split
  · exact (List.reverse_perm _).nodup_iff.2 h1
  · exact h1
theorem IsRow.form {n : Nat} {ys : List Nat} (h : IsRow n ys) (kind k : Nat) : IsRow n (formL n kind k ys) :=
  ⟨by rw [formL_length, h.len], h.lo, h.hi, formL_lt (by have := h.lo; omega) _ _ _, formL_nodup h.lt h.nd⟩
theorem IsRow.pos {n : Nat} {ys : List Nat} (h : IsRow n ys) : 0 < n := by have := h.lo; omega
theorem fm_mod (n kind k x : Nat) : fm n kind (k % n) x = fm n kind k x := by unfold fm; split <;> simp
theorem formL_mod (n kind k : Nat) (ys : List Nat) : formL n kind (k % n) ys = formL n kind k ys := by
  unfold formL
  have : fm n kind (k % n) = fm n kind k := funext (fm_mod n kind k)
  rw [this]

/-! ### all tones are in a row -/
theorem row_subset : ∀ {l m : List Nat}, l.Nodup → (∀ x ∈ l, x ∈ m) → l.length ≤ m.length
  | [], _, _, _ => Nat.zero_le _
  | x :: l, m, hn, h => by
    rw [List.nodup_cons] at hn
    have hm := h x (by simp)
    have h1 := row_subset (m := m.erase x) hn.2 (fun y hy => by
      refine (List.mem_erase_of_ne ?_).2 (h y (by simp [hy]))
      rintro rfl; exact hn.1 hy)
    rw [List.length_erase_of_mem hm] at h1
    have : 0 < m.length := List.length_pos_of_mem hm
    rw [List.length_cons]; omega
theorem IsRow.all {n : Nat} {ys : List Nat} (h : IsRow n ys) {x : Nat} (hx : x < n) : x ∈ ys := by
  apply Classical.byContradiction
  intro hne
  have h1 := row_subset (l := x :: ys) (m := List.range n) (List.nodup_cons.2 ⟨hne, h.nd⟩) (fun y hy => by
    rcases List.mem_cons.1 hy with rfl | hy
    · exact List.mem_range.2 hx
    · exact List.mem_range.2 (h.lt y hy))
  rw [List.length_cons, List.length_range, h.len] at h1
  omega
end Go.Proofs.YthnenhfdojpobaaDoor
