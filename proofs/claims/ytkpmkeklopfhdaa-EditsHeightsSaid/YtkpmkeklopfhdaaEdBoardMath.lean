/-
  The board that is filled from the front is what is known in the end. Plain mathematics; no program is spoken of.
-/
import Derived.Test.YtkpmkeklopfhdaaEdMath
namespace Go.Proofs.Ytkpmkeklopfhdaa
open Go.RowKit
set_option linter.unusedVariables false

section
variable (A B : List Nat) (pi po ps : Nat)

/-- The pairs ahead of one. -/
abbrev Dl (r c i j : Nat) : Prop := i < r ∨ (i = r ∧ j < c)
def a0 (i j : Nat) : Pl := if i = 0 ∧ j = 0 then oneP else nilP
def a1 (r c i j : Nat) : Pl := if 0 < i ∧ 0 < j ∧ Dl r c (i - 1) (j - 1) then orP (a0 i j) (cBoth A B ps (pl A B pi po ps (i - 1) (j - 1)) (i - 1) (j - 1)) else a0 i j
def a2 (r c i j : Nat) : Pl := if 0 < i ∧ Dl r c (i - 1) j then orP (a1 A B pi po ps r c i j) (cOut po (pl A B pi po ps (i - 1) j) (i - 1) j) else a1 A B pi po ps r c i j
/-- What is known when the pairs ahead of one are done. -/
def a3 (r c i j : Nat) : Pl := if 0 < j ∧ Dl r c i (j - 1) then orP (a2 A B pi po ps r c i j) (cIn B pi (pl A B pi po ps i (j - 1)) i (j - 1)) else a2 A B pi po ps r c i j

theorem a1_pos {r c i j : Nat} (h : 0 < i ∧ 0 < j ∧ Dl r c (i - 1) (j - 1)) : a1 A B pi po ps r c i j = orP (a0 i j) (cBoth A B ps (pl A B pi po ps (i - 1) (j - 1)) (i - 1) (j - 1)) := if_pos h
theorem a1_neg {r c i j : Nat} (h : ¬ (0 < i ∧ 0 < j ∧ Dl r c (i - 1) (j - 1))) : a1 A B pi po ps r c i j = a0 i j := if_neg h
theorem a2_pos {r c i j : Nat} (h : 0 < i ∧ Dl r c (i - 1) j) : a2 A B pi po ps r c i j = orP (a1 A B pi po ps r c i j) (cOut po (pl A B pi po ps (i - 1) j) (i - 1) j) := if_pos h
theorem a2_neg {r c i j : Nat} (h : ¬ (0 < i ∧ Dl r c (i - 1) j)) : a2 A B pi po ps r c i j = a1 A B pi po ps r c i j := if_neg h
theorem a3_pos {r c i j : Nat} (h : 0 < j ∧ Dl r c i (j - 1)) : a3 A B pi po ps r c i j = orP (a2 A B pi po ps r c i j) (cIn B pi (pl A B pi po ps i (j - 1)) i (j - 1)) := if_pos h
theorem a3_neg {r c i j : Nat} (h : ¬ (0 < j ∧ Dl r c i (j - 1))) : a3 A B pi po ps r c i j = a2 A B pi po ps r c i j := if_neg h
theorem a1_same {r c r' c' i j : Nat} (h : (0 < i ∧ 0 < j ∧ Dl r c (i - 1) (j - 1)) ↔ (0 < i ∧ 0 < j ∧ Dl r' c' (i - 1) (j - 1))) : a1 A B pi po ps r c i j = a1 A B pi po ps r' c' i j := by
  by_cases h1 : 0 < i ∧ 0 < j ∧ Dl r c (i - 1) (j - 1)
  · rw [a1_pos _ _ _ _ _ h1, a1_pos _ _ _ _ _ (h.1 h1)]
  · rw [a1_neg _ _ _ _ _ h1, a1_neg _ _ _ _ _ (fun h2 => h1 (h.2 h2))]
theorem a2_same {r c r' c' i j : Nat} (h1 : (0 < i ∧ 0 < j ∧ Dl r c (i - 1) (j - 1)) ↔ (0 < i ∧ 0 < j ∧ Dl r' c' (i - 1) (j - 1))) (h : (0 < i ∧ Dl r c (i - 1) j) ↔ (0 < i ∧ Dl r' c' (i - 1) j)) : a2 A B pi po ps r c i j = a2 A B pi po ps r' c' i j := by
  by_cases h2 : 0 < i ∧ Dl r c (i - 1) j
  · rw [a2_pos _ _ _ _ _ h2, a2_pos _ _ _ _ _ (h.1 h2), a1_same _ _ _ _ _ h1]
  · rw [a2_neg _ _ _ _ _ h2, a2_neg _ _ _ _ _ (fun h3 => h2 (h.2 h3)), a1_same _ _ _ _ _ h1]
theorem a3_same {r c r' c' i j : Nat} (h1 : (0 < i ∧ 0 < j ∧ Dl r c (i - 1) (j - 1)) ↔ (0 < i ∧ 0 < j ∧ Dl r' c' (i - 1) (j - 1))) (h : (0 < i ∧ Dl r c (i - 1) j) ↔ (0 < i ∧ Dl r' c' (i - 1) j))
    (h3 : (0 < j ∧ Dl r c i (j - 1)) ↔ (0 < j ∧ Dl r' c' i (j - 1))) : a3 A B pi po ps r c i j = a3 A B pi po ps r' c' i j := by
  by_cases h2 : 0 < j ∧ Dl r c i (j - 1)
  · rw [a3_pos _ _ _ _ _ h2, a3_pos _ _ _ _ _ (h3.1 h2), a2_same _ _ _ _ _ h1 h]
  · rw [a3_neg _ _ _ _ _ h2, a3_neg _ _ _ _ _ (fun h4 => h2 (h3.2 h4)), a2_same _ _ _ _ _ h1 h]

theorem or_nil (y : Pl) : orP nilP y = y := by unfold orP; rw [if_pos (Or.inl (show nilP.w = 0 from rfl))]

/-- Where all that lead there are done. -/
theorem a3_full {r c i j : Nat} (h : i < r ∨ (i = r ∧ j ≤ c)) : a3 A B pi po ps r c i j = pl A B pi po ps i j := by
  rcases i with _ | i
  · rcases j with _ | j
    · rw [a3_neg _ _ _ _ _ (by omega), a2_neg _ _ _ _ _ (by omega), a1_neg _ _ _ _ _ (by omega), pl_00]; rfl
    · rw [a3_pos _ _ _ _ _ (by omega), a2_neg _ _ _ _ _ (by omega), a1_neg _ _ _ _ _ (by omega), pl_0s]
      rw [show a0 0 (j + 1) = nilP from if_neg (by omega), or_nil]; rfl
  · rcases j with _ | j
    · rw [a3_neg _ _ _ _ _ (by omega), a2_pos _ _ _ _ _ (by omega), a1_neg _ _ _ _ _ (by omega), pl_s0]
      rw [show a0 (i + 1) 0 = nilP from if_neg (by omega), or_nil]; rfl
    · rw [a3_pos _ _ _ _ _ (by omega), a2_pos _ _ _ _ _ (by omega), a1_pos _ _ _ _ _ (by omega), pl_ss]
      rw [show a0 (i + 1) (j + 1) = nilP from if_neg (by omega), or_nil]; rfl

theorem a3_start (i j : Nat) : a3 A B pi po ps 0 0 i j = startK i j := by
  rw [a3_neg _ _ _ _ _ (by omega), a2_neg _ _ _ _ _ (by omega), a1_neg _ _ _ _ _ (by omega)]; rfl

/-- One more pair. -/
theorem a3_step (r c i j : Nat) : a3 A B pi po ps r (c + 1) i j =
    if i = r + 1 ∧ j = c + 1 then orP (a3 A B pi po ps r c i j) (cBoth A B ps (pl A B pi po ps r c) r c)
    else if i = r + 1 ∧ j = c then orP (a3 A B pi po ps r c i j) (cOut po (pl A B pi po ps r c) r c)
    else if i = r ∧ j = c + 1 then orP (a3 A B pi po ps r c i j) (cIn B pi (pl A B pi po ps r c) r c)
    else a3 A B pi po ps r c i j := by
  by_cases h1 : i = r + 1 ∧ j = c + 1
  · obtain ⟨rfl, rfl⟩ := h1
    rw [if_pos ⟨rfl, rfl⟩, a3_neg _ _ _ _ _ (by omega), a2_neg _ _ _ _ _ (by omega), a1_pos _ _ _ _ _ (by omega), a3_neg _ _ _ _ _ (by omega), a2_neg _ _ _ _ _ (by omega), a1_neg _ _ _ _ _ (by omega)]
    rfl
  · rw [if_neg h1]
    by_cases h2 : i = r + 1 ∧ j = c
    · obtain ⟨rfl, rfl⟩ := h2
      rw [if_pos ⟨rfl, rfl⟩, a3_neg _ _ _ _ _ (by omega), a2_pos _ _ _ _ _ (by omega), a3_neg (r := r) (c := j) _ _ _ _ _ (by omega), a2_neg (r := r) (c := j) _ _ _ _ _ (by omega)]
      rw [a1_same A B pi po ps (r := r) (c := j + 1) (r' := r) (c' := j) (by omega)]
      rfl
    · rw [if_neg h2]
      by_cases h3 : i = r ∧ j = c + 1
      · obtain ⟨rfl, rfl⟩ := h3
        rw [if_pos ⟨rfl, rfl⟩, a3_pos _ _ _ _ _ (by omega), a3_neg (r := i) (c := c) _ _ _ _ _ (by omega)]
        rw [a2_same A B pi po ps (r := i) (c := c + 1) (r' := i) (c' := c) (by omega) (by omega)]
        rfl
      · rw [if_neg h3]
        exact a3_same A B pi po ps (by omega) (by omega) (by omega)

theorem a3_row (r i j : Nat) (hj : j ≤ B.length) : a3 A B pi po ps r (B.length + 1) i j = a3 A B pi po ps (r + 1) 0 i j :=
  a3_same A B pi po ps (by omega) (by omega) (by omega)

/-! ### no number is too large -/
theorem orP_bd {x y : Pl} {m n : Int} (hx : 0 ≤ x.w ∧ x.w ≤ m) (hy : 0 ≤ y.w ∧ y.w ≤ n) : 0 ≤ (orP x y).w ∧ (orP x y).w ≤ m + n := by
  unfold orP
  split
  · omega
  · split
    · simp only []; omega
    · omega
theorem orW_eq {x y : Pl} (hx : 0 ≤ x.w ∧ x.w ≤ 1000000000000) (hy : 0 ≤ y.w ∧ y.w ≤ 1000000000000) : orW x y = orP x y := by
  unfold orW orP
  split
  · rfl
  · split
    · rw [show wrap64 (x.w + y.w) = x.w + y.w by unfold wrap64; omega]
    · rfl
theorem pl_bd (hi : pi ≤ 9) (ho : po ≤ 9) (hs : ps ≤ 9) {i j : Nat} (h : i + j ≤ 24) : 0 ≤ (pl A B pi po ps i j).w ∧ (pl A B pi po ps i j).w ≤ 282429536481 := by
  obtain ⟨_, _, h3, h4⟩ := pl_bounds A B pi po ps hi ho hs _ i j (Nat.le_refl _)
  have : (3 : Int) ^ (i + j) ≤ 3 ^ 24 := by exact_mod_cast Nat.pow_le_pow_right (by omega) h
  have e : (3 : Int) ^ 24 = 282429536481 := by decide
  omega
theorem a3_bd (hi : pi ≤ 9) (ho : po ≤ 9) (hs : ps ≤ 9) {r c i j : Nat} (h : i + j ≤ 24) : 0 ≤ (a3 A B pi po ps r c i j).w ∧ (a3 A B pi po ps r c i j).w ≤ 900000000000 := by
  have b0 : 0 ≤ (a0 i j).w ∧ (a0 i j).w ≤ 1 := by unfold a0; split <;> simp [oneP, nilP]
  have b1 : 0 ≤ (a1 A B pi po ps r c i j).w ∧ (a1 A B pi po ps r c i j).w ≤ 282429536482 := by
    unfold a1; split
    · have := orP_bd b0 (y := cBoth A B ps (pl A B pi po ps (i - 1) (j - 1)) (i - 1) (j - 1)) (n := 282429536481) (by rw [cBoth_w]; exact pl_bd A B pi po ps hi ho hs (by omega))
      omega
    · omega
  have b2 : 0 ≤ (a2 A B pi po ps r c i j).w ∧ (a2 A B pi po ps r c i j).w ≤ 564859072963 := by
    unfold a2; split
    · have := orP_bd b1 (y := cOut po (pl A B pi po ps (i - 1) j) (i - 1) j) (n := 282429536481) (pl_bd A B pi po ps hi ho hs (by omega))
      omega
    · omega
  unfold a3; split
  · have := orP_bd b2 (y := cIn B pi (pl A B pi po ps i (j - 1)) i (j - 1)) (n := 282429536481) (pl_bd A B pi po ps hi ho hs (by omega))
    omega
  · omega

/-! ### the program's step -/
theorem nextL_eq (r c : Nat) : nextL A B r c =
    (if r < A.length ∧ c < B.length then (if atB A r = atB B c then [(⟨0, 0, r + 1, c + 1⟩ : Nx)] else [⟨1, atB B c, r + 1, c + 1⟩]) else []) ++
    ((if r < A.length then [⟨2, 0, r + 1, c⟩] else []) ++ (if c < B.length then [⟨3, atB B c, r, c + 1⟩] else [])) := by
  unfold nextL
  rw [show List.range 4 = [0, 1, 2, 3] from rfl]
  simp only [List.filterMap_cons, List.filterMap_nil, nx]
  by_cases h1 : r < A.length <;> by_cases h2 : c < B.length <;> by_cases h3 : atB A r = atB B c <;> simp [h1, h2, h3]

theorem upd_at (K : Nat → Nat → Pl) (r c : Nat) (v : Pl) (i j : Nat) : updK K r c v i j = if i = r ∧ j = c then v else K i j := rfl

theorem step_at (hi : pi ≤ 9) (ho : po ≤ 9) (hs : ps ≤ 9) (hA : A.length ≤ 12) (hB : B.length ≤ 12) {r c : Nat} (hr : r ≤ A.length) (hc : c ≤ B.length) (K : Nat → Nat → Pl)
    (hK : ∀ i j, i ≤ A.length → j ≤ B.length → K i j = a3 A B pi po ps r c i j) :
    ∀ i j, i ≤ A.length → j ≤ B.length → stepK A B pi po ps K (r, c) i j = a3 A B pi po ps r (c + 1) i j := by
  intro i j hia hjb
  have hh : K r c = pl A B pi po ps r c := by rw [hK r c hr hc]; exact a3_full A B pi po ps (Or.inr ⟨rfl, Nat.le_refl _⟩)
  obtain ⟨hc0, hc1, _, _⟩ := pl_bounds A B pi po ps hi ho hs _ r c (Nat.le_refl _)
  have hw := pl_bd A B pi po ps hi ho hs (i := r) (j := c) (by omega)
  have wr : ∀ p : Nat, p ≤ 9 → wrap64 ((pl A B pi po ps r c).c + (p : Int)) = (pl A B pi po ps r c).c + (p : Int) := fun p hp => by unfold wrap64; omega
  have hb : ∀ i j, i ≤ A.length → j ≤ B.length → ∀ y : Pl, y.w = (pl A B pi po ps r c).w → orW (K i j) y = orP (a3 A B pi po ps r c i j) y := fun i j h1 h2 y hy => by
    rw [hK i j h1 h2]
    have := a3_bd A B pi po ps hi ho hs (r := r) (c := c) (i := i) (j := j) (by omega)
    exact orW_eq ⟨this.1, by omega⟩ (by rw [hy]; omega)
  have m0 : atB A r = atB B c → mkP pi po ps (pl A B pi po ps r c) ⟨0, 0, r + 1, c + 1⟩ r c = cBoth A B ps (pl A B pi po ps r c) r c := fun e => by
    have := wr 0 (by omega)
    unfold mkP cBoth prc; rw [if_pos e]; simp at this ⊢; exact this
  have m1 : atB A r ≠ atB B c → mkP pi po ps (pl A B pi po ps r c) ⟨1, atB B c, r + 1, c + 1⟩ r c = cBoth A B ps (pl A B pi po ps r c) r c := fun e => by
    have := wr ps hs
    unfold mkP cBoth prc; rw [if_neg e]; simp [this]
  have m2 : mkP pi po ps (pl A B pi po ps r c) ⟨2, 0, r + 1, c⟩ r c = cOut po (pl A B pi po ps r c) r c := by
    have := wr po ho
    unfold mkP cOut prc; simp [this]
  have m3 : mkP pi po ps (pl A B pi po ps r c) ⟨3, atB B c, r, c + 1⟩ r c = cIn B pi (pl A B pi po ps r c) r c := by
    have := wr pi hi
    unfold mkP cIn prc; simp [this]
  rw [a3_step]
  unfold stepK
  dsimp only
  rw [hh, nextL_eq]
  have wB : (cBoth A B ps (pl A B pi po ps r c) r c).w = (pl A B pi po ps r c).w := cBoth_w _ _ _ _ _ _
  have wO : (cOut po (pl A B pi po ps r c) r c).w = (pl A B pi po ps r c).w := rfl
  have wI : (cIn B pi (pl A B pi po ps r c) r c).w = (pl A B pi po ps r c).w := rfl
  by_cases h1 : r < A.length
  · by_cases h2 : c < B.length
    · have both : ∃ x : Nx, (if atB A r = atB B c then [(⟨0, 0, r + 1, c + 1⟩ : Nx)] else [⟨1, atB B c, r + 1, c + 1⟩]) = [x] ∧ x.i = r + 1 ∧ x.j = c + 1 ∧ mkP pi po ps (pl A B pi po ps r c) x r c = cBoth A B ps (pl A B pi po ps r c) r c := by
        by_cases h3 : atB A r = atB B c
        · exact ⟨_, if_pos h3, rfl, rfl, m0 h3⟩
        · exact ⟨_, if_neg h3, rfl, rfl, m1 h3⟩
      obtain ⟨x, hx, hxi, hxj, hxm⟩ := both
      rw [if_pos ⟨h1, h2⟩, hx, if_pos h1, if_pos h2]
      simp only [List.cons_append, List.nil_append, List.foldl_cons, List.foldl_nil, putK, hxi, hxj, hxm, m2, m3, upd_at]
      have d1 : (r = r + 1) = False := by simp
      have d2 : (c = c + 1) = False := by simp
      simp only [d1, d2, false_and, and_false, if_false]
      rw [hb (r + 1) (c + 1) (by omega) (by omega) _ wB, hb (r + 1) c (by omega) hc _ wO, hb r (c + 1) hr (by omega) _ wI]
      by_cases g1 : i = r + 1 ∧ j = c + 1
      · rw [if_pos g1, if_neg (by omega), if_neg (by omega), if_pos g1, g1.1, g1.2]
      · rw [if_neg g1, if_neg g1]
        by_cases g2 : i = r + 1 ∧ j = c
        · rw [if_pos g2, if_neg (by omega), if_pos g2, g2.1, g2.2]
        · rw [if_neg g2, if_neg g2]
          by_cases g3 : i = r ∧ j = c + 1
          · rw [if_pos g3, if_pos g3, g3.1, g3.2]
          · rw [if_neg g3, if_neg g3, hK i j hia hjb]
    · rw [if_neg (by omega), if_pos h1, if_neg h2]
      simp only [List.nil_append, List.append_nil, List.foldl_cons, List.foldl_nil, putK, m2, upd_at]
      rw [hb (r + 1) c (by omega) hc _ wO, if_neg (by omega : ¬ (i = r + 1 ∧ j = c + 1))]
      by_cases g2 : i = r + 1 ∧ j = c
      · rw [if_pos g2, if_pos g2, g2.1, g2.2]
      · rw [if_neg g2, if_neg g2, if_neg (by omega : ¬ (i = r ∧ j = c + 1)), hK i j hia hjb]
  · by_cases h2 : c < B.length
    · rw [if_neg (by omega), if_neg h1, if_pos h2]
      simp only [List.nil_append, List.append_nil, List.foldl_cons, List.foldl_nil, putK, m3, upd_at]
      rw [hb r (c + 1) hr (by omega) _ wI, if_neg (by omega : ¬ (i = r + 1 ∧ j = c + 1)), if_neg (by omega : ¬ (i = r + 1 ∧ j = c))]
      by_cases g3 : i = r ∧ j = c + 1
      · rw [if_pos g3, if_pos g3, g3.1, g3.2]
      · rw [if_neg g3, if_neg g3, hK i j hia hjb]
    · rw [if_neg (by omega), if_neg h1, if_neg h2]
      simp only [List.nil_append, List.foldl_nil]
      rw [if_neg (by omega : ¬ (i = r + 1 ∧ j = c + 1)), if_neg (by omega : ¬ (i = r + 1 ∧ j = c)), if_neg (by omega : ¬ (i = r ∧ j = c + 1)), hK i j hia hjb]

theorem row_at (hi : pi ≤ 9) (ho : po ≤ 9) (hs : ps ≤ 9) (hA : A.length ≤ 12) (hB : B.length ≤ 12) {r : Nat} (hr : r ≤ A.length) (K : Nat → Nat → Pl)
    (hK : ∀ i j, i ≤ A.length → j ≤ B.length → K i j = a3 A B pi po ps r 0 i j) :
    ∀ c, c ≤ B.length + 1 → ∀ i j, i ≤ A.length → j ≤ B.length → (((List.range c).map fun y => (r, y)).foldl (stepK A B pi po ps) K) i j = a3 A B pi po ps r c i j
  | 0, _ => by simpa using hK
  | c + 1, hc => by
    have e : List.range (c + 1) = List.range c ++ [c] := List.range_succ
    rw [e, List.map_append, List.foldl_append]
    exact step_at A B pi po ps hi ho hs hA hB hr (by omega) _ (row_at hi ho hs hA hB hr K hK c (by omega))

theorem rows_at (hi : pi ≤ 9) (ho : po ≤ 9) (hs : ps ≤ 9) (hA : A.length ≤ 12) (hB : B.length ≤ 12) :
    ∀ r, r ≤ A.length + 1 → ∀ i j, i ≤ A.length → j ≤ B.length → (((List.range r).flatMap fun x => (List.range (B.length + 1)).map fun y => (x, y)).foldl (stepK A B pi po ps) startK) i j = a3 A B pi po ps r 0 i j
  | 0, _ => fun i j _ _ => by rw [a3_start]; rfl
  | r + 1, hr => fun i j h1 h2 => by
    have e : List.range (r + 1) = List.range r ++ [r] := List.range_succ
    rw [e, List.flatMap_append, List.foldl_append]
    simp only [List.flatMap_cons, List.flatMap_nil, List.append_nil]
    rw [row_at A B pi po ps hi ho hs hA hB (by omega) _ (rows_at hi ho hs hA hB r (by omega)) _ (Nat.le_refl _) i j h1 h2, a3_row A B pi po ps r i j h2]

/-- The board in the end. -/
theorem board_pl (hi : pi ≤ 9) (ho : po ≤ 9) (hs : ps ≤ 9) (hA : A.length ≤ 12) (hB : B.length ≤ 12) {i j : Nat} (h1 : i ≤ A.length) (h2 : j ≤ B.length) : boardK A B pi po ps i j = pl A B pi po ps i j := by
  have := rows_at A B pi po ps hi ho hs hA hB (A.length + 1) (Nat.le_refl _) i j h1 h2
  rw [a3_full A B pi po ps (Or.inl (by omega))] at this
  exact this
end
end Go.Proofs.Ytkpmkeklopfhdaa
