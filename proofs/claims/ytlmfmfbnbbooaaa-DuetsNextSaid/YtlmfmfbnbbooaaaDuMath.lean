/-
  Second parts: the rules at a place, as lists; the beginnings that keep them, in order. Plain mathematics.
-/
import Derived.ProofKit
namespace Go.Proofs.Ytlmfmfbnbbooaaa

def nAt (l : List Int) (i : Nat) : Int := l[i]?.getD 0
def noteB (x : Int) : Bool := decide (0 ≤ x ∧ x ≤ 20)
def notesB (l : List Int) : Bool := l.all noteB
def dpartB (l : List Int) : Bool := decide (1 ≤ l.length ∧ l.length ≤ 8) && notesB l
def pairB (a b : List Int) : Bool := dpartB a && dpartB b && decide (a.length = b.length)

def openB (x : Int) : Bool := decide (x % 7 = 0 ∨ x % 7 = 4)
def sweetB (x : Int) : Bool := decide (x % 7 = 2 ∨ x % 7 = 5)
/-- The interval at a place; the moves of the second and of the given part to it. -/
def ivA (gs ss : List Int) (i : Nat) : Int := nAt ss i - nAt gs i
def mvA (ss : List Int) (i : Nat) : Int := nAt ss i - nAt ss (i - 1)

def r1B (gs ss : List Int) (i : Nat) : Bool := decide (0 ≤ ivA gs ss i ∧ ivA gs ss i ≤ 14)
def r2B (gs ss : List Int) (i : Nat) : Bool := openB (ivA gs ss i) || sweetB (ivA gs ss i)
def r3B (gs ss : List Int) (i : Nat) : Bool :=
  decide (ivA gs ss i = 0 ∨ ivA gs ss i = 7 ∨ ivA gs ss i = 14) || (if ivA gs ss i = 4 ∨ ivA gs ss i = 11 then decide (i + 1 ≠ gs.length) else decide (i ≠ 0 ∧ i + 1 ≠ gs.length))
def r4B (ss : List Int) (i : Nat) : Bool := decide (i = 0) || decide ((-4 ≤ mvA ss i ∧ mvA ss i ≤ 4) ∨ mvA ss i = 7 ∨ mvA ss i = -7)
def r5B (gs ss : List Int) (i : Nat) : Bool := decide (i = 0) || !openB (ivA gs ss i) || decide ((ivA gs ss i - ivA gs ss (i - 1)) % 7 ≠ 0) || decide (mvA ss i = 0)
def r6B (gs ss : List Int) (i : Nat) : Bool := decide (i = 0) || !openB (ivA gs ss i) || decide (mvA gs i * mvA ss i ≤ 0) || decide (mvA ss i = 1 ∨ mvA ss i = -1)
def r7B (ss : List Int) (i : Nat) : Bool := decide (i < 2) || decide (-2 ≤ mvA ss (i - 1) ∧ mvA ss (i - 1) ≤ 2) || (decide (mvA ss (i - 1) * mvA ss i < 0) && decide (mvA ss i = 1 ∨ mvA ss i = -1 ∨ mvA ss i = 2 ∨ mvA ss i = -2))
def r8B (ss : List Int) (i : Nat) : Bool := decide (i < 2) || decide (mvA ss i ≠ 0) || decide (mvA ss (i - 1) ≠ 0)

/-- The least rule that is not kept at a place; 0: all are. -/
def faultN (gs ss : List Int) (i : Nat) : Nat :=
  if r1B gs ss i = false then 1 else if r2B gs ss i = false then 2 else if r3B gs ss i = false then 3 else if r4B ss i = false then 4 else
  if r5B gs ss i = false then 5 else if r6B gs ss i = false then 6 else if r7B ss i = false then 7 else if r8B ss i = false then 8 else 0
theorem fault_le (gs ss : List Int) (i : Nat) : faultN gs ss i ≤ 8 := by unfold faultN; repeat' (first | omega | split)

def absI (x : Int) : Int := max x (-x)
/-- The same as the document's answer has it. -/
def brokenN (gs ss : List Int) (i : Nat) : Nat :=
  if ivA gs ss i < 0 ∨ 14 < ivA gs ss i then 1
  else if openB (ivA gs ss i) = false ∧ sweetB (ivA gs ss i) = false then 2
  else if (i + 1 = gs.length ∧ ivA gs ss i % 7 ≠ 0) ∨ (i = 0 ∧ ivA gs ss i % 7 ≠ 0 ∧ ivA gs ss i % 7 ≠ 4) then 3
  else if i = 0 then 0
  else if 4 < absI (mvA ss i) ∧ absI (mvA ss i) ≠ 7 then 4
  else if openB (ivA gs ss (i - 1)) = true ∧ openB (ivA gs ss i) = true ∧ ivA gs ss (i - 1) % 7 = ivA gs ss i % 7 ∧ mvA ss i ≠ 0 then 5
  else if openB (ivA gs ss i) = true ∧ ((0 < mvA ss i ∧ 0 < mvA gs i) ∨ (mvA ss i < 0 ∧ mvA gs i < 0)) ∧ absI (mvA ss i) ≠ 1 then 6
  else if i = 1 then 0
  else if (2 < mvA ss (i - 1) ∧ mvA ss i ≠ -1 ∧ mvA ss i ≠ -2) ∨ (mvA ss (i - 1) < -2 ∧ mvA ss i ≠ 1 ∧ mvA ss i ≠ 2) then 7
  else if mvA ss (i - 1) = 0 ∧ mvA ss i = 0 then 8
  else 0

theorem mul_pos_cases (a b : Int) : (a * b ≤ 0) ↔ ¬ ((0 < b ∧ 0 < a) ∨ (b < 0 ∧ a < 0)) := by
  constructor
  · rintro h (⟨h1, h2⟩ | ⟨h1, h2⟩)
    · have := Int.mul_pos h2 h1; omega
    · have := Int.mul_pos_of_neg_of_neg h2 h1; omega
  · intro h
    by_cases ha : 0 < a
    · exact Int.mul_nonpos_of_nonneg_of_nonpos (by omega) (by by_cases hb : 0 < b; exact absurd (.inl ⟨hb, ha⟩) h; omega)
    · by_cases ha2 : a < 0
      · exact Int.mul_nonpos_of_nonpos_of_nonneg (by omega) (by by_cases hb : b < 0; exact absurd (.inr ⟨hb, ha2⟩) h; omega)
      · have : a = 0 := by omega
        subst this; omega
theorem mul_neg_cases (a b : Int) : (a * b < 0) ↔ ((0 < a ∧ b < 0) ∨ (a < 0 ∧ 0 < b)) := by
  have h := mul_pos_cases (-a) b
  have e : -a * b = -(a * b) := Int.neg_mul a b
  rw [e] at h
  constructor
  · intro hab
    have : ¬ (-(a * b) ≤ 0) := by omega
    rw [h, Classical.not_not] at this
    omega
  · intro hc
    have : ¬ (-(a * b) ≤ 0) := by rw [h, Classical.not_not]; omega
    omega

theorem r1_iff (gs ss : List Int) (i : Nat) : (r1B gs ss i = false) ↔ ¬ (0 ≤ ivA gs ss i ∧ ivA gs ss i ≤ 14) := by unfold r1B; rw [decide_eq_false_iff_not]
theorem r2_iff (gs ss : List Int) (i : Nat) : (r2B gs ss i = false) ↔ openB (ivA gs ss i) = false ∧ sweetB (ivA gs ss i) = false := by unfold r2B; rw [Bool.or_eq_false_iff]
theorem r3_iff (gs ss : List Int) (i : Nat) : (r3B gs ss i = false) ↔ ¬ (ivA gs ss i = 0 ∨ ivA gs ss i = 7 ∨ ivA gs ss i = 14) ∧ ((ivA gs ss i = 4 ∨ ivA gs ss i = 11) ∧ i + 1 = gs.length ∨ ¬ (ivA gs ss i = 4 ∨ ivA gs ss i = 11) ∧ (i = 0 ∨ i + 1 = gs.length)) := by
  unfold r3B
  rw [Bool.or_eq_false_iff, decide_eq_false_iff_not]
  split <;> rw [decide_eq_false_iff_not] <;> omega
theorem r4_iff (ss : List Int) (i : Nat) : (r4B ss i = false) ↔ ¬ i = 0 ∧ ¬ ((-4 ≤ mvA ss i ∧ mvA ss i ≤ 4) ∨ mvA ss i = 7 ∨ mvA ss i = -7) := by unfold r4B; rw [Bool.or_eq_false_iff, decide_eq_false_iff_not, decide_eq_false_iff_not]
theorem r5_iff (gs ss : List Int) (i : Nat) : (r5B gs ss i = false) ↔ ((¬ i = 0 ∧ (openB (ivA gs ss i)) = true) ∧ (ivA gs ss i - ivA gs ss (i - 1)) % 7 = 0) ∧ ¬ mvA ss i = 0 := by
  unfold r5B; simp
theorem r6_iff (gs ss : List Int) (i : Nat) : (r6B gs ss i = false) ↔ ((¬ i = 0 ∧ (openB (ivA gs ss i)) = true) ∧ ((0 < mvA ss i ∧ 0 < mvA gs i) ∨ (mvA ss i < 0 ∧ mvA gs i < 0))) ∧ ¬ (mvA ss i = 1 ∨ mvA ss i = -1) := by
  unfold r6B
  rw [Bool.or_eq_false_iff, Bool.or_eq_false_iff, Bool.or_eq_false_iff, decide_eq_false_iff_not, decide_eq_false_iff_not, decide_eq_false_iff_not, Bool.not_eq_false', mul_pos_cases, Classical.not_not]
theorem r7_iff (ss : List Int) (i : Nat) : (r7B ss i = false) ↔ (¬ i < 2 ∧ ¬ (-2 ≤ mvA ss (i - 1) ∧ mvA ss (i - 1) ≤ 2)) ∧ (¬ ((0 < mvA ss (i - 1) ∧ mvA ss i < 0) ∨ (mvA ss (i - 1) < 0 ∧ 0 < mvA ss i)) ∨ ¬ (mvA ss i = 1 ∨ mvA ss i = -1 ∨ mvA ss i = 2 ∨ mvA ss i = -2)) := by
  unfold r7B
  rw [Bool.or_eq_false_iff, Bool.or_eq_false_iff, Bool.and_eq_false_iff, decide_eq_false_iff_not, decide_eq_false_iff_not, decide_eq_false_iff_not, decide_eq_false_iff_not, mul_neg_cases]
theorem r8_iff (ss : List Int) (i : Nat) : (r8B ss i = false) ↔ (¬ i < 2 ∧ mvA ss i = 0) ∧ mvA ss (i - 1) = 0 := by
  unfold r8B; simp
theorem open_iff (x : Int) : (openB x = true) ↔ (x % 7 = 0 ∨ x % 7 = 4) := by unfold openB; rw [decide_eq_true_eq]
theorem open_not (x : Int) : (openB x = false) ↔ ¬ (x % 7 = 0 ∨ x % 7 = 4) := by unfold openB; rw [decide_eq_false_iff_not]
theorem sweet_not (x : Int) : (sweetB x = false) ↔ ¬ (x % 7 = 2 ∨ x % 7 = 5) := by unfold sweetB; rw [decide_eq_false_iff_not]

theorem ite_same {c d : Prop} [Decidable c] [Decidable d] {x a b : Nat} (h : c ↔ d) (k : ¬ c → a = b) : (if c then x else a) = (if d then x else b) := by
  by_cases hc : c
  · rw [if_pos hc, if_pos (h.1 hc)]
  · rw [if_neg hc, if_neg (fun hd => hc (h.2 hd)), k hc]
theorem ite_skip {d : Prop} [Decidable d] {a b : Nat} (h : d → a = 0) (k : ¬ d → a = b) : a = (if d then 0 else b) := by
  by_cases hd : d
  · rw [if_pos hd, h hd]
  · rw [if_neg hd, k hd]
theorem fault_eq (gs ss : List Int) (i : Nat) : faultN gs ss i = brokenN gs ss i := by
  unfold faultN brokenN
  simp only [r1_iff, r2_iff, r3_iff, r4_iff, r5_iff, r6_iff, r7_iff, r8_iff, open_iff, open_not, sweet_not, absI]
  generalize ivA gs ss i = v
  generalize ivA gs ss (i - 1) = u
  generalize mvA ss i = m
  generalize mvA ss (i - 1) = p
  generalize mvA gs i = g
  generalize gs.length = L
  refine ite_same (by omega) fun h1 => ite_same (by omega) fun h2 => ite_same (by omega) fun h3 => ite_skip (fun h0 => by rw [if_neg (by omega), if_neg (by omega), if_neg (by omega), if_neg (by omega), if_neg (by omega)]) fun h0 => ?_
  refine ite_same (by omega) fun h4 => ite_same (by omega) fun h5 => ite_same (by omega) fun h6 => ite_skip (fun h0 => by rw [if_neg (by omega), if_neg (by omega)]) fun h7 => ?_
  exact ite_same (by omega) fun h8 => ite_same (by omega) fun _ => rfl

/-- The first place at which a rule is not kept. -/
def firstF (gs ss : List Int) : Option (Nat × Nat) := ((List.range ss.length).find? fun i => decide (faultN gs ss i ≠ 0)).map fun i => (i, faultN gs ss i)
def keptB (gs ss : List Int) : Bool := (firstF gs ss).isNone

/-- The notes with which a beginning goes on. -/
def nextL (gs b : List Int) : List Nat := (List.range 21).filter fun x => decide (faultN gs (b ++ [(x : Int)]) b.length = 0)
/-- All beginnings behind one, in order. -/
def begL (gs : List Int) : Nat → List Int → List (List Int)
  | 0, _ => []
  | f + 1, b => (nextL gs b).flatMap fun (x : Nat) => (b ++ [(x : Int)]) :: begL gs f (b ++ [(x : Int)])
def rightL (gs : List Int) : List (List Int) := (begL gs gs.length []).filter fun s => decide (s.length = gs.length)

theorem flat_le {α β : Type} (f : α → List β) (B : Nat) : ∀ l : List α, (∀ a ∈ l, (f a).length ≤ B) → (l.flatMap f).length ≤ l.length * B
  | [], _ => by simp
  | a :: l, h => by
    rw [List.flatMap_cons, List.length_append, List.length_cons, Nat.succ_mul]
    have h1 := h a (by simp)
    have h2 := flat_le f B l (fun b hb => h b (by simp [hb]))
    omega
theorem begL_length (gs : List Int) : ∀ f b, (begL gs f b).length + 1 ≤ 22 ^ f
  | 0, _ => by simp [begL]
  | f + 1, b => by
    unfold begL
    have h1 := flat_le (fun x : Nat => (b ++ [(x : Int)]) :: begL gs f (b ++ [(x : Int)])) (22 ^ f) (nextL gs b) (fun x _ => by
      rw [List.length_cons]; exact begL_length gs f _)
    have h2 : (nextL gs b).length ≤ 21 := by
      unfold nextL
      refine Nat.le_trans (List.length_filter_le _ _) ?_
      rw [List.length_range]
      exact Nat.le_refl _
    have h3 : (nextL gs b).length * 22 ^ f ≤ 21 * 22 ^ f := Nat.mul_le_mul_right _ h2
    have h4 : 22 ^ (f + 1) = 22 * 22 ^ f := by rw [Nat.pow_succ, Nat.mul_comm]
    have h5 : 0 < 22 ^ f := Nat.pow_pos (by omega)
    omega
end Go.Proofs.Ytlmfmfbnbbooaaa
