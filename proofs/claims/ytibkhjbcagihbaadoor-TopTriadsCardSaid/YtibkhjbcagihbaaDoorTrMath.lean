/-
  Triads as places on a circle: steps, walks, shifts. Plain mathematics.
-/
import Derived.WalkKit
namespace Go.Proofs.YtibkhjbcagihbaaDoor

/-- How far a step goes. (80, 76, 82: P, L, R.) -/
def byL (a b c : Nat) : Nat := if c = 80 then b else if c = 76 then a + b else a
def stepN (n a b t c : Nat) : Nat := if t < n then n + (t + byL a b c) % n else (t - n + (2 * n - byL a b c)) % n
def walkN (n a b t : Nat) (l : List Nat) : Nat := l.foldl (stepN n a b) t

structure KOk (n a b : Nat) : Prop where
  h6 : 6 ≤ n
  h16 : n ≤ 16
  ha : 0 < a
  hab : a < b
  hbn : b < n
  d1 : a ≠ b - a
  d2 : b - a ≠ n - b
  d3 : n - b ≠ a

theorem KOk.pos {n a b : Nat} (h : KOk n a b) : 0 < n := by have := h.h6; omega
theorem KOk.by_le {n a b : Nat} (h : KOk n a b) (c : Nat) : byL a b c ≤ 2 * n := by
  have := h.hab; have := h.hbn
  unfold byL; split
  · omega
  · split <;> omega
theorem KOk.by_pos {n a b : Nat} (h : KOk n a b) (c : Nat) : 0 < byL a b c := by
  have := h.hab; have := h.ha
  unfold byL; split
  · omega
  · split <;> omega

/-- The triad of a sort (true: dark) at a place, any integer. -/
def tri (n : Nat) (d : Bool) (z : Int) : Nat := (if d then n else 0) + (z % n).toNat

theorem emod_nat {n : Nat} (h : 0 < n) (z : Int) : ((z % n).toNat : Int) = z % n ∧ (z % n).toNat < n := by
  have h1 := Int.emod_nonneg z (show (n : Int) ≠ 0 by omega)
  have h2 := Int.emod_lt_of_pos z (show (0 : Int) < n by omega)
  omega

theorem tri_lt {n : Nat} (h : 0 < n) (d : Bool) (z : Int) : tri n d z < 2 * n := by
  have := (emod_nat h z).2
  unfold tri; cases d <;> simp <;> omega

theorem tri_of {n t : Nat} (ht : t < 2 * n) : t = tri n (decide (n ≤ t)) t := by
  unfold tri
  by_cases h : n ≤ t
  · simp only [h, decide_true, if_true]
    have e : ((t : Int) % n).toNat = t % n := by rw [← Int.natCast_emod, Int.toNat_natCast]
    rw [e, Nat.mod_eq_sub_mod h, Nat.mod_eq_of_lt (by omega)]; omega
  · simp only [h, decide_false, Bool.false_eq_true, if_false]
    have e : ((t : Int) % n).toNat = t % n := by rw [← Int.natCast_emod, Int.toNat_natCast]
    rw [e, Nat.mod_eq_of_lt (by omega)]; omega

theorem tri_inj {n : Nat} (h : 0 < n) (d d' : Bool) (z z' : Int) : tri n d z = tri n d' z' ↔ d = d' ∧ z % n = z' % n := by
  have h1 := emod_nat h z
  have h2 := emod_nat h z'
  unfold tri
  cases d <;> cases d' <;> simp <;> omega

theorem tri_congr {n : Nat} {d : Bool} {z z' : Int} (h : z % n = z' % n) : tri n d z = tri n d z' := by unfold tri; rw [h]

theorem toNat_mod {n : Nat} (h : 0 < n) (z : Int) (x : Nat) : ((z % n).toNat + x) % n = ((z + x) % n).toNat := by
  have h1 := emod_nat h z
  have h2 := emod_nat h (z + x)
  have e : ((((z % n).toNat + x) % n : Nat) : Int) = (z + x) % n := by
    rw [Int.natCast_emod, Int.natCast_add, h1.1, Int.emod_add_emod]
  omega

theorem tri_step {n a b : Nat} (h : KOk n a b) (d : Bool) (z : Int) (c : Nat) :
    stepN n a b (tri n d z) c = tri n (!d) (if d then z - byL a b c else z + byL a b c) := by
  have hn := h.pos
  have hb := h.by_le c
  have h1 := emod_nat hn z
  unfold stepN tri
  cases d
  · simp only [Bool.false_eq_true, if_false, Nat.zero_add, h1.2, if_true, Bool.not_false]
    rw [toNat_mod hn]
  · simp only [if_true, Bool.not_true, Bool.false_eq_true, if_false, Nat.zero_add]
    rw [if_neg (by omega), Nat.add_sub_cancel_left, toNat_mod hn]
    congr 1
    have e : z + ((2 * n - byL a b c : Nat) : Int) = (z - byL a b c) + (n : Int) * 2 := by omega
    rw [e, Int.add_mul_emod_self_left]

theorem step_lt {n a b : Nat} (h : KOk n a b) (t c : Nat) (ht : t < 2 * n) : stepN n a b t c < 2 * n := by
  rw [tri_of ht, tri_step h]; exact tri_lt h.pos _ _

/-- Each step twice leads back. -/
theorem step_twice {n a b : Nat} (h : KOk n a b) (t c : Nat) (ht : t < 2 * n) : stepN n a b (stepN n a b t c) c = t := by
  rw [tri_of ht, tri_step h, tri_step h]
  cases decide (n ≤ t) <;> simp [Int.add_sub_cancel, Int.sub_add_cancel]

theorem step_inj {n a b : Nat} (h : KOk n a b) {t u c : Nat} (ht : t < 2 * n) (hu : u < 2 * n) (e : stepN n a b t c = stepN n a b u c) : t = u := by
  rw [← step_twice h t c ht, e, step_twice h u c hu]

theorem walk_lt {n a b : Nat} (h : KOk n a b) : ∀ (l : List Nat) (t : Nat), t < 2 * n → walkN n a b t l < 2 * n
  | [], t, ht => ht
  | c :: l, t, ht => walk_lt h l _ (step_lt h t c ht)

theorem walk_append (n a b t : Nat) (l m : List Nat) : walkN n a b t (l ++ m) = walkN n a b (walkN n a b t l) m := by
  unfold walkN; rw [List.foldl_append]

/-- How far a walk goes from a bright triad; from a dark one it goes so far down. -/
def disp (a b : Nat) : List Nat → Int
  | [] => 0
  | c :: l => (byL a b c : Int) - disp a b l
def oddL (l : List Nat) : Bool := l.length % 2 == 1

theorem oddL_cons (c : Nat) (l : List Nat) : oddL (c :: l) = !oddL l := by
  unfold oddL
  rw [List.length_cons]
  rcases Nat.mod_two_eq_zero_or_one l.length with h | h
  · have : (l.length + 1) % 2 = 1 := by omega
    rw [h, this]; rfl
  · have : (l.length + 1) % 2 = 0 := by omega
    rw [h, this]; rfl

theorem tri_walk {n a b : Nat} (h : KOk n a b) : ∀ (l : List Nat) (d : Bool) (z : Int),
    walkN n a b (tri n d z) l = tri n (xor d (oddL l)) (if d then z - disp a b l else z + disp a b l)
  | [], d, z => by cases d <;> simp [walkN, oddL, disp]
  | c :: l, d, z => by
    show walkN n a b (stepN n a b (tri n d z) c) l = _
    rw [tri_step h, tri_walk h l, oddL_cons]
    cases d
    · simp only [Bool.not_false, if_true, Bool.false_eq_true, if_false, Bool.true_xor, Bool.false_xor, disp]
      congr 1; omega
    · simp only [Bool.not_true, if_true, Bool.false_eq_true, if_false, Bool.false_xor, Bool.true_xor, Bool.not_not, disp]
      congr 1; omega

/-- Whether two walks do the same at one triad says whether they do at all. -/
theorem walk_same {n a b : Nat} (h : KOk n a b) {l m : List Nat} {t : Nat} (ht : t < 2 * n) (e : walkN n a b t l = walkN n a b t m) :
    ∀ u, u < 2 * n → walkN n a b u l = walkN n a b u m := by
  have hn := h.pos
  have key : oddL l = oddL m ∧ disp a b l % n = disp a b m % n := by
    rw [tri_of ht, tri_walk h, tri_walk h, tri_inj hn] at e
    obtain ⟨e1, e2⟩ := e
    generalize decide (n ≤ t) = d at e1 e2
    generalize ht' : (t : Int) = z at e2
    refine ⟨?_, ?_⟩
    · cases d <;> simpa using e1
    · cases d
      · simp only [Bool.false_eq_true, if_false] at e2
        have e3 : ((z + disp a b l) - z) % n = ((z + disp a b m) - z) % n := by rw [Int.sub_emod, e2, ← Int.sub_emod]
        have e4 : ∀ x : Int, (z + x) - z = x := fun x => by omega
        rwa [e4, e4] at e3
      · simp only [if_true] at e2
        have e3 : (z - (z - disp a b l)) % n = (z - (z - disp a b m)) % n := by rw [Int.sub_emod, e2, ← Int.sub_emod]
        have e4 : ∀ x : Int, z - (z - x) = x := fun x => by omega
        rwa [e4, e4] at e3
  intro u hu
  rw [tri_of hu, tri_walk h, tri_walk h, tri_inj hn]
  generalize decide (n ≤ u) = d
  refine ⟨by rw [key.1], ?_⟩
  cases d
  · simp only [Bool.false_eq_true, if_false]; rw [Int.add_emod, key.2, ← Int.add_emod]
  · simp only [if_true]; rw [Int.sub_emod, key.2, ← Int.sub_emod]

/-! ### shifts -/
def shiftN (n t : Nat) (k : Int) (turned : Bool) : Nat := tri n (xor (decide (n ≤ t)) turned) (if turned then k - t else k + t)

theorem shift_tri {n : Nat} (h : 0 < n) (d : Bool) (z k : Int) (turned : Bool) : shiftN n (tri n d z) k turned = tri n (xor d turned) (if turned then k - z else k + z) := by
  have h1 := emod_nat h z
  have hd : decide (n ≤ tri n d z) = d := by
    unfold tri; cases d <;> simp; omega
  have hm : ((tri n d z : Nat) : Int) % n = z % n := by
    unfold tri
    cases d
    · simp only [Bool.false_eq_true, if_false, Nat.zero_add]; rw [h1.1, Int.emod_emod]
    · simp only [if_true]; rw [Int.natCast_add, h1.1, Int.add_emod, Int.emod_self, Int.zero_add, Int.emod_emod, Int.emod_emod]
  unfold shiftN
  rw [hd, tri_inj h]
  refine ⟨rfl, ?_⟩
  cases turned
  · simp only [Bool.false_eq_true, if_false]; rw [Int.add_emod, hm, ← Int.add_emod]
  · simp only [if_true]; rw [Int.sub_emod, hm, ← Int.sub_emod]
end Go.Proofs.YtibkhjbcagihbaaDoor
