/-
  Scripts of edits as numbers: the board that is filled from the front, the least cost and how many ways. Plain mathematics; no program is spoken of.
-/
import Derived.WalkKit
import Derived.RowKit
namespace Go.Proofs.Ytkpmkeklopfhdaa
open Go.RowKit
set_option linter.unusedVariables false

/-- What is known at a pair of indices: cost, ways, the last edit's kind and byte, where it is done. -/
structure Pl where
  c : Int
  w : Int
  k : Int
  b : Int
  i : Int
  j : Int

def nilP : Pl := ⟨0, 0, 0, 0, 0, 0⟩
def oneP : Pl := ⟨0, 1, 0, 0, 0, 0⟩
def orW (x y : Pl) : Pl := if x.w = 0 ∨ y.c < x.c then y else if y.c = x.c then ⟨x.c, wrap64 (x.w + y.w), x.k, x.b, x.i, x.j⟩ else x
def orP (x y : Pl) : Pl := if x.w = 0 ∨ y.c < x.c then y else if y.c = x.c then ⟨x.c, x.w + y.w, x.k, x.b, x.i, x.j⟩ else x

/-- An edit with the indices behind it. -/
structure Nx where
  k : Nat
  b : Nat
  i : Nat
  j : Nat

def atB (L : List Nat) (i : Nat) : Nat := L.getD i 0
def nx (A B : List Nat) (r c q : Nat) : Option Nx :=
  if q = 0 then (if r < A.length ∧ c < B.length ∧ atB A r = atB B c then some ⟨0, 0, r + 1, c + 1⟩ else none)
  else if q = 1 then (if r < A.length ∧ c < B.length ∧ atB A r ≠ atB B c then some ⟨1, atB B c, r + 1, c + 1⟩ else none)
  else if q = 2 then (if r < A.length then some ⟨2, 0, r + 1, c⟩ else none)
  else (if c < B.length then some ⟨3, atB B c, r, c + 1⟩ else none)
def nextL (A B : List Nat) (r c : Nat) : List Nx := (List.range 4).filterMap (nx A B r c)
def prc (pi po ps : Nat) (k : Nat) : Nat := if k = 0 then 0 else if k = 1 then ps else if k = 2 then po else pi

def updK (K : Nat → Nat → Pl) (r c : Nat) (v : Pl) : Nat → Nat → Pl := fun i j => if i = r ∧ j = c then v else K i j
def mkP (pi po ps : Nat) (h : Pl) (x : Nx) (r c : Nat) : Pl := ⟨wrap64 (h.c + (prc pi po ps x.k : Nat)), h.w, x.k, x.b, r, c⟩
def putK (pi po ps : Nat) (h : Pl) (r c : Nat) (K : Nat → Nat → Pl) (x : Nx) : Nat → Nat → Pl := updK K x.i x.j (orW (K x.i x.j) (mkP pi po ps h x r c))
def stepK (A B : List Nat) (pi po ps : Nat) (K : Nat → Nat → Pl) (p : Nat × Nat) : Nat → Nat → Pl :=
  (nextL A B p.1 p.2).foldl (putK pi po ps (K p.1 p.2) p.1 p.2) K
def zeroK : Nat → Nat → Pl := fun _ _ => nilP
def startK : Nat → Nat → Pl := updK zeroK 0 0 oneP
def pairs (la lb : Nat) : List (Nat × Nat) := (List.range (la + 1)).flatMap fun i => (List.range (lb + 1)).map fun j => (i, j)
def boardK (A B : List Nat) (pi po ps : Nat) : Nat → Nat → Pl := (pairs A.length B.length).foldl (stepK A B pi po ps) startK

def cBoth (A B : List Nat) (ps : Nat) (x : Pl) (r c : Nat) : Pl := if atB A r = atB B c then ⟨x.c, x.w, 0, 0, r, c⟩ else ⟨x.c + (ps : Nat), x.w, 1, (atB B c : Nat), r, c⟩
def cOut (po : Nat) (x : Pl) (r c : Nat) : Pl := ⟨x.c + (po : Nat), x.w, 2, 0, r, c⟩
def cIn (B : List Nat) (pi : Nat) (x : Pl) (r c : Nat) : Pl := ⟨x.c + (pi : Nat), x.w, 3, (atB B c : Nat), r, c⟩

/-- What is known in the end. -/
def pl (A B : List Nat) (pi po ps : Nat) : Nat → Nat → Pl
  | 0, 0 => oneP
  | 0, j + 1 => cIn B pi (pl A B pi po ps 0 j) 0 j
  | i + 1, 0 => cOut po (pl A B pi po ps i 0) i 0
  | i + 1, j + 1 => orP (orP (cBoth A B ps (pl A B pi po ps i j) i j) (cOut po (pl A B pi po ps i (j + 1)) i (j + 1))) (cIn B pi (pl A B pi po ps (i + 1) j) (i + 1) j)
termination_by i j => (i, j)

theorem pl_00 (A B : List Nat) (pi po ps : Nat) : pl A B pi po ps 0 0 = oneP := by rw [pl]
theorem pl_0s (A B : List Nat) (pi po ps j : Nat) : pl A B pi po ps 0 (j + 1) = cIn B pi (pl A B pi po ps 0 j) 0 j := by rw [pl]
theorem pl_s0 (A B : List Nat) (pi po ps i : Nat) : pl A B pi po ps (i + 1) 0 = cOut po (pl A B pi po ps i 0) i 0 := by rw [pl]
theorem pl_ss (A B : List Nat) (pi po ps i j : Nat) : pl A B pi po ps (i + 1) (j + 1) = orP (orP (cBoth A B ps (pl A B pi po ps i j) i j) (cOut po (pl A B pi po ps i (j + 1)) i (j + 1))) (cIn B pi (pl A B pi po ps (i + 1) j) (i + 1) j) := by rw [pl]

/-- What an or gives: one of both, the less cost. -/
theorem orP_c (x y : Pl) (h : x.w ≠ 0) : (orP x y).c = min x.c y.c := by
  unfold orP; split
  · rename_i h1; rcases h1 with h1 | h1
    · exact absurd h1 h
    · omega
  · rename_i h1; split
    · simp only []; omega
    · omega
theorem orP_w (x y : Pl) (h : x.w ≠ 0) : (orP x y).w = if y.c < x.c then y.w else if y.c = x.c then x.w + y.w else x.w := by
  unfold orP; split
  · rename_i h1; rcases h1 with h1 | h1
    · exact absurd h1 h
    · rw [if_pos h1]
  · rename_i h1
    rw [if_neg (fun h2 => h1 (Or.inr h2))]
    split <;> rfl
theorem cBoth_c (A B : List Nat) (ps : Nat) (x : Pl) (r c : Nat) : (cBoth A B ps x r c).c = x.c + (if atB A r = atB B c then 0 else (ps : Int)) := by unfold cBoth; split <;> simp
theorem cBoth_w (A B : List Nat) (ps : Nat) (x : Pl) (r c : Nat) : (cBoth A B ps x r c).w = x.w := by unfold cBoth; split <;> rfl

section
variable (A B : List Nat) (pi po ps : Nat)

theorem pl_bounds (hi : pi ≤ 9) (ho : po ≤ 9) (hs : ps ≤ 9) : ∀ (n i j : Nat), i + j ≤ n → 0 ≤ (pl A B pi po ps i j).c ∧ (pl A B pi po ps i j).c ≤ 9 * ((i + j : Nat) : Int) ∧ 1 ≤ (pl A B pi po ps i j).w ∧ (pl A B pi po ps i j).w ≤ 3 ^ (i + j) := by
  intro n
  induction n with
  | zero => intro i j h; obtain rfl : i = 0 := by omega
            obtain rfl : j = 0 := by omega
            rw [pl_00]; simp [oneP]
  | succ n ih =>
    intro i j h
    rcases i with _ | i
    · rcases j with _ | j
      · rw [pl_00]; simp [oneP]
      · obtain ⟨h1, h2, h3, h4⟩ := ih 0 j (by omega)
        rw [pl_0s]
        simp only [cIn]
        rw [show (0 : Nat) + (j + 1) = (0 + j) + 1 from by omega, Int.pow_succ]
        have : (0 : Int) < 3 ^ (0 + j) := Int.pow_pos (by decide)
        generalize (3 : Int) ^ (0 + j) = z at *
        omega
    · rcases j with _ | j
      · obtain ⟨h1, h2, h3, h4⟩ := ih i 0 (by omega)
        rw [pl_s0]
        simp only [cOut]
        rw [show i + 1 + 0 = (i + 0) + 1 from by omega, Int.pow_succ]
        have : (0 : Int) < 3 ^ (i + 0) := Int.pow_pos (by decide)
        generalize (3 : Int) ^ (i + 0) = z at *
        omega
      · obtain ⟨a1, a2, a3, a4⟩ := ih i j (by omega)
        obtain ⟨b1, b2, b3, b4⟩ := ih i (j + 1) (by omega)
        obtain ⟨c1, c2, c3, c4⟩ := ih (i + 1) j (by omega)
        rw [pl_ss]
        have n1 : (cBoth A B ps (pl A B pi po ps i j) i j).w ≠ 0 := by rw [cBoth_w]; omega
        have e1 := orP_c (cBoth A B ps (pl A B pi po ps i j) i j) (cOut po (pl A B pi po ps i (j + 1)) i (j + 1)) n1
        have e2 := orP_w (cBoth A B ps (pl A B pi po ps i j) i j) (cOut po (pl A B pi po ps i (j + 1)) i (j + 1)) n1
        rw [cBoth_c] at e1 e2
        rw [cBoth_w] at e2
        generalize orP (cBoth A B ps (pl A B pi po ps i j) i j) (cOut po (pl A B pi po ps i (j + 1)) i (j + 1)) = X at *
        simp only [cOut] at e1 e2
        have n2 : X.w ≠ 0 := by rw [e2]; (repeat' split) <;> omega
        have e3 := orP_c X (cIn B pi (pl A B pi po ps (i + 1) j) (i + 1) j) n2
        have e4 := orP_w X (cIn B pi (pl A B pi po ps (i + 1) j) (i + 1) j) n2
        simp only [cIn] at e3 e4
        rw [show orP X (cIn B pi (pl A B pi po ps (i + 1) j) (i + 1) j) = orP X ⟨(pl A B pi po ps (i + 1) j).c + (pi : Nat), (pl A B pi po ps (i + 1) j).w, 3, (atB B j : Nat), (i + 1 : Nat), j⟩ from rfl]
        rw [e3, e4]
        have p1 : (3 : Int) ^ (i + 1 + (j + 1)) = 9 * 3 ^ (i + j) := by
          rw [show i + 1 + (j + 1) = (i + j) + 1 + 1 from by omega, Int.pow_succ, Int.pow_succ]; omega
        have p2 : (3 : Int) ^ (i + (j + 1)) = 3 * 3 ^ (i + j) := by rw [show i + (j + 1) = (i + j) + 1 from by omega, Int.pow_succ]; omega
        have p3 : (3 : Int) ^ (i + 1 + j) = 3 * 3 ^ (i + j) := by rw [show i + 1 + j = (i + j) + 1 from by omega, Int.pow_succ]; omega
        rw [p1]; rw [p2] at b4; rw [p3] at c4
        have hp : (0 : Int) < 3 ^ (i + j) := Int.pow_pos (by decide)
        generalize (3 : Int) ^ (i + j) = z at *
        generalize (pl A B pi po ps i j) = P at *
        generalize (pl A B pi po ps i (j + 1)) = Q at *
        generalize (pl A B pi po ps (i + 1) j) = R at *
        have hX : 1 ≤ X.w ∧ X.w ≤ P.w + Q.w := by rw [e2]; (repeat' split) <;> omega
        refine ⟨?_, ?_, ?_, ?_⟩
        · rw [e1]; split <;> omega
        · rw [e1]; split <;> omega
        · (repeat' split) <;> omega
        · (repeat' split) <;> omega

theorem pl_w (hi : pi ≤ 9) (ho : po ≤ 9) (hs : ps ≤ 9) (i j : Nat) : (pl A B pi po ps i j).w ≠ 0 := by
  have := (pl_bounds A B pi po ps hi ho hs _ i j (Nat.le_refl _)).2.2.1; omega

/-- The cost in the end: one of three, none less. -/
theorem pl_cost (hi : pi ≤ 9) (ho : po ≤ 9) (hs : ps ≤ 9) (i j : Nat) : (pl A B pi po ps (i + 1) (j + 1)).c =
    min (min ((pl A B pi po ps i j).c + (if atB A i = atB B j then 0 else (ps : Int))) ((pl A B pi po ps i (j + 1)).c + (po : Int))) ((pl A B pi po ps (i + 1) j).c + (pi : Int)) := by
  have hw := pl_w A B pi po ps hi ho hs
  have n1 : (cBoth A B ps (pl A B pi po ps i j) i j).w ≠ 0 := by rw [cBoth_w]; exact hw i j
  have n2 : (orP (cBoth A B ps (pl A B pi po ps i j) i j) (cOut po (pl A B pi po ps i (j + 1)) i (j + 1))).w ≠ 0 := by
    rw [orP_w _ _ n1, cBoth_w]
    have h1 := (pl_bounds A B pi po ps hi ho hs _ i j (Nat.le_refl _)).2.2.1
    have h2 := (pl_bounds A B pi po ps hi ho hs _ i (j + 1) (Nat.le_refl _)).2.2.1
    simp only [cOut]
    (repeat' split) <;> omega
  rw [pl_ss, orP_c _ _ n2, orP_c _ _ n1, cBoth_c]
  rfl

/-- How many ways there are in the end. -/
theorem pl_ways (hi : pi ≤ 9) (ho : po ≤ 9) (hs : ps ≤ 9) (i j : Nat) : (pl A B pi po ps (i + 1) (j + 1)).w =
    (if (pl A B pi po ps i j).c + (if atB A i = atB B j then 0 else (ps : Int)) = (pl A B pi po ps (i + 1) (j + 1)).c then (pl A B pi po ps i j).w else 0) +
    (if (pl A B pi po ps i (j + 1)).c + (po : Int) = (pl A B pi po ps (i + 1) (j + 1)).c then (pl A B pi po ps i (j + 1)).w else 0) +
    (if (pl A B pi po ps (i + 1) j).c + (pi : Int) = (pl A B pi po ps (i + 1) (j + 1)).c then (pl A B pi po ps (i + 1) j).w else 0) := by
  have hw := pl_w A B pi po ps hi ho hs
  have n1 : (cBoth A B ps (pl A B pi po ps i j) i j).w ≠ 0 := by rw [cBoth_w]; exact hw i j
  have h1 := (pl_bounds A B pi po ps hi ho hs _ i j (Nat.le_refl _)).2.2.1
  have h2 := (pl_bounds A B pi po ps hi ho hs _ i (j + 1) (Nat.le_refl _)).2.2.1
  have n2 : (orP (cBoth A B ps (pl A B pi po ps i j) i j) (cOut po (pl A B pi po ps i (j + 1)) i (j + 1))).w ≠ 0 := by
    rw [orP_w _ _ n1, cBoth_w]
    simp only [cOut]
    (repeat' split) <;> omega
  have hc := pl_cost A B pi po ps hi ho hs i j
  rw [hc, pl_ss, orP_w _ _ n2, orP_c _ _ n1, orP_w _ _ n1, cBoth_w, cBoth_c]
  simp only [cOut, cIn]
  generalize (pl A B pi po ps i j) = P at *
  generalize (pl A B pi po ps i (j + 1)) = Q at *
  generalize (pl A B pi po ps (i + 1) j) = R at *
  generalize (if atB A i = atB B j then (0 : Int) else ps) = z
  clear hc n1 n2 hw
  obtain ⟨M, hM⟩ : ∃ M, min (P.c + z) (Q.c + (po : Int)) = M := ⟨_, rfl⟩
  have m1 : M ≤ P.c + z ∧ M ≤ Q.c + (po : Int) ∧ (M = P.c + z ∨ M = Q.c + (po : Int)) := by omega
  simp only [hM]
  obtain ⟨L, hL⟩ : ∃ L, min M (R.c + (pi : Int)) = L := ⟨_, rfl⟩
  have m2 : L ≤ M ∧ L ≤ R.c + (pi : Int) ∧ (L = M ∨ L = R.c + (pi : Int)) := by omega
  simp only [hL]
  clear hM hL
  (repeat' split) <;> omega
end
end Go.Proofs.Ytkpmkeklopfhdaa
