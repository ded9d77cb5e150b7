/-
  The order of walks: the shorter ones first; how many were found from every triad.
-/
import Derived.Test.YtibkhjbcagihbaaTrSize
namespace Go.Proofs.Ytibkhjbcagihbaa
set_option maxRecDepth 100000

def leW1 : List Nat → List Nat → Bool
  | [], _ => true
  | _ :: _, [] => false
  | a :: l, b :: m => Nat.blt a b || (Nat.beq a b && leW1 l m)
/-- The shorter one first; of the same length in their order. -/
def leW (l m : List Nat) : Bool := Nat.blt l.length m.length || (Nat.beq l.length m.length && leW1 l m)

theorem leW1_refl : ∀ l : List Nat, leW1 l l = true
  | [] => rfl
  | a :: l => by simp [leW1, leW1_refl l]
theorem leW1_trans : ∀ {l m k : List Nat}, leW1 l m = true → leW1 m k = true → leW1 l k = true
  | [], _, _, _, _ => rfl
  | _ :: _, [], _, h, _ => by cases h
  | _ :: _, _ :: _, [], _, h => by cases h
  | a :: l, b :: m, c :: k, h1, h2 => by
    simp only [leW1, Bool.or_eq_true, Bool.and_eq_true, Nat.blt, Nat.ble_eq, Nat.beq_eq] at h1 h2 ⊢
    rcases h1 with h1 | ⟨h1, h1'⟩
    · rcases h2 with h2 | ⟨h2, _⟩
      · left; omega
      · left; omega
    · rcases h2 with h2 | ⟨h2, h2'⟩
      · left; omega
      · right; exact ⟨by omega, leW1_trans h1' h2'⟩
theorem leW1_snoc : ∀ {l m : List Nat} (c : Nat), l.length = m.length → leW1 l m = true → leW1 (l ++ [c]) (m ++ [c]) = true
  | [], [], c, _, _ => leW1_refl [c]
  | [], _ :: _, _, h, _ => by cases h
  | _ :: _, [], _, h, _ => by cases h
  | a :: l, b :: m, c, hl, h => by
    simp only [List.cons_append, leW1, Bool.or_eq_true, Bool.and_eq_true] at h ⊢
    rcases h with h | ⟨h, h'⟩
    · left; exact h
    · right; exact ⟨h, leW1_snoc c (by simpa using hl) h'⟩
theorem leW_iff (l m : List Nat) : leW l m = true ↔ l.length < m.length ∨ (l.length = m.length ∧ leW1 l m = true) := by
  unfold leW
  simp only [Bool.or_eq_true, Bool.and_eq_true, Nat.blt, Nat.ble_eq, Nat.beq_eq]
  constructor
  · rintro (h | ⟨h, h'⟩)
    · left; omega
    · right; exact ⟨h, h'⟩
  · rintro (h | ⟨h, h'⟩)
    · left; omega
    · right; exact ⟨h, h'⟩
theorem leW_trans {l m k : List Nat} (h1 : leW l m = true) (h2 : leW m k = true) : leW l k = true := by
  rw [leW_iff] at h1 h2 ⊢
  rcases h1 with h1 | ⟨h1, h1'⟩ <;> rcases h2 with h2 | ⟨h2, h2'⟩
  · left; omega
  · left; omega
  · left; omega
  · right; exact ⟨by omega, leW1_trans h1' h2'⟩
theorem leW_snoc {l m : List Nat} (c : Nat) (h : leW l m = true) : leW (l ++ [c]) (m ++ [c]) = true := by
  rw [leW_iff] at h ⊢
  rw [List.length_append, List.length_append]
  rcases h with h | ⟨h, h'⟩
  · left; simp; omega
  · right; exact ⟨by omega, leW1_snoc c h h'⟩

theorem lookL_map {n : Nat} {σ : Nat → Nat} (hinj : ∀ t u, t < 2 * n → u < 2 * n → σ t = σ u → t = u) {L : St} (hL : ∀ p ∈ L, p.1 < 2 * n) {t : Nat} (ht : t < 2 * n) : lookL (mapS σ L) (σ t) = lookL L t := by
  induction L with
  | nil => rfl
  | cons p L ih =>
    have hp := hL p (by simp)
    unfold lookL mapS at ih ⊢
    rw [List.map_cons, List.find?_cons, List.find?_cons]
    by_cases e : p.1 = t
    · subst e; simp
    · have e' : ¬ σ p.1 = σ t := fun h => e (hinj _ _ hp ht h)
      have q1 : (σ p.1 == σ t) = false := by simpa using e'
      have q2 : (p.1 == t) = false := by simpa using e
      simp only [q1, q2]
      exact ih (fun q hq => hL q (by simp [hq]))

theorem bfs_length {n a b s : Nat} (hk : KOk n a b) (hs : s < 2 * n) (cs : List Nat) : (bfs n a b s cs).length = (bfs n a b 0 cs).length := by
  obtain ⟨σ, h0, hlt, hinj, hst, hm⟩ := bfs_from hk hs
  rw [hm cs]
  exact List.length_map ..
end Go.Proofs.Ytibkhjbcagihbaa
