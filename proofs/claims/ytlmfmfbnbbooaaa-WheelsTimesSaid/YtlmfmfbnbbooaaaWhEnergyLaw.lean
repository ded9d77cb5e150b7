/-
  The statement on the energy of a wheel.
-/
import Derived.Test.YtlmfmfbnbbooaaaWhRef2
namespace Go.Proofs.Ytlmfmfbnbbooaaa
open Go.ChangeShapes Go.WideShapes Go.ChangeAt Go.RowKit
set_option maxRecDepth 100000

theorem bad1 {n : Int} {xs : List Int} (h : (circB n && wheelB n.toNat xs) = false) : (circB n && [xs.take 19].all (wheelB n.toNat)) = false := by
  rw [← wheelB_take] at h
  simpa using h
theorem good1 {n : Int} {xs : List Int} (h : (circB n && wheelB n.toNat xs) = true) : ∃ (m : Nat) (l : List Nat), n = (m : Int) ∧ xs = natI l ∧ Circ m ∧ WhL m l := by
  rw [Bool.and_eq_true] at h
  obtain ⟨m, rfl, hm⟩ := circB_true h.1
  rw [Int.toNat_natCast] at h
  obtain ⟨l, h1, h2, h3⟩ := wheelB_nat h.2
  exact ⟨m, l, rfl, h1, hm, ⟨h2, h3⟩⟩
/-- The list's cells. -/
theorem tab_cells {W : World} {v : Value} {n : Nat} {f : Nat → Nat} (h : IntsV W v (natI (tabN n f))) (h0 : 0 < n) : ∃ b off cap, v = .slice (some ⟨b, off, none⟩) n cap ∧ n ≤ cap ∧ ∀ i, i < n → W.cell? ⟨b, off + i, none⟩ = some (.int .i64 ((f i : Nat) : Int)) := by
  obtain ⟨b, off, cap, e, hc, hd⟩ := ints_natW h (by rw [tabN_length]; exact h0)
  rw [tabN_length] at e hc hd
  exact ⟨b, off, cap, e, hc, fun i hi => by rw [hd i hi, tabN_at hi]⟩
theorem wh_cells {W : World} {v : Value} {n : Nat} {l : List Nat} (h : IntsV W v (natI l)) (hl : l.length = n) (h0 : 0 < n) : ∃ b off cap, v = .slice (some ⟨b, off, none⟩) n cap ∧ n ≤ cap ∧ ∀ i, i < n → W.cell? ⟨b, off + i, none⟩ = some (.int .i64 ((ofL l i : Nat) : Int)) := by
  obtain ⟨b, off, cap, e, hc, hd⟩ := ints_natW h (by omega)
  rw [hl] at e hc hd
  exact ⟨b, off, cap, e, hc, hd⟩
theorem sum_bd {f : Nat → Nat} {B : Nat} (h : ∀ i, f i ≤ B) : ∀ n, sumN n f ≤ n * B
  | 0 => by simp [sumN]
  | n + 1 => by simp only [sumN]; have := sum_bd h n; have := h n; rw [Nat.succ_mul]; omega

end Go.Proofs.Ytlmfmfbnbbooaaa
