/-
  The statement on spectra of products and sums.
-/
import Derived.Test.YtlmfmfbnbbooaaaWhSpectraLaw
import Derived.Test.YtlmfmfbnbbooaaaHeldR
import Derived.Deep.AppendLies
namespace Go.Proofs.Ytlmfmfbnbbooaaa
open Go.ChangeShapes Go.WideShapes Go.ChangeAt Go.RowKit
set_option maxRecDepth 100000

/-- The sum of two wheels. -/
def adF (n : Nat) (f g : Nat → Nat) (x : Nat) : Nat := (f x + g x) % qN n
theorem ad_wh {n : Nat} (h : Circ n) {f g : Nat → Nat} (hf : IsWh n f) (hg : IsWh n g) : IsWh n (adF n f g) :=
  ⟨fun _ => Nat.mod_lt _ h.q_pos, fun x hx => by unfold adF; rw [hf.out x hx, hg.out x hx, Nat.zero_add, Nat.zero_mod]⟩
theorem tabN_succ' (k : Nat) (f : Nat → Nat) : natI (tabN (k + 1) f) = natI (tabN k f) ++ [((f k : Nat) : Int)] := by
  unfold tabN natI; rw [List.range_succ, List.map_append, List.map_append]; rfl

theorem wrap_mul {p : Int} (h : 0 ≤ p ∧ p ≤ 10000000000) : IntKind.i64.wrap p = p := by rw [IntKind.wrap_i64]; omega
theorem wrap_mul2 {p : Int} (h : 0 ≤ p ∧ p ≤ 10000000000) : wrap64 p = p := by unfold wrap64; omega
theorem two_bad {n : Int} {xs ys : List Int} (h : ¬ ((circB n && wheelB n.toNat xs) = true ∧ (circB n && wheelB n.toNat ys) = true)) : (circB n && [xs.take 19, ys.take 19].all (wheelB n.toNat)) = false := by
  rw [← wheelB_take n xs, ← wheelB_take n ys] at h
  cases hc : circB n
  · simp
  · rw [hc] at h
    simp only [Bool.true_and, List.all_cons, List.all_nil, Bool.and_true, Bool.and_eq_false_iff] at h ⊢
    cases h1 : wheelB n.toNat (xs.take 19)
    · exact .inl rfl
    · refine .inr ?_
      cases h2 : wheelB n.toNat (ys.take 19)
      · rfl
      · exact (h ⟨h1, h2⟩).elim

theorem prod_facts {q a b p d : Nat} (hq : q ≤ 97) (l1 : a < q) (l2 : b < q) (hp : p = a * b % q) (hd : d = (a + b) % q) :
    (0 ≤ (a : Int) * (b : Int) ∧ (a : Int) * (b : Int) ≤ 10000000000) ∧ ((a : Int) * (b : Int)) % (q : Int) = (p : Int) ∧ ((a : Int) * (b : Int)).tmod (q : Int) = (p : Int) ∧
    ((a : Int) + (b : Int)) % (q : Int) = (d : Int) ∧ ((a : Int) + (b : Int)).tmod (q : Int) = (d : Int) ∧ IntKind.i64.wrap ((a : Int) * (b : Int)) = (a : Int) * (b : Int) ∧ wrap64 ((a : Int) * (b : Int)) = (a : Int) * (b : Int) ∧
    p < q ∧ d < q ∧ ¬ q = 0 ∧ IntKind.i64.wrap ((a : Int) + (b : Int)) = (a : Int) + (b : Int) ∧ wrap64 ((a : Int) + (b : Int)) = (a : Int) + (b : Int) ∧
    decide ((q : Int) ≤ (a : Int)) = false ∧ decide ((q : Int) ≤ (b : Int)) = false ∧ decide ((a : Int) < 0) = false ∧ decide ((b : Int) < 0) = false ∧ decide (q ≤ a) = false ∧ decide (q ≤ b) = false := by
  have hm := mul_bd (show a ≤ 100000 by omega) (show b ≤ 100000 by omega)
  have e1 : ((a : Int) * (b : Int)) % (q : Int) = (p : Int) := by rw [hp]; simp
  have e2 : ((a : Int) + (b : Int)) % (q : Int) = (d : Int) := by rw [hd]; simp
  refine ⟨hm, e1, ?_, e2, ?_, wrap_mul hm, wrap_mul2 hm, ?_, ?_, by omega, wrap_mul (by omega), wrap_mul2 (by omega), ?_, ?_, ?_, ?_, ?_, ?_⟩
  · rw [Int.tmod_eq_emod_of_nonneg hm.1]; exact e1
  · rw [Int.tmod_eq_emod_of_nonneg (Int.add_nonneg (Int.natCast_nonneg _) (Int.natCast_nonneg _))]; exact e2
  · rw [hp]; exact Nat.mod_lt _ (by omega)
  · rw [hd]; exact Nat.mod_lt _ (by omega)
  all_goals (rw [decide_eq_false_iff_not]; omega)
theorem below_drewN' (w : World) (a b : Nat) : Below w.heap.size w ((w.drewN a).drewN b) := below_nx (below_drewN w a) (below_drewN (w.drewN a) b)

end Go.Proofs.Ytlmfmfbnbbooaaa
