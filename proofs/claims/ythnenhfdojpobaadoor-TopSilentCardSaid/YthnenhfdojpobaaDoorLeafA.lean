/-
  Contracts of the small functions of package rows and of its reference: whether a slice is a row; its steps.
-/
import Derived.Test.YthnenhfdojpobaaDoorRows
import Derived.Test.YthnenhfdojpobaaDoorRoMath
import Derived.Test.YthnenhfdojpobaaDoorShelf
import Derived.WalkKit
import Derived.ProofKit
import Derived.OpenShut
import Derived.Deep.QuietTactic
import Derived.BigQuiet
import Derived.IntWalk
import Derived.Lib.Hide
import Derived.WalkLawsBesides
import Derived.WalkSpells
import Derived.WalkSmall
namespace Go.Proofs.YthnenhfdojpobaaDoor
open Go.ChangeShapes Go.WideShapes Go.ChangeAt Go.RowKit
set_option maxRecDepth 100000

theorem ret_int {k : IntKind} {a b : Int} (h : a = b) : Ending.returned (.int k a) = .returned (.int k b) := by rw [h]
theorem ret_bool {a b : Bool} (h : a = b) : Ending.returned (.bool a) = .returned (.bool b) := by rw [h]
theorem below_nx {w w1 w2 : World} (h : Below w.heap.size w w1) (k : Below w1.heap.size w1 w2) : Below w.heap.size w w2 := h.trans (k.mono h.size)

/-- Go's remainder, made not negative. -/
theorem mod_fix (x n : Int) : (x.tmod n + n) % n = x % n := by
  rw [Int.add_emod_right]
  have : x.tmod n = x - n * (x.tdiv n) := by have := Int.mul_tdiv_add_tmod x n; omega
  rw [this, Int.sub_mul_emod_self_left]

/-- A slice of integers that can be read. -/
def IntsV (W : World) (v : Value) (xs : List Int) : Prop :=
  ∃ (ao : Option Addr) (cap : Nat), v = .slice ao xs.length cap ∧ xs.length ≤ cap ∧ (0 < xs.length → ∃ b off, ao = some ⟨b, off, none⟩ ∧ ∀ i, i < xs.length → W.cell? ⟨b, off + i, none⟩ = some (.int .i64 (xs[i]?.getD 0)))

theorem IntsV.later {W W' : World} {v : Value} {xs : List Int} (h : IntsV W v xs) (hb : Below W.heap.size W W') : IntsV W' v xs := by
  obtain ⟨ao, cap, rfl, hlc, hc⟩ := h
  refine ⟨ao, cap, rfl, hlc, fun h0 => ?_⟩
  obtain ⟨b, off, e, hd⟩ := hc h0
  exact ⟨b, off, e, fun i hi => cell_later hb (hd i hi)⟩

theorem IntsV.of_own {W : World} {lo : Nat} {v : Value} {xs : List Int} (h : W.ownsRow lo 3 1 v xs.length (xs.map (Value.int .i64))) : IntsV W v xs := by
  have h' := h
  obtain ⟨h0, h1 | ⟨g, cap, cur, hv, hg, hh, h2⟩⟩ := h
  · exact ⟨none, 0, by rw [h1.1, h1.2], by omega, fun h => by omega⟩
  · refine ⟨_, cap, hv, h2.1, fun _ => ⟨g, 0, rfl, fun i hi => ?_⟩⟩
    subst hv
    rw [Nat.zero_add, h'.cellAt i (by omega)]
    simp [hi]

theorem IntsV.take {W : World} {v : Value} {xs : List Int} (h : IntsV W v xs) : ∃ ao cap, v = .slice ao xs.length cap := by
  obtain ⟨ao, cap, rfl, _⟩ := h; exact ⟨ao, cap, rfl⟩

theorem w64_pow {y : Nat} (h : y < 16) : wrap64 ((2 : Int) ^ y) = ((1 <<< y : Nat) : Int) := by
  rw [Nat.one_shiftLeft]
  have h1 : (2 : Nat) ^ y < 2 ^ 16 := Nat.pow_lt_pow_right (by omega) h
  have e : ((2 : Int) ^ y) = ((2 ^ y : Nat) : Int) := by simp
  rw [e]
  generalize 2 ^ y = m at h1
  unfold wrap64
  omega
theorem one_shl {n : Nat} (hn : n < 16) : (1 : Nat) <<< n < 2 ^ 16 := by rw [Nat.one_shiftLeft]; exact Nat.pow_lt_pow_right (by omega) hn

theorem shr_and (ys : List Nat) (y : Nat) (h : maskL ys < 2 ^ 16) : (bits .and .i64 (((maskL ys : Nat) : Int) / 2 ^ y) 1 == 1) = decide (y ∈ ys) := by
  have e1 : ((maskL ys : Nat) : Int) / 2 ^ y = ((maskL ys >>> y : Nat) : Int) := by
    rw [Nat.shiftRight_eq_div_pow]; simp
  have hl : maskL ys >>> y < 2 ^ 63 := by
    rw [Nat.shiftRight_eq_div_pow]
    exact Nat.lt_of_le_of_lt (Nat.div_le_self _ _) (by omega)
  rw [e1, show (1 : Int) = ((1 : Nat) : Int) from rfl, and_nat _ _ hl (by omega), Bool.eq_iff_iff, beq_iff_eq, decide_eq_true_eq, ← mask_shift ys y]
  exact ⟨fun h => by exact_mod_cast h, fun h => by exact_mod_cast h⟩
end Go.Proofs.YthnenhfdojpobaaDoor
