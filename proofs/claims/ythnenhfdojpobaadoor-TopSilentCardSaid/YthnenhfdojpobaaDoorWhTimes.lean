/-
  The product of two wheels; where a wheel has nothing; the wheel of a chord.
-/
import Derived.Test.YthnenhfdojpobaaDoorWhOps3
namespace Go.Proofs.YthnenhfdojpobaaDoor
open Go.ChangeShapes Go.WideShapes Go.ChangeAt Go.RowKit
set_option maxRecDepth 100000

/-! ### the product, pair by pair -/
/-- What the pairs before (x, y) give at z. -/
def tpS (n : Nat) (f g : Nat → Nat) (x y z : Nat) : Nat := (sumN x fun a => sumN n fun b => if (a + b) % n = z then f a * g b else 0) + sumN y fun b => if (x + b) % n = z then f x * g b else 0
def tpF (n : Nat) (f g : Nat → Nat) (x y z : Nat) : Nat := if z < n then tpS n f g x y z % qN n else 0
theorem tpF_zero {n : Nat} (f g : Nat → Nat) : tpF n f g 0 0 = zeroF := by
  funext z; unfold tpF tpS zeroF; split <;> simp [sumN]
theorem tpF_next {n x y : Nat} (hn : 0 < n) (f g : Nat → Nat) : (fun z => if z = (x + y) % n then (tpF n f g x y ((x + y) % n) + f x * g y) % qN n else tpF n f g x y z) = tpF n f g x (y + 1) := by
  funext z
  have hl := Nat.mod_lt (x + y) hn
  by_cases e : z = (x + y) % n
  · rw [if_pos e, e]
    unfold tpF tpS
    rw [if_pos hl, if_pos hl, Nat.mod_add_mod]
    simp only [sumN, if_true]
    rw [Nat.add_assoc]
  · rw [if_neg e]
    unfold tpF tpS
    simp only [sumN]
    have e' : ¬ (x + y) % n = z := fun h => e h.symm
    simp only [e', if_false, Nat.add_zero]
theorem tpF_row (n x : Nat) (f g : Nat → Nat) : tpF n f g x n = tpF n f g (x + 1) 0 := by
  funext z; unfold tpF tpS; simp only [sumN, Nat.add_zero]
theorem tpF_all {n : Nat} (hn : 0 < n) (f g : Nat → Nat) : tpF n f g n 0 = tiF n f g := by
  funext z
  unfold tpF tiF tpS
  by_cases hz : z < n
  · rw [if_pos hz, if_pos hz]
    simp only [sumN, Nat.add_zero]
    congr 1
    refine sum_congr fun a ha => ?_
    have e : ∀ b, b < n → ((a + b) % n = z ↔ b = (z + n - a) % n) := fun b hb => by
      constructor
      · intro h
        rw [← h]
        by_cases h2 : a + b < n
        · rw [Nat.mod_eq_of_lt h2, show a + b + n - a = b + n from by omega, Nat.add_mod_right, Nat.mod_eq_of_lt hb]
        · have h3 : (a + b) % n = a + b - n := by rw [Nat.mod_eq_sub_mod (by omega), Nat.mod_eq_of_lt (by omega)]
          rw [h3, show a + b - n + n - a = b from by omega, Nat.mod_eq_of_lt hb]
      · intro h
        rw [h, Nat.add_mod_mod, show a + (z + n - a) = z + n from by omega, Nat.add_mod_right, Nat.mod_eq_of_lt hz]
    rw [sum_congr (g := fun b => if b = (z + n - a) % n then (fun b => f a * g b) b else 0) (fun b hb => by
      by_cases h : (a + b) % n = z
      · rw [if_pos h, if_pos ((e b hb).1 h)]
      · rw [if_neg h, if_neg (fun h2 => h ((e b hb).2 h2))]), sum_single, if_pos (Nat.mod_lt _ hn)]
  · rw [if_neg hz, if_neg hz]
theorem tpF_lt {n : Nat} (h : Circ n) (f g : Nat → Nat) (x y z : Nat) : tpF n f g x y z < qN n := by
  unfold tpF; split; exact Nat.mod_lt _ h.q_pos; exact h.q_pos

/-- Two wheels to read, one to write, the result's place. -/
def Three (w0 : World) (B n : Nat) (f g : Nat → Nat) (p : Nat → Nat) (W : World) : Prop :=
  WAt w0 B n f W ∧ WAt w0 (B + 1) n g W ∧ WAt w0 (B + 1 + 1 + 1) n p W ∧ W.heap[B + 1 + 1]? = some (.cells zeroC 43 (0, 0))
theorem Three.later {w0 : World} {B n : Nat} {f g p : Nat → Nat} {W W' : World} (h : Three w0 B n f g p W) (k : Below W.heap.size W W') : Three w0 B n f g p W' :=
  ⟨h.1.later k, h.2.1.later k, h.2.2.1.later k, heap_later h.2.2.2 k⟩
theorem Three.set {w0 : World} {B n : Nat} {f g p : Nat → Nat} {W : World} (h : Three w0 B n f g p W) (h1 : w0.heap.size = B) {x : Nat} (hx : x < 16) (v : Nat) :
    Three w0 B n f g (fun k => if k = x then v else p k) (W.setCell ⟨B + 1 + 1 + 1, 3 + x, none⟩ (.int .i64 (v : Int))) :=
  ⟨h.1.other (by omega) (by omega) _, h.2.1.other (by omega) (by omega) _, h.2.2.1.set (by omega) hx v, (heap_setCell_other W ⟨B + 1 + 1 + 1, 3 + x, none⟩ (B + 1 + 1) _ (show B + 1 + 1 ≠ B + 1 + 1 + 1 by omega)).trans h.2.2.2⟩

def zeN (f : Nat → Nat) : Nat → Nat
  | 0 => 0
  | k + 1 => if f k = 0 then zeN f k ||| 1 <<< k else zeN f k
theorem zeN_lt (f : Nat → Nat) : ∀ k, zeN f k < 2 ^ k
  | 0 => by simp [zeN]
  | k + 1 => by
    have h := zeN_lt f k
    have h2 : 2 ^ k ≤ 2 ^ (k + 1) := Nat.pow_le_pow_right (by omega) (by omega)
    unfold zeN
    split
    · exact Nat.or_lt_two_pow (by omega) (by rw [Nat.one_shiftLeft]; exact Nat.pow_lt_pow_right (by omega) (by omega))
    · omega
theorem zeN_bit (f : Nat → Nat) (i : Nat) : ∀ k, (zeN f k).testBit i = (decide (i < k) && (f i == 0))
  | 0 => by simp [zeN]
  | k + 1 => by
    unfold zeN
    by_cases e : i = k
    · subst e
      have h1 : (zeN f i).testBit i = false := Nat.testBit_lt_two_pow (zeN_lt f i)
      by_cases h0 : f i = 0
      · rw [if_pos h0, Nat.testBit_or, h1, Nat.one_shiftLeft, Nat.testBit_two_pow_self]; simp [h0]
      · rw [if_neg h0, h1]; simp [h0]
    · have ih := zeN_bit f i k
      have h2 : decide (i < k + 1) = decide (i < k) := by by_cases h : i < k <;> simp [h] <;> omega
      rw [h2, ← ih]
      split
      · rw [Nat.testBit_or, Nat.one_shiftLeft, Nat.testBit_two_pow_of_ne (by omega), Bool.or_false]
      · rfl

set_option maxHeartbeats 1000000 in
theorem zeros_any (n : Nat) (h : Circ n) (f : Nat → Nat) (w : World) :
    Calls Tryd.prog 18 #[whV n f] w fun e w' => e = .returned (.int .i64 ((zeN f n : Nat) : Int)) ∧ Below w.heap.size w w' := by
  have hn := h.2
  have hn0 := h.pos
  have HW := Lib.hid (WAt.new n f w)
  have HL := Lib.hid (zeN_lt f)
  have HZ0 := Lib.hid (show zeN f 0 = 0 from rfl)
  have HZs := Lib.hid (fun k => show zeN f (k + 1) = if f k = 0 then zeN f k ||| 1 <<< k else zeN f k from rfl)
  unfold whV
  generalize (whC n f).toArray = cs at *
  obtain ⟨B, hB⟩ : ∃ B, w.heap.size = B := ⟨_, rfl⟩
  rw [hB] at HW
  obtain ⟨k0, k1, k2⟩ := HW.out.head
  go_enter Tryd.func18, Tryd.ntmps18
  go_wp2_with fail
  clear k0 k1 k2
  go_loopw [3, 8] (fun s i wr => ∃ k : Nat, k ≤ n ∧ s = .int .i64 ((zeN f k : Nat) : Int) ∧ i = .int .i64 (k : Int) ∧ WAt w B n f wr) (fun _ i _ => n - (intOf i).toNat)
  case atStart => exact ⟨0, Nat.zero_le _, by rw [HZ0.out]; rfl, rfl, HW.out⟩
  case round =>
    obtain ⟨k, hk, rfl, rfl, hT⟩ := hrel
    have HT := Lib.hid hT
    clear hT
    by_cases hlt : k < n
    · have hk16 : k < 16 := by omega
      have e1 := HT.out.at hk16
      have hs := HZs.out k
      have hl := HL.out k
      have hl2 : 2 ^ k ≤ 2 ^ 16 := Nat.pow_le_pow_right (by omega) (by omega)
      have hw2 := w64_pow (show k < 16 by omega)
      have he : 1 <<< k < 2 ^ 16 := by rw [Nat.one_shiftLeft]; exact Nat.pow_lt_pow_right (by omega) (by omega)
      have hor := or_nat (zeN f k) (1 <<< k) (by omega) (by omega)
      by_cases h0 : f k = 0
      · rw [if_pos h0] at hs
        rw [h0] at e1
        have HS := Lib.hid hs
        clear hs hl
        generalize (1 <<< k : Nat) = e at *
        generalize zeN f k = s at *
        go_wp2
        go_roundw
        case rel => exact ⟨k + 1, by omega, by rw [HS.out], by go_num, HT.out⟩
        case measure => simp only [intOf]; omega
      · rw [if_neg h0] at hs
        have HS := Lib.hid hs
        have h0' : (((f k : Nat) : Int) == 0) = false := by rw [beq_eq_false_iff_ne]; omega
        clear hs hl
        generalize f k = y at *
        go_wp2
        go_roundw
        case rel => exact ⟨k + 1, by omega, by rw [HS.out], by go_num, HT.out⟩
        case measure => simp only [intOf]; omega
    · obtain rfl : k = n := by omega
      go_wp2
      go_ret
      exact ⟨rfl, HT.out.hb⟩
end Go.Proofs.YthnenhfdojpobaaDoor
