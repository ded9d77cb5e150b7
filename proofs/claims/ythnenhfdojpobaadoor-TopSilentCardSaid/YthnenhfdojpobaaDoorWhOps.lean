/-
  Wheels turned, moved, multiplied; what undoes them; the power.
-/
import Derived.Test.YthnenhfdojpobaaDoorWhSpec
import Derived.Test.YthnenhfdojpobaaDoorCalmTail
namespace Go.Proofs.YthnenhfdojpobaaDoor
open Go.ChangeShapes Go.WideShapes Go.ChangeAt Go.RowKit
set_option maxRecDepth 100000

/-- What holds of the world in a round: a wheel to read, a wheel to write, the result's place. -/
def Two (w0 : World) (b n : Nat) (f : Nat → Nat) (b' : Nat) (g : Nat → Nat) (z : Nat) (W : World) : Prop :=
  WAt w0 b n f W ∧ WAt w0 b' n g W ∧ W.heap[z]? = some (.cells zeroC 43 (0, 0))
theorem Two.later {w0 : World} {b n : Nat} {f : Nat → Nat} {b' : Nat} {g : Nat → Nat} {z : Nat} {W W' : World} (h : Two w0 b n f b' g z W) (k : Below W.heap.size W W') : Two w0 b n f b' g z W' :=
  ⟨h.1.later k, h.2.1.later k, heap_later h.2.2 k⟩
theorem Two.drewN {w0 : World} {b n : Nat} {f : Nat → Nat} {b' : Nat} {g : Nat → Nat} {z : Nat} {W : World} (h : Two w0 b n f b' g z W) (k : Nat) : Two w0 b n f b' g z (W.drewN k) :=
  ⟨h.1.drewN k, h.2.1.drewN k, h.2.2⟩
theorem Two.set {w0 : World} {b n : Nat} {f : Nat → Nat} {b' : Nat} {g : Nat → Nat} {z : Nat} {W : World} (h : Two w0 b n f b' g z W) (h1 : w0.heap.size ≤ b') (h2 : b ≠ b') (h3 : z ≠ b') {x : Nat} (hx : x < 16) (v : Nat) :
    Two w0 b n f b' (fun k => if k = x then v else g k) z (W.setCell ⟨b', 3 + x, none⟩ (.int .i64 (v : Int))) :=
  ⟨h.1.other h2 h1 _, h.2.1.set h1 hx v, (heap_setCell_other W ⟨b', 3 + x, none⟩ z _ h3).trans h.2.2⟩
/-- What turning has laid at the places below k. -/
def tupF (n k : Nat) (f : Nat → Nat) (x : Nat) : Nat := if x < n ∧ (n - x) % n < k then f ((n - x) % n) else 0
theorem tupF_zero (n : Nat) (f : Nat → Nat) : tupF n 0 f = zeroF := by funext x; simp [tupF, zeroF]
theorem tupF_succ {n k : Nat} (hk : k < n) (f : Nat → Nat) : (fun x => if x = (n - k) % n then f k else tupF n k f x) = tupF n (k + 1) f := by
  funext x
  unfold tupF
  by_cases e : x = (n - k) % n
  · subst e
    have h1 := Nat.mod_lt (n - k) (show 0 < n by omega)
    rw [if_pos rfl, neg_neg hk, if_pos ⟨h1, by omega⟩]
  · rw [if_neg e]
    by_cases hx : x < n
    · have h2 : (n - x) % n ≠ k := fun h2 => e (by rw [← h2, neg_neg hx])
      by_cases h3 : (n - x) % n < k
      · rw [if_pos ⟨hx, h3⟩, if_pos ⟨hx, by omega⟩]
      · rw [if_neg (fun h => h3 h.2), if_neg (fun h => by have := h.2; omega)]
    · rw [if_neg (fun h => hx h.1), if_neg (fun h => hx h.1)]
theorem tupF_all (n : Nat) (f : Nat → Nat) : tupF n n f = tuF n f := by
  funext x
  unfold tupF tuF
  by_cases hx : x < n
  · rw [if_pos ⟨hx, Nat.mod_lt _ (by omega)⟩, if_pos hx]
  · rw [if_neg (fun h => hx h.1), if_neg hx]
theorem neg_place {n k : Nat} (hk : k < n) : (-(k : Int)) % (n : Int) = (((n - k) % n : Nat) : Int) := by
  have e : (-(k : Int)) = ((n - k : Nat) : Int) - n := by omega
  rw [e, Int.sub_emod_right]; exact_mod_cast rfl

end Go.Proofs.YthnenhfdojpobaaDoor
