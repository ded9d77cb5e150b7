/-
  The reference's forms; Form, where it answers and where it refuses.
-/
import Derived.Test.YtaldfaecpcnomaaDoorRoForm
namespace Go.Proofs.YtaldfaecpcnomaaDoor
open Go.ChangeShapes Go.WideShapes Go.ChangeAt Go.RowKit
set_option maxRecDepth 100000

theorem set_drop {rs zs : List Nat} {p : Nat} {x : Nat} (hz : zs.length = rs.length) (h : zs.drop (p + 1) = rs.drop (p + 1)) (hp : p < rs.length) (hx : rs[p]?.getD 0 = x) : (zs.set p x).drop p = rs.drop p := by
  rw [List.drop_eq_getElem_cons (by rw [List.length_set]; omega), List.drop_eq_getElem_cons hp, List.getElem_set_self, List.drop_set_of_lt (by omega), h]
  rw [List.getElem?_eq_getElem hp] at hx
  rw [← hx]; rfl

theorem back_step {rs zs : List Nat} {L j p x : Nat} (hp : L - 1 - j = p) (hj : j < L) (hr : rs.length = L) (hz : zs.length = L) (h : zs.drop (L - j) = rs.drop (L - j)) (hx : rs[L - 1 - j]?.getD 0 = x) : (zs.set p x).drop (L - (j + 1)) = rs.drop (L - (j + 1)) := by
  have e1 : L - (j + 1) = p := by omega
  have e2 : L - j = p + 1 := by omega
  rw [e1]
  rw [e2] at h
  exact set_drop (by omega) h (by omega) (by rw [← hp]; exact hx)

theorem form_any (n : Nat) (ys : List Nat) (hn0 : 2 ≤ n) (hn1 : n ≤ 10) (hlt : ∀ y ∈ ys, y < n) (hl : ys.length ≤ 10) (hp : 0 < ys.length) (kind : Nat) (hk : kind < 4) (k : Int) (v : Value) (w : World) (h : IntsV w v (natI ys)) :
    Calls Tryd.prog 26 #[.int .i64 n, v, .int .i64 kind, .int .i64 k] w fun e w' => ∃ v', e = .returned v' ∧ IntsV w' v' (natI (formL n kind (k % n).toNat ys)) ∧ Below w.heap.size w w' := by
  have : kind = 0 ∨ kind = 1 ∨ kind = 2 ∨ kind = 3 := by omega
  rcases this with rfl | rfl | rfl | rfl
  · exact form_0 n ys hn0 hn1 hlt hl hp k v w h
  · exact form_1 n ys hn0 hn1 hlt hl hp k v w h
  · exact form_2 n ys hn0 hn1 hlt hl hp k v w h
  · exact form_3 n ys hn0 hn1 hlt hl hp k v w h

end Go.Proofs.YtaldfaecpcnomaaDoor
