/-
  The reference's Cost and Ways.
-/
import Derived.Test.YtkpmkeklopfhdaaEdCosts
import Derived.Test.YtkpmkeklopfhdaaEdTriLaw
namespace Go.Proofs.Ytkpmkeklopfhdaa
open Go.ChangeShapes Go.WideShapes Go.ChangeAt Go.RowKit
set_option linter.unusedVariables false
set_option maxRecDepth 100000

set_option maxHeartbeats 2000000 in
theorem RCost_any (a b : ByteArray) (pi po ps : Nat) (ha : a.size ≤ 12) (hb : b.size ≤ 12) (hpi : pi ≤ 9) (hpo : po ≤ 9) (hps : ps ≤ 9) (w : World) :
    Calls Try.prog 26 #[.string a, .string b, pv pi po ps] w fun e w' => e = .returned (.int .i64 (cst a b pi po ps)) ∧ Below w.heap.size w w' := by
  have HC := Lib.hid (fun W => costs_any a b pi po ps ha hb hpi hpo hps W)
  obtain ⟨W0, hW0⟩ : ∃ W0, w.alloc (.cells #[.int .i64 (pi : Int), .int .i64 (po : Int), .int .i64 (ps : Int)] 23) = W0 := ⟨_, rfl⟩
  have HB := Lib.hid (show Below w.heap.size w W0 by rw [← hW0]; exact (Below.refl _ w).alloc (Nat.le_refl _) _)
  have p0 : W0.cell? ⟨w.heap.size, 0, none⟩ = some (.int .i64 (pi : Int)) := by rw [← hW0]; simp
  have p1 : W0.cell? ⟨w.heap.size, 1, none⟩ = some (.int .i64 (po : Int)) := by rw [← hW0]; simp
  have p2 : W0.cell? ⟨w.heap.size, 2, none⟩ = some (.int .i64 (ps : Int)) := by rw [← hW0]; simp
  go_enter Try.func26, Try.ntmps26
  go_wp2_with fail
  try rw [hW0]
  clear hW0
  refine (HC.out _).mono ?_
  rintro e w1 ⟨vc, bc, vw, bw, rfl, h1, h2, T1, b1⟩
  have B1 := Lib.hid (below_nx HB.out b1)
  obtain ⟨gc, capc, rfl, _, _⟩ := T1.c.own.form (by omega)
  have hl : bc.length = a.size + 1 := h1
  have c1 := T1.c.cellAt rfl (x := a.size) (by omega)
  have c2 := (T1.c.row a.size (by omega)).cell b.size
  rw [rowI_at _ (by omega)] at c2
  have c3 : w1.cell? ⟨bc.getD a.size 0, b.size, none⟩ = some (.int .i64 (cst a b pi po ps)) := c2
  clear c2 T1 b1 p0 p1 p2
  generalize bc.getD a.size 0 = r at c1 c3
  obtain ⟨z, hz⟩ : ∃ z, cst a b pi po ps = z := ⟨_, rfl⟩
  rw [hz] at c3
  have HZ := Lib.hid hz
  clear hz
  have hx1 : (a.size : Int) < (bc.length : Int) := by omega
  have hx2 : a.size < bc.length := by omega
  clear hl h1 h2
  go_wp2
  go_ret
  exact ⟨ret_int HZ.out.symm, B1.out⟩

set_option maxHeartbeats 2000000 in
theorem RWays_any (a b : ByteArray) (pi po ps : Nat) (ha : a.size ≤ 12) (hb : b.size ≤ 12) (hpi : pi ≤ 9) (hpo : po ≤ 9) (hps : ps ≤ 9) (w : World) :
    Calls Try.prog 36 #[.string a, .string b, pv pi po ps] w fun e w' => e = .returned (.int .i64 (wys a b pi po ps)) ∧ Below w.heap.size w w' := by
  have HC := Lib.hid (fun W => costs_any a b pi po ps ha hb hpi hpo hps W)
  obtain ⟨W0, hW0⟩ : ∃ W0, w.alloc (.cells #[.int .i64 (pi : Int), .int .i64 (po : Int), .int .i64 (ps : Int)] 23) = W0 := ⟨_, rfl⟩
  have HB := Lib.hid (show Below w.heap.size w W0 by rw [← hW0]; exact (Below.refl _ w).alloc (Nat.le_refl _) _)
  have p0 : W0.cell? ⟨w.heap.size, 0, none⟩ = some (.int .i64 (pi : Int)) := by rw [← hW0]; simp
  have p1 : W0.cell? ⟨w.heap.size, 1, none⟩ = some (.int .i64 (po : Int)) := by rw [← hW0]; simp
  have p2 : W0.cell? ⟨w.heap.size, 2, none⟩ = some (.int .i64 (ps : Int)) := by rw [← hW0]; simp
  go_enter Try.func36, Try.ntmps36
  go_wp2_with fail
  try rw [hW0]
  clear hW0
  refine (HC.out _).mono ?_
  rintro e w1 ⟨vc, bc, vw, bw, rfl, h1, h2, T1, b1⟩
  have B1 := Lib.hid (below_nx HB.out b1)
  obtain ⟨gc, capc, rfl, _, _⟩ := T1.w.own.form (by omega)
  have hl : bw.length = a.size + 1 := h2
  have c1 := T1.w.cellAt rfl (x := a.size) (by omega)
  have c2 := (T1.w.row a.size (by omega)).cell b.size
  rw [rowI_at _ (by omega)] at c2
  have c3 : w1.cell? ⟨bw.getD a.size 0, b.size, none⟩ = some (.int .i64 (wys a b pi po ps)) := c2
  clear c2 T1 b1 p0 p1 p2
  generalize bw.getD a.size 0 = r at c1 c3
  obtain ⟨z, hz⟩ : ∃ z, wys a b pi po ps = z := ⟨_, rfl⟩
  rw [hz] at c3
  have HZ := Lib.hid hz
  clear hz
  have hx1 : (a.size : Int) < (bw.length : Int) := by omega
  have hx2 : a.size < bw.length := by omega
  clear hl h1 h2
  go_wp2
  go_ret
  exact ⟨ret_int HZ.out.symm, B1.out⟩
end Go.Proofs.Ytkpmkeklopfhdaa
