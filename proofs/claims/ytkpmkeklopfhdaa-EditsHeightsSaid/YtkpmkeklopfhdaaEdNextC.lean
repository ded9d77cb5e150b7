/-
  nextEdits: what it returns is the iterator, with its boxes.
-/
import Derived.Test.YtkpmkeklopfhdaaEdStr
import Derived.Test.YtkpmkeklopfhdaaEdPlaces
namespace Go.Proofs.Ytkpmkeklopfhdaa
open Go.ChangeShapes Go.WideShapes Go.ChangeAt Go.RowKit
set_option maxRecDepth 100000

set_option maxHeartbeats 4000000 in
theorem nextEdits_any (a b : ByteArray) (r c : Nat) (hr : r ≤ a.size) (hc : c ≤ b.size) (w : World) :
    Calls Try.prog 89 #[.string a, .string b, pairV (r, c)] w fun e w' => ∃ Bw Br Ba Bt, e = .returned (.func (.func 108) #[] #[.pointer (some ⟨Bw, 0, none⟩), .pointer (some ⟨Br, 0, none⟩), .pointer (some ⟨Ba, 0, none⟩), .pointer (some ⟨Bt, 0, none⟩)]) ∧
      (w.heap.size ≤ Bw ∧ w.heap.size ≤ Br ∧ w.heap.size ≤ Ba ∧ w.heap.size ≤ Bt) ∧ w'.cell? ⟨Bw, 0, none⟩ = some (.string (b.extract c b.size)) ∧ w'.cell? ⟨Br, 0, none⟩ = some (.string (a.extract r a.size)) ∧ w'.cell? ⟨Ba, 0, none⟩ = some (.string a) ∧
      w'.cell? ⟨Bt, 1, none⟩ = some (.int .i64 (c : Int)) ∧ Below w.heap.size w w' := by
  obtain ⟨W0, hW0⟩ : ∃ W0, (w.alloc (.cells #[.string a] 9)).alloc (.cells #[.int .i64 (r : Int), .int .i64 (c : Int)] 65) = W0 := ⟨_, rfl⟩
  have hB0 : Below w.heap.size w W0 := by rw [← hW0]; exact bl_al (bl_al (Below.refl _ w) _) _
  have k0 : W0.cell? ⟨w.heap.size, 0, none⟩ = some (.string a) := by rw [← hW0]; simp
  have k1 : W0.cell? ⟨w.heap.size + 1, 0, none⟩ = some (.int .i64 (r : Int)) := by rw [← hW0]; simp
  have k2 : W0.cell? ⟨w.heap.size + 1, 1, none⟩ = some (.int .i64 (c : Int)) := by rw [← hW0]; simp
  obtain ⟨H, hH⟩ : ∃ H, w.heap.size = H := ⟨_, rfl⟩
  have hH0 : H + 2 ≤ W0.heap.size := by rw [← hW0, ← hH]; simp
  rw [hH] at k0 k1 k2
  have hmx : Try.prog.follows .mixedOrders = true := by kernel_rfl
  have hr1 : (r : Int) ≤ a.size := by omega
  have hc1 : (c : Int) ≤ b.size := by omega
  go_enter Try.func89, Try.ntmps89
  go_wp2_with fail
  try rw [hW0]
  try rw [hH]
  clear hW0
  have HK := Lib.hid (fun W (hb : Below W0.heap.size W0 W) => (⟨hb, cell_later hb k0, cell_later hb k1, cell_later hb k2⟩ : Below W0.heap.size W0 W ∧ W.cell? ⟨H, 0, none⟩ = some (.string a) ∧ W.cell? ⟨H + 1, 0, none⟩ = some (.int .i64 (r : Int)) ∧ W.cell? ⟨H + 1, 1, none⟩ = some (.int .i64 (c : Int))))
  clear k0 k1 k2
  go_region_held3 (fun W => Below W0.heap.size W0 W ∧ W.cell? ⟨H, 0, none⟩ = some (.string a) ∧ W.cell? ⟨H + 1, 0, none⟩ = some (.int .i64 (r : Int)) ∧ W.cell? ⟨H + 1, 1, none⟩ = some (.int .i64 (c : Int))) (first | assumption | (refine HK.out _ ?_; repeat (first | assumption | exact (Below.refl _ _).drew | exact Below.refl _ _ | refine bl_dr ?_ | refine bl_al ?_ _ | refine bl_set ?_ (by first | exact Nat.le_refl _ | exact Nat.le_succ _ | (simp)) _))) (fail)
  all_goals
    have hS := ‹Below W0.heap.size W0 _ ∧ _›
    obtain ⟨hb2, k0, k1, k2⟩ := hS
    have hBd := hB0.trans (hb2.mono hB0.size)
    clear hb2 HK
    dsimp only [Exit.then]
    go_wp2
    go_ret
    refine ⟨_, _, _, _, rfl, ⟨by omega, by omega, by omega, by omega⟩, ?_, ?_, k0, k2, hBd⟩ <;> (show ((W0.alloc _).alloc _).cell? _ = _; simp)
end Go.Proofs.Ytkpmkeklopfhdaa
