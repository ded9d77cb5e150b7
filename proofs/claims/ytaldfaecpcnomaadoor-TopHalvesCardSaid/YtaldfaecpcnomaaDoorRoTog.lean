/-
  Whether a pair lies among pairs: slices.Index and slices.Contains at [2]int.
-/
import Derived.Test.YtaldfaecpcnomaaDoorRoWithLaw
namespace Go.Proofs.YtaldfaecpcnomaaDoor
open Go.ChangeShapes Go.WideShapes Go.ChangeAt Go.RowKit
set_option maxRecDepth 100000

theorem mem_at {L : List (Nat × Nat)} {k : Nat} (hk : k < L.length) {p : Nat × Nat} (h : L[k]?.getD (0, 0) = p) : p ∈ L := by
  rw [List.getElem?_eq_getElem hk] at h
  exact h ▸ List.getElem_mem hk
theorem not_mem_at {L : List (Nat × Nat)} {p : Nat × Nat} (h : ∀ k, k < L.length → L[k]?.getD (0, 0) ≠ p) : p ∉ L := fun hm => by
  obtain ⟨k, hk, e⟩ := List.getElem_of_mem hm
  exact h k hk (by rw [List.getElem?_eq_getElem hk]; exact e)

set_option maxHeartbeats 2000000 in
theorem IdxPair_any (L : List (Nat × Nat)) (hl : L.length ≤ 64) (p1 p2 : Nat) (v : Value) (w : World) (h : PairsAt w v L) :
    Calls Tryd.prog 23 #[v, .agg #[.int .i64 (p1 : Int), .int .i64 (p2 : Int)]] w fun e w' => ∃ r : Int, e = .returned (.int .i64 r) ∧ (decide (0 ≤ r) = decide ((p1, p2) ∈ L)) ∧ Below w.heap.size w w' := by
  obtain ⟨W0, hW0⟩ : ∃ W0, w.alloc (.cells #[.int .i64 (p1 : Int), .int .i64 (p2 : Int)] 38) = W0 := ⟨_, rfl⟩
  have b0 : Below w.heap.size w W0 := by rw [← hW0]; exact (Below.refl _ w).alloc (Nat.le_refl _) _
  have r0 : Row W0 w.heap.size 38 [.int .i64 (p1 : Int), .int .i64 (p2 : Int)] := by rw [← hW0]; exact Row.new w _ _
  have h0 := h.later b0
  obtain ⟨ao, cap, rfl, hc⟩ := h0
  have hmx : Tryd.prog.follows .mixedOrders = true := by kernel_rfl
  have hgt := pairGuard
  have HC := Lib.hid hc
  have HB0 := Lib.hid b0
  have HR0 := Lib.hid r0
  have HW := Lib.hid hW0
  have HIn := Lib.hid (fun k hk hh => mem_at (L := L) (k := k) hk (p := (p1, p2)) hh)
  have HOut := Lib.hid (fun hh => not_mem_at (L := L) (p := (p1, p2)) hh)
  obtain ⟨H, hH⟩ : ∃ H, w.heap.size = H := ⟨_, rfl⟩
  have HH := Lib.hid hH
  clear hc b0 r0 hW0 h hH
  generalize hL : L.length = n at *
  go_enter Tryd.func23, Tryd.ntmps23
  go_wp2
  rw [HW.out, HH.out]
  go_loopw [8] (fun i wr => ∃ (k q : Nat), k ≤ n ∧ i = .int .i64 k ∧ wr = W0.drewN q ∧ ∀ j, j < k → L[j]?.getD (0, 0) ≠ (p1, p2)) (fun i _ => n - (intOf i).toNat)
  case atStart => exact ⟨0, 0, Nat.zero_le _, rfl, rfl, fun j hj => by omega⟩
  case round =>
    obtain ⟨k, q, hk, rfl, rfl, hno⟩ := hrel
    have HNo := Lib.hid hno
    by_cases hkn : k < n
    · obtain ⟨g, rfl, h1⟩ := HC.out (by omega)
      obtain ⟨a1, a2⟩ := h1 k hkn
      have HIk := Lib.hid (HIn.out k hkn)
      have k0 : (0 : Int) ≤ (k : Int) := by omega
      have k1 : (k : Int) < (n : Int) := by omega
      have c1 : (W0.drewN q).cell? ⟨g, k * 2, none⟩ = some (.int .i64 (((L[k]?.getD (0, 0)).1 : Nat) : Int)) := a1
      have c2 : (W0.drewN q).cell? ⟨g, k * 2 + 1, none⟩ = some (.int .i64 (((L[k]?.getD (0, 0)).2 : Nat) : Int)) := a2
      have c3 : (W0.drewN q).cell? ⟨H, 0, none⟩ = some (.int .i64 (p1 : Int)) := by rw [← HH.out]; exact HR0.out.cell 0
      have c4 : (W0.drewN q).cell? ⟨H, 1, none⟩ = some (.int .i64 (p2 : Int)) := by rw [← HH.out]; exact HR0.out.cell 1
      have HNx := Lib.hid (fun (hh : L[k]?.getD (0, 0) ≠ (p1, p2)) => show ∀ j, j < k + 1 → L[j]?.getD (0, 0) ≠ (p1, p2) from fun j hj => by
        by_cases e : j = k
        · rw [e]; exact hh
        · exact HNo.out j (by omega))
      clear h1 a1 a2 hno
      generalize L[k]?.getD (0, 0) = xy at *
      obtain ⟨x, y⟩ := xy
      dsimp only at c1 c2
      obtain ⟨wq, hwq⟩ : ∃ wq, W0.drewN q = wq := ⟨_, rfl⟩
      rw [hwq] at c1 c2 c3 c4 ⊢
      have HQ := Lib.hid hwq
      clear hwq
      by_cases hm : (x, y) = (p1, p2)
      · have hpe2 : ∀ W : World, (Op.equalIn 10000 38 (.agg #[.int .i64 (p1 : Int), .int .i64 (p2 : Int)]) (.agg #[.int .i64 (x : Int), .int .i64 (y : Int)])).run Tryd.prog W = .ok true W := fun W => by
          cases hm; rw [pairEq10]; simp
        have HM := Lib.hid (HIk.out hm)
        clear hm HIk HNx
        go_wp2
        go_quiet (fail)
        go_wp2
        go_ret
        refine ⟨(k : Int), rfl, ?_, ?_⟩
        · rw [decide_eq_true (show (0 : Int) ≤ (k : Int) by omega), decide_eq_true HM.out]
        · rw [← HQ.out]; exact below_drewN (below_drewN HB0.out _) _
      · have hpe2 : ∀ W : World, (Op.equalIn 10000 38 (.agg #[.int .i64 (p1 : Int), .int .i64 (p2 : Int)]) (.agg #[.int .i64 (x : Int), .int .i64 (y : Int)])).run Tryd.prog W = .ok false W := fun W => by
          rw [pairEq10]
          congr 1
          refine decide_eq_false (fun ⟨e1, e2⟩ => hm ?_)
          have e3 : p1 = x := by omega
          have e4 : p2 = y := by omega
          rw [e3, e4]
        have HN := Lib.hid (HNx.out hm)
        clear hm HIk HNx
        go_wp2
        go_quiet (fail)
        go_wp2
        go_roundw
        case rel => exact ⟨k + 1, q + _, by omega, by go_num, by rw [← HQ.out]; simp only [World.drewN, Nat.add_assoc]; rfl, HN.out⟩
        case measure => simp only [intOf]; omega
    · obtain rfl : k = n := by omega
      have HM := Lib.hid (HOut.out hno)
      clear hno
      go_wp2
      go_ret
      refine ⟨-1, rfl, ?_, ?_⟩
      · rw [decide_eq_false HM.out]; rfl
      · exact below_drewN HB0.out _

theorem ContPair_any (L : List (Nat × Nat)) (hl : L.length ≤ 64) (p1 p2 : Nat) (v : Value) (w : World) (h : PairsAt w v L) :
    Calls Tryd.prog 12 #[v, .agg #[.int .i64 (p1 : Int), .int .i64 (p2 : Int)]] w fun e w' => e = .returned (.bool (decide ((p1, p2) ∈ L))) ∧ Below w.heap.size w w' := by
  obtain ⟨W0, hW0⟩ : ∃ W0, w.alloc (.cells #[.int .i64 (p1 : Int), .int .i64 (p2 : Int)] 38) = W0 := ⟨_, rfl⟩
  have b0 : Below w.heap.size w W0 := by rw [← hW0]; exact (Below.refl _ w).alloc (Nat.le_refl _) _
  have r0 : Row W0 w.heap.size 38 [.int .i64 (p1 : Int), .int .i64 (p2 : Int)] := by rw [← hW0]; exact Row.new w _ _
  have HI := Lib.hid (IdxPair_any L hl p1 p2 v W0 (h.later b0))
  obtain ⟨ao, cap, rfl, _⟩ := h
  have HW := Lib.hid hW0
  have c3 : W0.cell? ⟨w.heap.size, 0, none⟩ = some (.int .i64 (p1 : Int)) := r0.cell 0
  have c4 : W0.cell? ⟨w.heap.size, 1, none⟩ = some (.int .i64 (p2 : Int)) := r0.cell 1
  have HB0 := Lib.hid b0
  generalize decide ((p1, p2) ∈ L) = d at *
  clear hW0 b0 r0
  go_enter Tryd.func12, Tryd.ntmps12
  go_wp2_with fail
  rw [HW.out]
  go_wp2_with fail
  refine HI.out.mono ?_
  rintro e w1 ⟨r, rfl, hd, b1⟩
  have HD := Lib.hid hd
  have B1 := Lib.hid (below_nx HB0.out b1)
  clear hd b1
  go_wp2
  go_ret
  exact ⟨ret_bool (by first | exact HD.out | (rw [← HD.out]) | (rw [← HD.out]; simp)), B1.out⟩
end Go.Proofs.YtaldfaecpcnomaaDoor
