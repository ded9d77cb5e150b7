/-
  Cost and Ways; a byte put in (awake).
-/
import Derived.Test.YtkpmkeklopfhdaaEdScr
namespace Go.Proofs.Ytkpmkeklopfhdaa
open Go.ChangeShapes Go.WideShapes Go.ChangeAt Go.RowKit
set_option maxRecDepth 100000

/-- The least cost, and how many scripts have it. -/
def cst (a b : ByteArray) (pi po ps : Nat) : Int := (pl (bsN a) (bsN b) pi po ps a.size b.size).c
def wys (a b : ByteArray) (pi po ps : Nat) : Int := (pl (bsN a) (bsN b) pi po ps a.size b.size).w

theorem board_end {a b : ByteArray} {pi po ps : Nat} (ha : a.size ≤ 12) (hb : b.size ≤ 12) (hpi : pi ≤ 9) (hpo : po ≤ 9) (hps : ps ≤ 9) : boardK (bsN a) (bsN b) pi po ps a.size b.size = pl (bsN a) (bsN b) pi po ps a.size b.size :=
  board_pl _ _ _ _ _ hpi hpo hps (by rw [bsN_length]; exact ha) (by rw [bsN_length]; exact hb) (by rw [bsN_length]; exact Nat.le_refl _) (by rw [bsN_length]; exact Nat.le_refl _)

set_option maxHeartbeats 1000000 in
theorem leastCost_any (a b : ByteArray) (pi po ps : Nat) (ha : a.size ≤ 12) (hb : b.size ≤ 12) (hpi : pi ≤ 9) (hpo : po ≤ 9) (hps : ps ≤ 9) (w : World) :
    Calls Try.prog 65 #[.string a, .string b, pv pi po ps] w fun e w' => e = .returned (.int .i64 (cst a b pi po ps)) ∧ Below w.heap.size w w' := by
  have HS := Lib.hid (fun W => scripts_any a b pi po ps ha hb hpi hpo hps W)
  have HB := Lib.hid ((Below.refl w.heap.size w).alloc (Nat.le_refl _) (.cells #[.int .i64 (pi : Int), .int .i64 (po : Int), .int .i64 (ps : Int)] 28))
  have h1 := fun W => ix_board (boardK (bsN a) (bsN b) pi po ps) (show a.size < 13 by omega) W
  have h2 := fun W => ix_row (boardK (bsN a) (bsN b) pi po ps) (show a.size < 13 by omega) (show b.size < 13 by omega) W
  have h3 := fun W => fd_cost (boardK (bsN a) (bsN b) pi po ps a.size b.size) W
  have HE := Lib.hid (show (boardK (bsN a) (bsN b) pi po ps a.size b.size).c = cst a b pi po ps by rw [board_end ha hb hpi hpo hps]; rfl)
  rw [HE.out] at h3
  generalize plC (boardK (bsN a) (bsN b) pi po ps a.size b.size) = P3 at h2 h3
  generalize (List.take 78 (List.drop (a.size * 78) (boardL (boardK (bsN a) (bsN b) pi po ps)))).toArray = P2 at h1 h2
  generalize (boardL (boardK (bsN a) (bsN b) pi po ps)).toArray = P1 at h1 HS
  clear HE
  go_enter Try.func65, Try.ntmps65
  go_wp2_with fail
  refine (HS.out _).mono ?_
  rintro e w1 ⟨rfl, b1⟩
  have B1 := Lib.hid (below_nx HB.out b1)
  clear b1
  go_wp2
  go_ret
  exact ⟨rfl, B1.out⟩

theorem strs2 (W : World) (a b : ByteArray) (t : TypeId) : StrsV (W.alloc (.cells #[.string a, .string b] t)) (.slice (some ⟨W.heap.size, 0, none⟩) 2 2) [a, b] := by
  refine ⟨_, 2, rfl, Nat.le_refl _, fun _ => ⟨_, 0, rfl, fun i hi => ?_⟩⟩
  match i, hi with
  | 0, _ => simp
  | 1, _ => simp

def goodB (a b : ByteArray) (pi po ps : Int) : Bool := pricedB pi po ps && (lineB a && lineB b)

set_option maxHeartbeats 2000000 in
theorem Cost_ok (a b : ByteArray) (pi po ps : Nat) (h : goodB a b pi po ps = true) (w : World) :
    Calls Try.prog 18 #[.string a, .string b, pv pi po ps] w fun e w' => e = .returned (.tuple #[.int .i64 (cst a b pi po ps), .int .i64 0]) ∧ Below w.heap.size w w' := by
  unfold goodB at h
  rw [Bool.and_eq_true, Bool.and_eq_true] at h
  obtain ⟨h1, h2, h3⟩ := h
  obtain ⟨⟨_, q1⟩, ⟨_, q2⟩, _, q3⟩ := (priced_iff _ _ _).1 h1
  have ha : a.size ≤ 12 := of_decide_eq_true h2
  have hb : b.size ≤ 12 := of_decide_eq_true h3
  have HP := Lib.hid (fun W => isPriced_any pi po ps W)
  have HA := Lib.hid (fun W v hv => all_line [a, b] (by unfold maxLen; simp) v W hv)
  rw [show [a, b].all lineB = true by simp [h2, h3]] at HA
  rw [h1] at HP
  have HL := Lib.hid (fun W => leastCost_any a b pi po ps ha hb (by omega) (by omega) (by omega) W)
  have HB := Lib.hid ((Below.refl w.heap.size w).alloc (Nat.le_refl _) (.cells #[.int .i64 (pi : Int), .int .i64 (po : Int), .int .i64 (ps : Int)] 28))
  clear h1 h2 h3 ha hb
  obtain ⟨W0, hW0⟩ : ∃ W0, w.alloc (.cells #[.int .i64 (pi : Int), .int .i64 (po : Int), .int .i64 (ps : Int)] 28) = W0 := ⟨_, rfl⟩
  have p0 : W0.cell? ⟨w.heap.size, 0, none⟩ = some (.int .i64 (pi : Int)) := by rw [← hW0]; simp
  have p1 : W0.cell? ⟨w.heap.size, 1, none⟩ = some (.int .i64 (po : Int)) := by rw [← hW0]; simp
  have p2 : W0.cell? ⟨w.heap.size, 2, none⟩ = some (.int .i64 (ps : Int)) := by rw [← hW0]; simp
  rw [hW0] at HB
  go_enter Try.func18, Try.ntmps18
  go_wp2_with fail
  refine (HP.out _).mono ?_
  rintro e w1 ⟨rfl, b1⟩
  try rw [hW0] at b1
  have B1 := Lib.hid (below_nx HB.out b1)
  have p0 := cell_later b1 p0
  have p1 := cell_later b1 p1
  have p2 := cell_later b1 p2
  have HV := Lib.hid (strs2 w1 a b 9)
  clear b1 hW0
  go_wp2_with fail
  refine (HA.out _ _ HV.out).mono ?_
  rintro e w2 ⟨rfl, rfl⟩
  have bl1 : Below w1.heap.size w1 (w1.alloc (.cells #[.string a, .string b] 9)) := bl_al (Below.refl _ _) _
  have p0 := cell_later bl1 p0
  have p1 := cell_later bl1 p1
  have p2 := cell_later bl1 p2
  have B2 := Lib.hid (bl_al B1.out (.cells #[.string a, .string b] 9))
  clear bl1
  generalize w1.alloc (.cells #[.string a, .string b] 9) = w3 at p0 p1 p2 B2 ⊢
  go_wp2_with fail
  refine (HL.out _).mono ?_
  rintro e w4 ⟨rfl, b4⟩
  have B4 := Lib.hid (below_nx B2.out b4)
  clear b4
  go_wp2
  go_ret2
  exact ⟨rfl, B4.out⟩

set_option maxHeartbeats 2000000 in
theorem Cost_bad (a b : ByteArray) (pi po ps : Int) (h : goodB a b pi po ps = false) (w : World) :
    Calls Try.prog 18 #[.string a, .string b, pv pi po ps] w fun e w' => e = .returned (.tuple #[.int .i64 0, .int .i64 2]) ∧ Below w.heap.size w w' := by
  have HP := Lib.hid (fun W => isPriced_any pi po ps W)
  have HA := Lib.hid (fun W v hv => all_line [a, b] (by unfold maxLen; simp) v W hv)
  have HB := Lib.hid ((Below.refl w.heap.size w).alloc (Nat.le_refl _) (.cells #[.int .i64 pi, .int .i64 po, .int .i64 ps] 28))
  cases h1 : pricedB pi po ps
  · rw [h1] at HP
    clear h h1 HA
    go_enter Try.func18, Try.ntmps18
    go_wp2_with fail
    refine (HP.out _).mono ?_
    rintro e w1 ⟨rfl, b1⟩
    have B1 := Lib.hid (below_nx HB.out b1)
    clear b1
    go_wp2
    go_ret2
    exact ⟨rfl, B1.out⟩
  · have h2 : [a, b].all lineB = false := by unfold goodB at h; rw [h1] at h; simpa using h
    rw [h1] at HP
    rw [h2] at HA
    clear h h1 h2
    go_enter Try.func18, Try.ntmps18
    go_wp2_with fail
    refine (HP.out _).mono ?_
    rintro e w1 ⟨rfl, b1⟩
    have B1 := Lib.hid (below_nx HB.out b1)
    have HV := Lib.hid (strs2 w1 a b 9)
    clear b1
    go_wp2_with fail
    refine (HA.out _ _ HV.out).mono ?_
    rintro e w2 ⟨rfl, rfl⟩
    have B2 := Lib.hid (bl_al B1.out (.cells #[.string a, .string b] 9))
    go_wp2
    go_ret2
    exact ⟨rfl, B2.out⟩

set_option maxHeartbeats 2000000 in
theorem Ways_ok (a b : ByteArray) (pi po ps : Nat) (h : goodB a b pi po ps = true) (w : World) :
    Calls Try.prog 35 #[.string a, .string b, pv pi po ps] w fun e w' => e = .returned (.tuple #[.int .i64 (wys a b pi po ps), .int .i64 0]) ∧ Below w.heap.size w w' := by
  unfold goodB at h
  rw [Bool.and_eq_true, Bool.and_eq_true] at h
  obtain ⟨h1, h2, h3⟩ := h
  obtain ⟨⟨_, q1⟩, ⟨_, q2⟩, _, q3⟩ := (priced_iff _ _ _).1 h1
  have ha : a.size ≤ 12 := of_decide_eq_true h2
  have hb : b.size ≤ 12 := of_decide_eq_true h3
  have HP := Lib.hid (fun W => isPriced_any pi po ps W)
  have HA := Lib.hid (fun W v hv => all_line [a, b] (by unfold maxLen; simp) v W hv)
  rw [show [a, b].all lineB = true by simp [h2, h3]] at HA
  rw [h1] at HP
  have HS := Lib.hid (fun W => scripts_any a b pi po ps ha hb (by omega) (by omega) (by omega) W)
  have g1 := fun W => ix_board (boardK (bsN a) (bsN b) pi po ps) (show a.size < 13 by omega) W
  have g2 := fun W => ix_row (boardK (bsN a) (bsN b) pi po ps) (show a.size < 13 by omega) (show b.size < 13 by omega) W
  have g3 := fun W => fd_ways (boardK (bsN a) (bsN b) pi po ps a.size b.size) W
  have HE := Lib.hid (show (boardK (bsN a) (bsN b) pi po ps a.size b.size).w = wys a b pi po ps by rw [board_end ha hb (by omega) (by omega) (by omega)]; rfl)
  rw [HE.out] at g3
  generalize plC (boardK (bsN a) (bsN b) pi po ps a.size b.size) = P3 at g2 g3
  generalize (List.take 78 (List.drop (a.size * 78) (boardL (boardK (bsN a) (bsN b) pi po ps)))).toArray = P2 at g1 g2
  generalize (boardL (boardK (bsN a) (bsN b) pi po ps)).toArray = P1 at g1 HS
  clear HE
  have HB := Lib.hid ((Below.refl w.heap.size w).alloc (Nat.le_refl _) (.cells #[.int .i64 (pi : Int), .int .i64 (po : Int), .int .i64 (ps : Int)] 28))
  clear h1 h2 h3 ha hb
  obtain ⟨W0, hW0⟩ : ∃ W0, w.alloc (.cells #[.int .i64 (pi : Int), .int .i64 (po : Int), .int .i64 (ps : Int)] 28) = W0 := ⟨_, rfl⟩
  have p0 : W0.cell? ⟨w.heap.size, 0, none⟩ = some (.int .i64 (pi : Int)) := by rw [← hW0]; simp
  have p1 : W0.cell? ⟨w.heap.size, 1, none⟩ = some (.int .i64 (po : Int)) := by rw [← hW0]; simp
  have p2 : W0.cell? ⟨w.heap.size, 2, none⟩ = some (.int .i64 (ps : Int)) := by rw [← hW0]; simp
  rw [hW0] at HB
  go_enter Try.func35, Try.ntmps35
  go_wp2_with fail
  refine (HP.out _).mono ?_
  rintro e w1 ⟨rfl, b1⟩
  try rw [hW0] at b1
  have B1 := Lib.hid (below_nx HB.out b1)
  have p0 := cell_later b1 p0
  have p1 := cell_later b1 p1
  have p2 := cell_later b1 p2
  have HV := Lib.hid (strs2 w1 a b 9)
  clear b1 hW0
  go_wp2_with fail
  refine (HA.out _ _ HV.out).mono ?_
  rintro e w2 ⟨rfl, rfl⟩
  have bl1 : Below w1.heap.size w1 (w1.alloc (.cells #[.string a, .string b] 9)) := bl_al (Below.refl _ _) _
  have p0 := cell_later bl1 p0
  have p1 := cell_later bl1 p1
  have p2 := cell_later bl1 p2
  have B2 := Lib.hid (bl_al B1.out (.cells #[.string a, .string b] 9))
  clear bl1
  generalize w1.alloc (.cells #[.string a, .string b] 9) = w3 at p0 p1 p2 B2 ⊢
  go_wp2_with fail
  refine (HS.out _).mono ?_
  rintro e w4 ⟨rfl, b4⟩
  have B4 := Lib.hid (below_nx B2.out b4)
  clear b4
  go_wp2
  go_ret2
  exact ⟨rfl, B4.out⟩

set_option maxHeartbeats 2000000 in
theorem Ways_bad (a b : ByteArray) (pi po ps : Int) (h : goodB a b pi po ps = false) (w : World) :
    Calls Try.prog 35 #[.string a, .string b, pv pi po ps] w fun e w' => e = .returned (.tuple #[.int .i64 0, .int .i64 2]) ∧ Below w.heap.size w w' := by
  have HP := Lib.hid (fun W => isPriced_any pi po ps W)
  have HA := Lib.hid (fun W v hv => all_line [a, b] (by unfold maxLen; simp) v W hv)
  have HB := Lib.hid ((Below.refl w.heap.size w).alloc (Nat.le_refl _) (.cells #[.int .i64 pi, .int .i64 po, .int .i64 ps] 28))
  cases h1 : pricedB pi po ps
  · rw [h1] at HP
    clear h h1 HA
    go_enter Try.func35, Try.ntmps35
    go_wp2_with fail
    refine (HP.out _).mono ?_
    rintro e w1 ⟨rfl, b1⟩
    have B1 := Lib.hid (below_nx HB.out b1)
    clear b1
    go_wp2
    go_ret2
    exact ⟨rfl, B1.out⟩
  · have h2 : [a, b].all lineB = false := by unfold goodB at h; rw [h1] at h; simpa using h
    rw [h1] at HP
    rw [h2] at HA
    clear h h1 h2
    go_enter Try.func35, Try.ntmps35
    go_wp2_with fail
    refine (HP.out _).mono ?_
    rintro e w1 ⟨rfl, b1⟩
    have B1 := Lib.hid (below_nx HB.out b1)
    have HV := Lib.hid (strs2 w1 a b 9)
    clear b1
    go_wp2_with fail
    refine (HA.out _ _ HV.out).mono ?_
    rintro e w2 ⟨rfl, rfl⟩
    have B2 := Lib.hid (bl_al B1.out (.cells #[.string a, .string b] 9))
    go_wp2
    go_ret2
    exact ⟨rfl, B2.out⟩

theorem awake_cost : cst ⟨#[97]⟩ ⟨#[97, 98]⟩ 2 3 4 = 2 := by
  have e1 : bsN ⟨#[97]⟩ = [97] := rfl
  have e2 : bsN ⟨#[97, 98]⟩ = [97, 98] := rfl
  show (pl (bsN ⟨#[97]⟩) (bsN ⟨#[97, 98]⟩) 2 3 4 1 2).c = 2
  rw [e1, e2, pl_cost _ _ _ _ _ (by omega) (by omega) (by omega) 0 1, pl_cost _ _ _ _ _ (by omega) (by omega) (by omega) 0 0]
  simp [pl_00, pl_0s, pl_s0, cIn, cOut, oneP, atB]
  decide
theorem awake_any (w : World) : Calls Try.prog 23 #[] w fun e w' => e = .returned (.bool true) ∧ Below w.heap.size w w' := by
  have HC := Lib.hid (fun W => Cost_ok ⟨#[97]⟩ ⟨#[97, 98]⟩ 2 3 4 (by decide) W)
  rw [awake_cost] at HC
  go_enter Try.func23, Try.ntmps23
  go_wp2_with fail
  refine (HC.out _).mono ?_
  rintro e w1 ⟨rfl, b1⟩
  go_wp2
  go_ret
  exact ⟨rfl, b1⟩
end Go.Proofs.Ytkpmkeklopfhdaa
