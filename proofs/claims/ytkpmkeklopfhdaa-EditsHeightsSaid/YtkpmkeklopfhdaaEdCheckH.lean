/-
  CheckHeights: its contract.
-/
import Derived.Test.YtkpmkeklopfhdaaEdHts2
import Derived.Test.YtkpmkeklopfhdaaEdCost
namespace Go.Proofs.Ytkpmkeklopfhdaa
open Go.ChangeShapes Go.WideShapes Go.ChangeAt Go.RowKit
set_option linter.unusedVariables false
set_option maxRecDepth 100000

set_option maxHeartbeats 2000000 in
theorem CheckHeights_no (a b : ByteArray) (pi po ps : Nat) (h : goodB a b pi po ps = true) (t : List (List Int)) (hl : t.length ≤ maxLen) (hr : ∀ r ∈ t, r.length ≤ maxLen) (hn : heightsB (bsN a) (bsN b) pi po ps t = false) (v : Value) (w : World) (hV : TabV w v t) :
    Calls Try.prog 32 #[.string a, .string b, pv pi po ps, v] w fun e w' => e = .returned (.tuple #[.int .i64 0, .bool false, .int .i64 0]) ∧ Below w.heap.size w w' := by
  unfold goodB at h
  rw [Bool.and_eq_true, Bool.and_eq_true] at h
  obtain ⟨h1, h2, h3⟩ := h
  obtain ⟨⟨_, q1⟩, ⟨_, q2⟩, _, q3⟩ := (priced_iff _ _ _).1 h1
  have ha : a.size ≤ 12 := of_decide_eq_true h2
  have hb : b.size ≤ 12 := of_decide_eq_true h3
  have HP := Lib.hid (fun W => isPriced_any pi po ps W)
  have HA := Lib.hid (fun W v hv => all_line [a, b] (by unfold maxLen; simp) v W hv)
  rw [show [a, b].all lineB = true by simp [h2, h3]] at HA
  rw [h1] at HP
  have HH := Lib.hid (fun W hV => areHeights_any a b pi po ps ha hb (by omega) (by omega) (by omega) t hl hr v W hV)
  rw [hn] at HH
  have HT := Lib.hid hV
  clear h1 h2 h3 ha hb hl hr hn hV
  have HB := Lib.hid ((Below.refl w.heap.size w).alloc (Nat.le_refl _) (.cells #[.int .i64 (pi : Int), .int .i64 (po : Int), .int .i64 (ps : Int)] 28))
  obtain ⟨W0, hW0⟩ : ∃ W0, w.alloc (.cells #[.int .i64 (pi : Int), .int .i64 (po : Int), .int .i64 (ps : Int)] 28) = W0 := ⟨_, rfl⟩
  have p0 : W0.cell? ⟨w.heap.size, 0, none⟩ = some (.int .i64 (pi : Int)) := by rw [← hW0]; simp
  have p1 : W0.cell? ⟨w.heap.size, 1, none⟩ = some (.int .i64 (po : Int)) := by rw [← hW0]; simp
  have p2 : W0.cell? ⟨w.heap.size, 2, none⟩ = some (.int .i64 (ps : Int)) := by rw [← hW0]; simp
  rw [hW0] at HB
  go_enter Try.func32, Try.ntmps32
  go_wp2_with fail
  refine (HP.out _).mono ?_
  rintro e w1 ⟨rfl, b1⟩
  try rw [hW0] at b1
  have B1 := Lib.hid (below_nx HB.out b1)
  have p0 := cell_later b1 p0
  have p1 := cell_later b1 p1
  have p2 := cell_later b1 p2
  have HV := Lib.hid (strs2 w1 a b 9)
  clear b1 hW0
  go_wp2_with fail
  refine (HA.out _ _ HV.out).mono ?_
  rintro e w2 ⟨rfl, rfl⟩
  have bl1 : Below w1.heap.size w1 (w1.alloc (.cells #[.string a, .string b] 9)) := bl_al (Below.refl _ _) _
  have p0 := cell_later bl1 p0
  have p1 := cell_later bl1 p1
  have p2 := cell_later bl1 p2
  have B2 := Lib.hid (bl_al B1.out (.cells #[.string a, .string b] 9))
  clear bl1
  generalize w1.alloc (.cells #[.string a, .string b] 9) = w3 at p0 p1 p2 B2 ⊢
  go_wp2_with fail
  have HV3 := Lib.hid (HT.out.later B2.out)
  refine (HH.out _ HV3.out).mono ?_
  rintro e w4 ⟨rfl, b4⟩
  have B4 := Lib.hid (below_nx B2.out b4)
  clear b4
  go_wp2
  go_ret3
  exact ⟨rfl, B4.out⟩

set_option maxHeartbeats 2000000 in
theorem CheckHeights_yes (a b : ByteArray) (pi po ps : Nat) (h : goodB a b pi po ps = true) (t : List (List Int)) (hl : t.length ≤ maxLen) (hr : ∀ r ∈ t, r.length ≤ maxLen) (hn : heightsB (bsN a) (bsN b) pi po ps t = true) (v : Value) (w : World) (hV : TabV w v t) :
    Calls Try.prog 32 #[.string a, .string b, pv pi po ps, v] w fun e w' => e = .returned (.tuple #[.int .i64 (ht t a.size b.size), .bool true, .int .i64 0]) ∧ Below w.heap.size w w' := by
  unfold goodB at h
  rw [Bool.and_eq_true, Bool.and_eq_true] at h
  obtain ⟨h1, h2, h3⟩ := h
  obtain ⟨⟨_, q1⟩, ⟨_, q2⟩, _, q3⟩ := (priced_iff _ _ _).1 h1
  have ha : a.size ≤ 12 := of_decide_eq_true h2
  have hb : b.size ≤ 12 := of_decide_eq_true h3
  have HP := Lib.hid (fun W => isPriced_any pi po ps W)
  have HA := Lib.hid (fun W v hv => all_line [a, b] (by unfold maxLen; simp) v W hv)
  rw [show [a, b].all lineB = true by simp [h2, h3]] at HA
  rw [h1] at HP
  have HH := Lib.hid (fun W hV => areHeights_any a b pi po ps ha hb (by omega) (by omega) (by omega) t hl hr v W hV)
  rw [hn] at HH
  have hn2 := hn
  unfold heightsB at hn2
  rw [Bool.and_eq_true, Bool.and_eq_true, bsN_length, bsN_length] at hn2
  have hla : t.length = a.size + 1 := of_decide_eq_true hn2.1
  have hrb : ∀ r ∈ t, r.length = b.size + 1 := fun r hm => by
    have := List.all_eq_true.1 hn2.2.1 r hm
    unfold hrowB at this
    rw [Bool.and_eq_true] at this
    exact of_decide_eq_true this.1
  have hV2 := hV
  obtain ⟨ao, cap, rfl, hlc, hd⟩ := hV
  rw [hla] at hV2 HH ⊢
  obtain ⟨b0, off, rfl, hcell⟩ := tab_at hla.symm hV2 hrb (by omega)
  obtain ⟨rb0, ro0, rc0, g1, g2, g3⟩ := hcell a.size (by omega)
  have g4 := g3 b.size (by omega)
  obtain ⟨z, hz⟩ : ∃ z, ht t a.size b.size = z := ⟨_, rfl⟩
  rw [hz] at g4 ⊢
  clear hz
  have HT := Lib.hid hV2
  clear h1 h2 h3 ha hb hl hr hn hV2 hn2 hrb hcell g3 hd hla
  have HB := Lib.hid ((Below.refl w.heap.size w).alloc (Nat.le_refl _) (.cells #[.int .i64 (pi : Int), .int .i64 (po : Int), .int .i64 (ps : Int)] 28))
  obtain ⟨W0, hW0⟩ : ∃ W0, w.alloc (.cells #[.int .i64 (pi : Int), .int .i64 (po : Int), .int .i64 (ps : Int)] 28) = W0 := ⟨_, rfl⟩
  have p0 : W0.cell? ⟨w.heap.size, 0, none⟩ = some (.int .i64 (pi : Int)) := by rw [← hW0]; simp
  have p1 : W0.cell? ⟨w.heap.size, 1, none⟩ = some (.int .i64 (po : Int)) := by rw [← hW0]; simp
  have p2 : W0.cell? ⟨w.heap.size, 2, none⟩ = some (.int .i64 (ps : Int)) := by rw [← hW0]; simp
  rw [hW0] at HB
  go_enter Try.func32, Try.ntmps32
  go_wp2_with fail
  refine (HP.out _).mono ?_
  rintro e w1 ⟨rfl, b1⟩
  try rw [hW0] at b1
  have B1 := Lib.hid (below_nx HB.out b1)
  have p0 := cell_later b1 p0
  have p1 := cell_later b1 p1
  have p2 := cell_later b1 p2
  have HV := Lib.hid (strs2 w1 a b 9)
  clear b1 hW0
  go_wp2_with fail
  refine (HA.out _ _ HV.out).mono ?_
  rintro e w2 ⟨rfl, rfl⟩
  have bl1 : Below w1.heap.size w1 (w1.alloc (.cells #[.string a, .string b] 9)) := bl_al (Below.refl _ _) _
  have p0 := cell_later bl1 p0
  have p1 := cell_later bl1 p1
  have p2 := cell_later bl1 p2
  have B2 := Lib.hid (bl_al B1.out (.cells #[.string a, .string b] 9))
  clear bl1
  generalize w1.alloc (.cells #[.string a, .string b] 9) = w3 at p0 p1 p2 B2 ⊢
  go_wp2_with fail
  have HV3 := Lib.hid (HT.out.later B2.out)
  refine (HH.out _ HV3.out).mono ?_
  rintro e w4 ⟨rfl, b4⟩
  have B4 := Lib.hid (below_nx B2.out b4)
  have e1 := cell_later B4.out g1
  have e4 := cell_later B4.out g4
  clear b4
  go_wp2
  go_ret3
  exact ⟨rfl, B4.out⟩

set_option maxHeartbeats 2000000 in
theorem CheckHeights_bad (a b : ByteArray) (pi po ps : Int) (v : Value) (h : goodB a b pi po ps = false) (w : World) :
    Calls Try.prog 32 #[.string a, .string b, pv pi po ps, v] w fun e w' => e = .returned (.tuple #[.int .i64 0, .bool false, .int .i64 2]) ∧ Below w.heap.size w w' := by
  have HP := Lib.hid (fun W => isPriced_any pi po ps W)
  have HA := Lib.hid (fun W v hv => all_line [a, b] (by unfold maxLen; simp) v W hv)
  have HB := Lib.hid ((Below.refl w.heap.size w).alloc (Nat.le_refl _) (.cells #[.int .i64 pi, .int .i64 po, .int .i64 ps] 28))
  cases h1 : pricedB pi po ps
  · rw [h1] at HP
    clear h h1 HA
    go_enter Try.func32, Try.ntmps32
    go_wp2_with fail
    refine (HP.out _).mono ?_
    rintro e w1 ⟨rfl, b1⟩
    have B1 := Lib.hid (below_nx HB.out b1)
    clear b1
    go_wp2
    go_ret3
    exact ⟨rfl, B1.out⟩
  · have h2 : [a, b].all lineB = false := by unfold goodB at h; rw [h1] at h; simpa using h
    rw [h1] at HP
    rw [h2] at HA
    clear h h1 h2
    go_enter Try.func32, Try.ntmps32
    go_wp2_with fail
    refine (HP.out _).mono ?_
    rintro e w1 ⟨rfl, b1⟩
    have B1 := Lib.hid (below_nx HB.out b1)
    have HV := Lib.hid (strs2 w1 a b 9)
    clear b1
    go_wp2_with fail
    refine (HA.out _ _ HV.out).mono ?_
    rintro e w2 ⟨rfl, rfl⟩
    have B2 := Lib.hid (bl_al B1.out (.cells #[.string a, .string b] 9))
    go_wp2
    go_ret3
    exact ⟨rfl, B2.out⟩


end Go.Proofs.Ytkpmkeklopfhdaa
