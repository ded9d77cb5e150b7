/-
  The statement on the way by a third line.
-/
import Derived.Test.YtkpmkeklopfhdaaEdCost
import Derived.Test.YtkpmkeklopfhdaaEdTri
namespace Go.Proofs.Ytkpmkeklopfhdaa
open Go.ChangeShapes Go.WideShapes Go.ChangeAt Go.RowKit
set_option linter.unusedVariables false
set_option maxRecDepth 100000

theorem text_line (s : ByteArray) : lineB (s.extract 0 16) = lineB s := by
  unfold lineB
  have : (s.extract 0 16).size = min 16 s.size := by simp
  rw [this]
  by_cases h : s.size ≤ 12
  · rw [decide_eq_true h, decide_eq_true (by omega)]
  · rw [decide_eq_false h, decide_eq_false (by omega)]
theorem text_id {s : ByteArray} (h : lineB s = true) : s.extract 0 16 = s := extract_all s 16 (by have := of_decide_eq_true h; omega)
theorem good_text (a b : ByteArray) (pi po ps : Int) : goodB (a.extract 0 16) (b.extract 0 16) pi po ps = goodB a b pi po ps := by unfold goodB; rw [text_line, text_line]
theorem good_iff {a b : ByteArray} {pi po ps : Int} : goodB a b pi po ps = true ↔ pricedB pi po ps = true ∧ lineB a = true ∧ lineB b = true := by unfold goodB; rw [Bool.and_eq_true, Bool.and_eq_true]
theorem fine_good (a b : ByteArray) (pi po ps : Int) : (lineB a && (lineB b && pricedB pi po ps)) = goodB a b pi po ps := by
  unfold goodB; cases lineB a <;> cases lineB b <;> cases pricedB pi po ps <;> rfl
/-- Valid prices, as naturals. -/
theorem priced_nat {pi po ps : Int} (h : pricedB pi po ps = true) : ∃ a b c : Nat, pi = a ∧ po = b ∧ ps = c ∧ Pr a b c ∧ 1 ≤ a ∧ 1 ≤ b ∧ 1 ≤ c := by
  obtain ⟨⟨h1, h2⟩, ⟨h3, h4⟩, h5, h6⟩ := (priced_iff _ _ _).1 h
  obtain ⟨a, rfl⟩ := Int.eq_ofNat_of_zero_le (show 0 ≤ pi by omega)
  obtain ⟨b, rfl⟩ := Int.eq_ofNat_of_zero_le (show 0 ≤ po by omega)
  obtain ⟨c, rfl⟩ := Int.eq_ofNat_of_zero_le (show 0 ≤ ps by omega)
  exact ⟨a, b, c, rfl, rfl, rfl, ⟨by omega, by omega, by omega⟩, by omega, by omega, by omega⟩
theorem cst_bd {a b : ByteArray} {pi po ps : Nat} (h : Pr pi po ps) (ha : lineB a = true) (hb : lineB b = true) : 0 ≤ cst a b pi po ps ∧ cst a b pi po ps ≤ 216 := by
  have h1 : a.size ≤ 12 := of_decide_eq_true ha
  have h2 : b.size ≤ 12 := of_decide_eq_true hb
  obtain ⟨q1, q2, _⟩ := pl_bounds (bsN a) (bsN b) pi po ps h.i h.o h.s _ a.size b.size (Nat.le_refl _)
  exact ⟨q1, by show (pl _ _ _ _ _ _ _).c ≤ _; omega⟩
theorem cst_tri (a b c : ByteArray) {pi po ps : Nat} (h : Pr pi po ps) : cst a b pi po ps ≤ cst a c pi po ps + cst c b pi po ps := pl_tri _ _ _ h _ a.size c.size b.size (Nat.le_refl _)
theorem cst_sym (a b : ByteArray) {pi po ps : Nat} (h : Pr pi po ps) : cst b a po pi ps = cst a b pi po ps := (pl_sym _ _ h _ a.size b.size (Nat.le_refl _)).1
theorem wys_sym (a b : ByteArray) {pi po ps : Nat} (h : Pr pi po ps) : wys b a po pi ps = wys a b pi po ps := (pl_sym _ _ h _ a.size b.size (Nat.le_refl _)).2
theorem wys_self (a : ByteArray) {pi po ps : Nat} (h : Pr pi po ps) (h1 : 1 ≤ pi) (h2 : 1 ≤ po) (h3 : 1 ≤ ps) : wys a a pi po ps = 1 := pl_self _ h h1 h2 h3 _ (by rw [bsN_length]; exact Nat.le_refl _)
theorem wys_pos (a b : ByteArray) {pi po ps : Nat} (h : Pr pi po ps) : 1 ≤ wys a b pi po ps := (pl_pos _ _ h _ _).2
theorem cst_zero (a b : ByteArray) {pi po ps : Nat} (h : Pr pi po ps) (h1 : 1 ≤ pi) (h2 : 1 ≤ po) (h3 : 1 ≤ ps) : cst a b pi po ps = 0 ↔ a = b := by
  have := pl_zero (bsN a) (bsN b) h h1 h2 h3 a.size b.size (by rw [bsN_length]; exact Nat.le_refl _) (by rw [bsN_length]; exact Nat.le_refl _)
  rw [List.take_of_length_le (by rw [bsN_length]; exact Nat.le_refl _), List.take_of_length_le (by rw [bsN_length]; exact Nat.le_refl _)] at this
  exact this.trans ⟨bsN_inj, fun e => by rw [e]⟩
theorem cst_mul (a b : ByteArray) {pi po ps m : Nat} (h : Pr pi po ps) (h' : Pr (pi * m) (po * m) (ps * m)) : cst a b (pi * m) (po * m) (ps * m) = cst a b pi po ps * (m : Int) := pl_mul _ _ h h' _ _ _ (Nat.le_refl _)

set_option maxHeartbeats 4000000 in
theorem EditsTriangle_walk (a b c : ByteArray) (pi po ps : Int) (_ : a.size ≤ maxLen) (_ : b.size ≤ maxLen) (_ : c.size ≤ maxLen) (_ : (Lit.int .i64 pi).wf = true) (_ : (Lit.int .i64 po).wf = true) (_ : (Lit.int .i64 ps).wf = true) (w : World) :
    Calls Try.prog 13 #[.string a, .string b, .string c, pv pi po ps] w fun e w' => e = .returned (.bool true) ∧ Below w.heap.size w w' := by
  have HAw := Lib.hid (fun W => awake_any W)
  have HF := Lib.hid (fun W => fine_any a b pi po ps W)
  have HL := Lib.hid (fun W => RLine_any c W)
  rw [fine_good] at HF
  obtain ⟨W0, hW0⟩ : ∃ W0, w.alloc (.cells #[.int .i64 pi, .int .i64 po, .int .i64 ps] 23) = W0 := ⟨_, rfl⟩
  have hB0 : Below w.heap.size w W0 := by rw [← hW0]; exact bl_al (Below.refl _ w) _
  have p0 : W0.cell? ⟨w.heap.size, 0, none⟩ = some (.int .i64 pi) := by rw [← hW0]; simp
  have p1 : W0.cell? ⟨w.heap.size, 1, none⟩ = some (.int .i64 po) := by rw [← hW0]; simp
  have p2 : W0.cell? ⟨w.heap.size, 2, none⟩ = some (.int .i64 ps) := by rw [← hW0]; simp
  have HB0 := Lib.hid hB0
  clear hB0
  cases hg : goodB a b pi po ps
  · rw [hg] at HF
    clear hg HL
    go_enter Try.func13, Try.ntmps13
    go_wp2_with fail
    try rw [hW0]
    refine (HF.out _).mono ?_
    rintro e u1 ⟨rfl, b1⟩
    replace p0 := cell_later b1 p0
    replace p1 := cell_later b1 p1
    replace p2 := cell_later b1 p2
    have B1 := Lib.hid (below_nx HB0.out b1)
    clear b1
    go_wp2_with fail
    refine (HAw.out _).mono ?_
    rintro e uz ⟨rfl, bz⟩
    go_wp2
    go_ret
    exact ⟨rfl, below_nx B1.out bz⟩
  · cases hc : lineB c
    · rw [hg] at HF
      rw [hc] at HL
      clear hg hc
      go_enter Try.func13, Try.ntmps13
      go_wp2_with fail
      try rw [hW0]
      refine (HF.out _).mono ?_
      rintro e u1 ⟨rfl, b1⟩
      replace p0 := cell_later b1 p0
      replace p1 := cell_later b1 p1
      replace p2 := cell_later b1 p2
      have B1 := Lib.hid (below_nx HB0.out b1)
      clear b1
      go_wp2_with fail
      refine (HL.out _).mono ?_
      rintro e u2 ⟨rfl, rfl⟩
      go_wp2_with fail
      refine (HAw.out _).mono ?_
      rintro e uz ⟨rfl, bz⟩
      go_wp2
      go_ret
      exact ⟨rfl, below_nx B1.out bz⟩
    · rw [hg] at HF
      rw [hc] at HL
      obtain ⟨g1, g2, g3⟩ := good_iff.1 hg
      obtain ⟨x, y, z, rfl, rfl, rfl, hp, _, _, _⟩ := priced_nat g1
      have HO := Lib.hid (fun W => Of_any x y z W)
      have H1 := Lib.hid (fun W => Cost_ok a b x y z hg W)
      have H2 := Lib.hid (fun W => Cost_ok a c x y z (good_iff.2 ⟨g1, g2, hc⟩) W)
      have H3 := Lib.hid (fun W => Cost_ok c b x y z (good_iff.2 ⟨g1, hc, g3⟩) W)
      have k1 := cst_bd hp g2 g3
      have k2 := cst_bd hp g2 hc
      have k3 := cst_bd hp hc g3
      have k4 := cst_tri a b c hp
      generalize cst a b x y z = X at *
      generalize cst a c x y z = Y at *
      generalize cst c b x y z = Z at *
      have hw : wrap64 (Y + Z) = Y + Z := by unfold wrap64; omega
      have hd : decide (X ≤ Y + Z) = true := decide_eq_true k4
      clear hg hc g1 g2 g3 hp
      go_enter Try.func13, Try.ntmps13
      go_wp2_with fail
      try rw [hW0]
      refine (HF.out _).mono ?_
      rintro e u1 ⟨rfl, b1⟩
      replace p0 := cell_later b1 p0
      replace p1 := cell_later b1 p1
      replace p2 := cell_later b1 p2
      have B1 := Lib.hid (below_nx HB0.out b1)
      clear b1
      go_wp2_with fail
      refine (HL.out _).mono ?_
      rintro e u2 ⟨rfl, rfl⟩
      go_wp2_with fail
      refine (HO.out _).mono ?_
      rintro e u3 ⟨rfl, b3⟩
      replace p0 := cell_later b3 p0
      replace p1 := cell_later b3 p1
      replace p2 := cell_later b3 p2
      have B3 := Lib.hid (below_nx B1.out b3)
      clear b3
      go_wp2_with fail
      refine (H1.out _).mono ?_
      rintro e u4 ⟨rfl, b4⟩
      replace p0 := cell_later b4 p0
      replace p1 := cell_later b4 p1
      replace p2 := cell_later b4 p2
      have B4 := Lib.hid (below_nx B3.out b4)
      clear b4
      go_wp2_with fail
      refine (HO.out _).mono ?_
      rintro e u5 ⟨rfl, b5⟩
      replace p0 := cell_later b5 p0
      replace p1 := cell_later b5 p1
      replace p2 := cell_later b5 p2
      have B5 := Lib.hid (below_nx B4.out b5)
      clear b5
      go_wp2_with fail
      refine (H2.out _).mono ?_
      rintro e u6 ⟨rfl, b6⟩
      replace p0 := cell_later b6 p0
      replace p1 := cell_later b6 p1
      replace p2 := cell_later b6 p2
      have B6 := Lib.hid (below_nx B5.out b6)
      clear b6
      go_wp2_with fail
      refine (HO.out _).mono ?_
      rintro e u7 ⟨rfl, b7⟩
      replace p0 := cell_later b7 p0
      replace p1 := cell_later b7 p1
      replace p2 := cell_later b7 p2
      have B7 := Lib.hid (below_nx B6.out b7)
      clear b7
      go_wp2_with fail
      refine (H3.out _).mono ?_
      rintro e u8 ⟨rfl, b8⟩
      replace p0 := cell_later b8 p0
      replace p1 := cell_later b8 p1
      replace p2 := cell_later b8 p2
      have B8 := Lib.hid (below_nx B7.out b8)
      clear b8
      go_wp2_with fail
      refine (HAw.out _).mono ?_
      rintro e uz ⟨rfl, bz⟩
      go_wp2
      go_ret
      exact ⟨rfl, below_nx B8.out bz⟩
end Go.Proofs.Ytkpmkeklopfhdaa
