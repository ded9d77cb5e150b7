/-
  Check and Apply.
-/
import Derived.Test.YtkpmkeklopfhdaaEdRun
import Derived.Test.YtkpmkeklopfhdaaEdTriLaw
namespace Go.Proofs.Ytkpmkeklopfhdaa
open Go.ChangeShapes Go.WideShapes Go.ChangeAt Go.RowKit
set_option linter.unusedVariables false
set_option maxRecDepth 100000

/-- What edits cost. -/
def sumP (pi po ps : Nat) (es : List (Int × Int)) : Int := (es.map fun e => ((prc pi po ps e.1.toNat : Nat) : Int)).sum
/-- Whether edits are a script from a line to another one, and its cost. -/
def chkB (a b : ByteArray) (es : List (Int × Int)) : Bool := (runR es a).2 && ((runR es a).1.toList == b.toList)
def chkC (a b : ByteArray) (pi po ps : Nat) (es : List (Int × Int)) : Int := if chkB a b es = true then sumP pi po ps es else 0
theorem sumP_take {pi po ps : Nat} {es : List (Int × Int)} {k : Nat} (h : k < es.length) : sumP pi po ps (es.take (k + 1)) = sumP pi po ps (es.take k) + ((prc pi po ps es[k].1.toNat : Nat) : Int) := by
  unfold sumP
  rw [List.take_succ_eq_append_getElem h, List.map_append, List.sum_append]
  simp
theorem prcE_le {pi po ps : Nat} (h1 : pi ≤ 9) (h2 : po ≤ 9) (h3 : ps ≤ 9) (k : Nat) : prc pi po ps k ≤ 9 := by unfold prc; (repeat' split) <;> omega
theorem sumP_bd {pi po ps : Nat} (h1 : pi ≤ 9) (h2 : po ≤ 9) (h3 : ps ≤ 9) : ∀ es : List (Int × Int), 0 ≤ sumP pi po ps es ∧ sumP pi po ps es ≤ 9 * (es.length : Int)
  | [] => by simp [sumP]
  | e :: l => by
    have ih := sumP_bd h1 h2 h3 l
    have hp := prcE_le h1 h2 h3 e.1.toNat
    unfold sumP at ih ⊢
    simp only [List.map_cons, List.sum_cons, List.length_cons]
    omega
theorem add_small {Z : Int} {P k : Nat} (h1 : 0 ≤ Z) (h2 : Z ≤ 9 * (k : Int)) (h3 : P ≤ 9) (h4 : k ≤ 4096) : IntKind.i64.wrap (Z + (P : Int)) = Z + (P : Int) ∧ wrap64 (Z + (P : Int)) = Z + (P : Int) :=
  ⟨IntWalk.i64_in _ (by omega), by unfold wrap64; omega⟩
theorem meas_e {n k : Nat} (h : k < n) : n - (intOf (.int .i64 ((k : Int) + 1))).toNat < n - (intOf (.int .i64 (k : Int))).toNat := by simp only [intOf]; omega
theorem runR_all {es : List (Int × Int)} {line : ByteArray} (h : (runR es line).2 = true) : es.all editP = true := by
  cases h2 : es.all editP
  · rw [runR_bad h2] at h; cases h
  · rfl

set_option maxHeartbeats 4000000 in
theorem Check_ok (a b : ByteArray) (pi po ps : Nat) (h : goodB a b pi po ps = true) (es : List (Int × Int)) (hl : es.length ≤ 4096) (v : Value) (w : World) (hv : EdsV w v es) :
    Calls Try.prog 27 #[.string a, .string b, pv pi po ps, v] w fun e w' => e = .returned (.tuple #[.int .i64 (chkC a b pi po ps es), .bool (chkB a b es), .int .i64 0]) ∧ Below w.heap.size w w' := by
  unfold goodB at h
  rw [Bool.and_eq_true, Bool.and_eq_true] at h
  obtain ⟨h1, h2, h3⟩ := h
  obtain ⟨⟨_, q1⟩, ⟨_, q2⟩, _, q3⟩ := (priced_iff _ _ _).1 h1
  have ha : a.size ≤ 12 := of_decide_eq_true h2
  have hb : b.size ≤ 12 := of_decide_eq_true h3
  have HP := Lib.hid (fun W => isPriced_any pi po ps W)
  have HA := Lib.hid (fun W v hv => all_line [a, b] (by unfold maxLen; simp) v W hv)
  rw [show [a, b].all lineB = true by simp [h2, h3]] at HA
  rw [h1] at HP
  have HRun := Lib.hid (fun W hV => run_any a es hl v W hV)
  have hpi9 : pi ≤ 9 := by omega
  have hpo9 : po ≤ 9 := by omega
  have hps9 : ps ≤ 9 := by omega
  have HVe := Lib.hid hv
  have HB := Lib.hid ((Below.refl w.heap.size w).alloc (Nat.le_refl _) (.cells #[.int .i64 (pi : Int), .int .i64 (po : Int), .int .i64 (ps : Int)] 28))
  clear h1 h2 h3 ha hb
  obtain ⟨W0, hW0⟩ : ∃ W0, w.alloc (.cells #[.int .i64 (pi : Int), .int .i64 (po : Int), .int .i64 (ps : Int)] 28) = W0 := ⟨_, rfl⟩
  have p0 : W0.cell? ⟨w.heap.size, 0, none⟩ = some (.int .i64 (pi : Int)) := by rw [← hW0]; simp
  have p1 : W0.cell? ⟨w.heap.size, 1, none⟩ = some (.int .i64 (po : Int)) := by rw [← hW0]; simp
  have p2 : W0.cell? ⟨w.heap.size, 2, none⟩ = some (.int .i64 (ps : Int)) := by rw [← hW0]; simp
  rw [hW0] at HB
  go_enter Try.func27, Try.ntmps27
  go_wp2_with fail
  refine (HP.out _).mono ?_
  rintro e w1 ⟨rfl, b1⟩
  try rw [hW0] at b1
  have B1 := Lib.hid (below_nx HB.out b1)
  have p0 := cell_later b1 p0
  have p1 := cell_later b1 p1
  have p2 := cell_later b1 p2
  have HV := Lib.hid (strs2 w1 a b 9)
  clear b1 hW0
  go_wp2_with fail
  refine (HA.out _ _ HV.out).mono ?_
  rintro e w2 ⟨rfl, rfl⟩
  have bl1 : Below w1.heap.size w1 (w1.alloc (.cells #[.string a, .string b] 9)) := bl_al (Below.refl _ _) _
  have p0 := cell_later bl1 p0
  have p1 := cell_later bl1 p1
  have p2 := cell_later bl1 p2
  have B2 := Lib.hid (bl_al B1.out (.cells #[.string a, .string b] 9))
  clear bl1
  generalize w1.alloc (.cells #[.string a, .string b] 9) = w3 at p0 p1 p2 B2 ⊢
  have HVw := Lib.hid (HVe.out.later B2.out)
  have HRw := Lib.hid (HRun.out _ HVw.out)
  obtain ⟨ao, cap, rfl, hlc, hd⟩ := hv
  have HD := Lib.hid hd
  clear hd HRun
  have HCk := Lib.hid (show chkB a b es = ((runR es a).2 && ((runR es a).1.toList == b.toList)) from rfl)
  have HCc := Lib.hid (show chkC a b pi po ps es = if chkB a b es = true then sumP pi po ps es else 0 from rfl)
  have HAll := Lib.hid (fun (h : (runR es a).2 = true) => runR_all h)
  obtain ⟨r1, hr1⟩ : ∃ r, (runR es a).1 = r := ⟨_, rfl⟩
  obtain ⟨r2, hr2⟩ : ∃ r, (runR es a).2 = r := ⟨_, rfl⟩
  rw [hr1, hr2] at HRw HCk
  rw [hr2] at HAll
  clear hr1 hr2
  go_wp2_with fail
  refine HRw.out.mono ?_
  rintro e w4 ⟨rfl, b4⟩
  replace p0 := cell_later b4 p0
  replace p1 := cell_later b4 p1
  replace p2 := cell_later b4 p2
  have B4 := Lib.hid (below_nx B2.out b4)
  clear b4
  cases r2
  · have HR := Lib.hid (show chkB a b es = false from HCk.out.trans rfl)
    have HR2 := Lib.hid (show chkC a b pi po ps es = 0 by rw [HCc.out, HR.out]; rfl)
    clear HCk HCc
    go_wp2
    go_ret3
    exact ⟨by rw [HR.out, HR2.out]; rfl, B4.out⟩
  · cases hq : (r1.toList == b.toList)
    · have HR := Lib.hid (show chkB a b es = false from HCk.out.trans (by rw [hq]; rfl))
      have HR2 := Lib.hid (show chkC a b pi po ps es = 0 by rw [HCc.out, HR.out]; rfl)
      clear HCk HCc
      go_wp2
      go_ret3
      exact ⟨by rw [HR.out, HR2.out]; rfl, B4.out⟩
    · have HR := Lib.hid (show chkB a b es = true from HCk.out.trans (by rw [hq]; rfl))
      have HR2 := Lib.hid (show chkC a b pi po ps es = sumP pi po ps es by rw [HCc.out, HR.out]; rfl)
      have HE := Lib.hid (List.all_eq_true.1 (HAll.out rfl))
      clear HCk HCc HAll
      go_wp2_with fail
      go_loopw [13, 15, 41] (fun cv _ i wr => ∃ k : Nat, k ≤ es.length ∧ i = .int .i64 k ∧ cv = .int .i64 (sumP pi po ps (es.take k)) ∧ Below w4.heap.size w4 wr) (fun _ _ i _ => es.length - (intOf i).toNat)
      case atStart => exact ⟨0, Nat.zero_le _, rfl, rfl, Below.refl _ _⟩
      case round =>
        obtain ⟨k, hk, rfl, rfl, hB⟩ := hrel
        have HBr := Lib.hid (below_nx B4.out hB)
        have HB4 := Lib.hid hB
        by_cases hlk : k < es.length
        · obtain ⟨b0, off, rfl, hdd⟩ := HD.out (by omega)
          have ck := (hdd k hlk).1
          have ck2 := (hdd k hlk).2
          have hge : es[k]?.getD (0, 0) = es[k] := by rw [List.getElem?_eq_getElem hlk]; rfl
          rw [hge] at ck ck2
          replace ck := cell_later HBr.out ck
          replace ck2 := cell_later HBr.out ck2
          replace p0 := cell_later hB p0
          replace p1 := cell_later hB p1
          replace p2 := cell_later hB p2
          have hkd := editP_kind (HE.out _ (List.getElem_mem hlk))
          have hs := sumP_take (pi := pi) (po := po) (ps := ps) hlk
          obtain ⟨hb1, hb2⟩ := sumP_bd hpi9 hpo9 hps9 (es.take k)
          rw [List.length_take, Nat.min_eq_left hk] at hb2
          clear hge hdd hB
          generalize es[k] = x at ck ck2 hkd hs
          obtain ⟨x1, x2⟩ := x
          simp only [] at ck ck2 hkd hs
          obtain ⟨q, rfl, hq4⟩ : ∃ q : Nat, x1 = q ∧ q < 4 := ⟨x1.toNat, by omega, by omega⟩
          rw [Int.toNat_natCast] at hs
          have hpr := prcE_le hpi9 hpo9 hps9 q
          have HPr := Lib.hid (fun W => price_any q hq4 x2 pi po ps W)
          clear hkd
          obtain ⟨P, hP⟩ : ∃ P, prc pi po ps q = P := ⟨_, rfl⟩
          rw [hP] at hs hpr HPr
          obtain ⟨Z, hZ⟩ : ∃ Z, sumP pi po ps (es.take k) = Z := ⟨_, rfl⟩
          rw [hZ] at hs hb1 hb2
          rw [hZ]
          have HSn := Lib.hid hs
          obtain ⟨w1, w2⟩ := add_small hb1 hb2 hpr (Nat.le_of_lt (Nat.lt_of_lt_of_le hlk hl))
          have ba := (Below.refl wr.heap.size wr).alloc (Nat.le_refl _) (.cells #[.int .i64 (q : Int), .int .i64 x2] 77)
          have q0 := cell_later ba p0
          have q1 := cell_later ba p1
          have q2 := cell_later ba p2
          have hHw : w.heap.size < wr.heap.size := World.block_lt_of_cell? _ _ p0
          clear hP hZ hs ba
          go_wp2_with fail
          refine (HPr.out _).mono ?_
          rintro e w5 ⟨rfl, b5⟩
          have B5 := Lib.hid (HB4.out.trans ((below_nx ((Below.refl _ wr).alloc (Nat.le_refl _) (.cells #[.int .i64 (q : Int), .int .i64 x2] 77)) b5).mono HB4.out.size))
          clear b5
          go_wp2
          go_roundw
          case rel => exact ⟨k + 1, hlk, by go_num, by rw [HSn.out], B5.out⟩
          case measure => exact meas_e hlk
        · obtain rfl : k = es.length := by omega
          have HT := Lib.hid (show sumP pi po ps (es.take es.length) = sumP pi po ps es by rw [List.take_length])
          clear hB
          go_wp2
          go_ret3
          exact ⟨by rw [HR.out, HR2.out, ← HT.out]; rfl, HBr.out⟩

set_option maxHeartbeats 2000000 in
theorem Check_bad (a b : ByteArray) (pi po ps : Int) (v : Value) (h : goodB a b pi po ps = false) (w : World) :
    Calls Try.prog 27 #[.string a, .string b, pv pi po ps, v] w fun e w' => e = .returned (.tuple #[.int .i64 0, .bool false, .int .i64 2]) ∧ Below w.heap.size w w' := by
  have HP := Lib.hid (fun W => isPriced_any pi po ps W)
  have HA := Lib.hid (fun W v hv => all_line [a, b] (by unfold maxLen; simp) v W hv)
  have HB := Lib.hid ((Below.refl w.heap.size w).alloc (Nat.le_refl _) (.cells #[.int .i64 pi, .int .i64 po, .int .i64 ps] 28))
  cases h1 : pricedB pi po ps
  · rw [h1] at HP
    clear h h1 HA
    go_enter Try.func27, Try.ntmps27
    go_wp2_with fail
    refine (HP.out _).mono ?_
    rintro e w1 ⟨rfl, b1⟩
    have B1 := Lib.hid (below_nx HB.out b1)
    clear b1
    go_wp2
    go_ret3
    exact ⟨rfl, B1.out⟩
  · have h2 : [a, b].all lineB = false := by unfold goodB at h; rw [h1] at h; simpa using h
    rw [h1] at HP
    rw [h2] at HA
    clear h h1 h2
    go_enter Try.func27, Try.ntmps27
    go_wp2_with fail
    refine (HP.out _).mono ?_
    rintro e w1 ⟨rfl, b1⟩
    have B1 := Lib.hid (below_nx HB.out b1)
    have HV := Lib.hid (strs2 w1 a b 9)
    clear b1
    go_wp2_with fail
    refine (HA.out _ _ HV.out).mono ?_
    rintro e w2 ⟨rfl, rfl⟩
    have B2 := Lib.hid (bl_al B1.out (.cells #[.string a, .string b] 9))
    go_wp2
    go_ret3
    exact ⟨rfl, B2.out⟩

set_option maxHeartbeats 2000000 in
theorem Apply_line (a : ByteArray) (es : List (Int × Int)) (hl : es.length ≤ 4096) (h1 : lineB a = false) (v : Value) (w : World) (hv : EdsV w v es) :
    Calls Try.prog 29 #[.string a, v] w fun e w' => e = .returned (.tuple #[.string noS, .int .i64 2]) ∧ Below w.heap.size w w' := by
  have HI := Lib.hid (fun W => isLine_any a W)
  have HR := Lib.hid (run_any a es hl v w hv)
  obtain ⟨ao, cap, rfl, hlc, hd⟩ := hv
  clear hd
  rw [h1] at HI
  clear h1 HR
  go_enter Try.func29, Try.ntmps29
  go_wp2_with fail
  refine (HI.out _).mono ?_
  rintro e u0 ⟨rfl, rfl⟩
  go_wp2
  go_ret2
  exact ⟨rfl, Below.refl _ _⟩
set_option maxHeartbeats 2000000 in
theorem Apply_long (a : ByteArray) (es : List (Int × Int)) (hl : es.length ≤ 4096) (h1 : lineB a = true) (h2 : 24 < es.length) (v : Value) (w : World) (hv : EdsV w v es) :
    Calls Try.prog 29 #[.string a, v] w fun e w' => e = .returned (.tuple #[.string noS, .int .i64 2]) ∧ Below w.heap.size w w' := by
  have HI := Lib.hid (fun W => isLine_any a W)
  have HR := Lib.hid (run_any a es hl v w hv)
  obtain ⟨ao, cap, rfl, hlc, hd⟩ := hv
  clear hd
  rw [h1] at HI
  have h3 : (24 : Int) < (es.length : Int) := by omega
  clear h1 h2 HR
  go_enter Try.func29, Try.ntmps29
  go_wp2_with fail
  refine (HI.out _).mono ?_
  rintro e u0 ⟨rfl, rfl⟩
  go_wp2
  go_ret2
  exact ⟨rfl, Below.refl _ _⟩
set_option maxHeartbeats 2000000 in
theorem Apply_none (a : ByteArray) (es : List (Int × Int)) (hl : es.length ≤ 4096) (h1 : lineB a = true) (h2 : es.length ≤ 24) (h4 : (runR es a).2 = false) (v : Value) (w : World) (hv : EdsV w v es) :
    Calls Try.prog 29 #[.string a, v] w fun e w' => e = .returned (.tuple #[.string noS, .int .i64 4]) ∧ Below w.heap.size w w' := by
  have HI := Lib.hid (fun W => isLine_any a W)
  have HR := Lib.hid (run_any a es hl v w hv)
  obtain ⟨ao, cap, rfl, hlc, hd⟩ := hv
  clear hd
  rw [h1] at HI
  have h3 : ¬ (24 : Int) < (es.length : Int) := by omega
  obtain ⟨r1, hr1⟩ : ∃ r, (runR es a).1 = r := ⟨_, rfl⟩
  rw [hr1, h4] at HR
  have HX := Lib.hid hr1
  clear h1 h2 h4 hr1
  go_enter Try.func29, Try.ntmps29
  go_wp2_with fail
  refine (HI.out _).mono ?_
  rintro e u0 ⟨rfl, rfl⟩
  go_wp2_with fail
  refine HR.out.mono ?_
  rintro e u1 ⟨rfl, b1⟩
  go_wp2
  go_ret2
  exact ⟨rfl, b1⟩
set_option maxHeartbeats 2000000 in
theorem Apply_ok (a : ByteArray) (es : List (Int × Int)) (hl : es.length ≤ 4096) (h1 : lineB a = true) (h2 : es.length ≤ 24) (h4 : (runR es a).2 = true) (v : Value) (w : World) (hv : EdsV w v es) :
    Calls Try.prog 29 #[.string a, v] w fun e w' => e = .returned (.tuple #[.string (runR es a).1, .int .i64 0]) ∧ Below w.heap.size w w' := by
  have HI := Lib.hid (fun W => isLine_any a W)
  have HR := Lib.hid (run_any a es hl v w hv)
  obtain ⟨ao, cap, rfl, hlc, hd⟩ := hv
  clear hd
  rw [h1] at HI
  have h3 : ¬ (24 : Int) < (es.length : Int) := by omega
  obtain ⟨r1, hr1⟩ : ∃ r, (runR es a).1 = r := ⟨_, rfl⟩
  rw [hr1, h4] at HR
  have HX := Lib.hid hr1
  clear h1 h2 h4 hr1
  go_enter Try.func29, Try.ntmps29
  go_wp2_with fail
  refine (HI.out _).mono ?_
  rintro e u0 ⟨rfl, rfl⟩
  go_wp2_with fail
  refine HR.out.mono ?_
  rintro e u1 ⟨rfl, b1⟩
  go_wp2
  go_ret2
  exact ⟨by rw [HX.out]; rfl, b1⟩
end Go.Proofs.Ytkpmkeklopfhdaa
