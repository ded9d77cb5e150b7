/-
  Within where an argument is none; the reference's Within.
-/
import Derived.Test.YtkpmkeklopfhdaaEdRefC
import Derived.Test.YtkpmkeklopfhdaaEdWithin
namespace Go.Proofs.Ytkpmkeklopfhdaa
open Go.ChangeShapes Go.WideShapes Go.ChangeAt Go.RowKit
attribute [local go_sem] Oper.semAt_some
set_option linter.unusedVariables false
set_option maxRecDepth 100000

set_option maxHeartbeats 4000000 in
theorem RWithin_any (a : ByteArray) (pi po ps : Nat) (most : Int) (ss : List ByteArray) (v : Value) (ha : lineB a = true) (hp : pricedB pi po ps = true) (hn : ss.length ≤ 20) (hl : ss.all lineB = true) (w : World) (hv : StrsV w v ss) :
    Calls Try.prog 52 #[.string a, pv pi po ps, .int .i64 most, v] w fun e w' => ∃ v', e = .returned v' ∧ w'.ownsRow w.heap.size 3 1 v' (nearL a pi po ps most ss ss.length).length (ints (nearL a pi po ps most ss ss.length)) ∧ Below w.heap.size w w' := by
  obtain ⟨i0, hi, hz0, hz1, hz2⟩ := info_parts info_intE
  have ha' : a.size ≤ 12 := of_decide_eq_true ha
  have hq := (priced_iff _ _ _).1 hp
  have HC := Lib.hid (fun k (hk : k < ss.length) W => RCost_any a (strAt ss k) pi po ps ha' (by
    rw [List.all_eq_true] at hl
    have := of_decide_eq_true (hl _ (List.getElem_mem hk))
    unfold strAt; rw [List.getElem?_eq_getElem hk]; exact this) (by omega) (by omega) (by omega) W)
  have HV := Lib.hid hv
  have hv' := hv
  obtain ⟨ao, cap, rfl, hlc, hd⟩ := hv'
  obtain ⟨W0, hW0⟩ : ∃ W0, w.alloc (.cells #[.int .i64 (pi : Int), .int .i64 (po : Int), .int .i64 (ps : Int)] 23) = W0 := ⟨_, rfl⟩
  have hB0 : Below w.heap.size w W0 := by rw [← hW0]; exact bl_al (Below.refl _ w) _
  have p0 : W0.cell? ⟨w.heap.size, 0, none⟩ = some (.int .i64 (pi : Int)) := by rw [← hW0]; simp
  have p1 : W0.cell? ⟨w.heap.size, 1, none⟩ = some (.int .i64 (po : Int)) := by rw [← hW0]; simp
  have p2 : W0.cell? ⟨w.heap.size, 2, none⟩ = some (.int .i64 (ps : Int)) := by rw [← hW0]; simp
  have HB0 := Lib.hid hB0
  clear hB0 hv hl hp ha hq ha'
  have HD := Lib.hid hd
  clear hd
  go_enter Try.func52, Try.ntmps52
  go_wp2_with fail
  try rw [hW0]
  clear hW0
  obtain ⟨L, hL⟩ : ∃ L, W0.heap.size = L := ⟨_, rfl⟩
  have HL := Lib.hid hL
  have hbL : Below L W0 W0 := Below.refl _ _
  have hLL : L ≤ W0.heap.size := by omega
  have hown0 : W0.ownsRow L 3 1 (.slice none 0 0) (nearL a pi po ps most ss 0).length (ints (nearL a pi po ps most ss 0)) := ⟨rfl, Or.inl ⟨rfl, rfl⟩⟩
  clear hL
  go_loopw [9, 10, 11, 14] (fun nv _ _ i wr => ∃ k : Nat, k ≤ ss.length ∧ i = .int .i64 k ∧ wr.ownsRow L 3 1 nv (nearL a pi po ps most ss k).length (ints (nearL a pi po ps most ss k)) ∧ Below L W0 wr) (fun _ _ _ i _ => ss.length - (intOf i).toNat)
  case atStart => exact ⟨0, Nat.zero_le _, rfl, hown0, hbL⟩
  case round =>
    obtain ⟨k, hk, rfl, hown, hB⟩ := hrel
    by_cases hkl : k < ss.length
    · obtain ⟨b, off, rfl, hdd⟩ := HD.out (by omega)
      have c0 := hdd k hkl
      have hlt := World.block_lt_of_cell? _ _ c0
      have hBw := Lib.hid (HB0.out.trans (hB.mono (by have := HB0.out.size; have := HL.out; omega)) : Below w.heap.size w wr)
      have ck := cell_later hBw.out c0
      rw [show ss[k]?.getD { data := #[] } = strAt ss k from rfl] at ck
      replace p0 := cell_later (show Below W0.heap.size W0 wr by rw [HL.out]; exact hB) p0
      replace p1 := cell_later (show Below W0.heap.size W0 wr by rw [HL.out]; exact hB) p1
      replace p2 := cell_later (show Below W0.heap.size W0 wr by rw [HL.out]; exact hB) p2
      have HCk := Lib.hid (HC.out k hkl)
      have hks : k < 20 := by omega
      have HY := Lib.hid (fun h => near_yes (a := a) (pi := pi) (po := po) (ps := ps) (most := most) (ss := ss) (k := k) h)
      have HN := Lib.hid (fun h => near_no (a := a) (pi := pi) (po := po) (ps := ps) (most := most) (ss := ss) (k := k) h)
      have hnl := near_length a pi po ps most ss k
      have hsz : L ≤ wr.heap.size := by have := hB.size; have := HL.out; omega
      have hnb : nearB a pi po ps most ss k = decide (cst a (strAt ss k) pi po ps ≤ most) := rfl
      generalize strAt ss k = sk at ck HCk hnb
      obtain ⟨C, hC⟩ : ∃ C, cst a sk pi po ps = C := ⟨_, rfl⟩
      rw [hC] at HCk hnb
      clear hC hdd c0 hlt
      by_cases hle : C ≤ most
      · have HYk := Lib.hid (HY.out (by rw [hnb]; exact decide_eq_true hle))
        have hd1 : decide (C ≤ most) = true := decide_eq_true hle
        clear hnb HY HN
        go_wp2_with fail
        refine (HCk.out _).mono ?_
        rintro e w2 ⟨rfl, b2⟩
        have ho' := Lib.hid (owns_later hown b2)
        have hB2 := Lib.hid (hB.trans (b2.mono hsz |> fun h => h))
        have hs2 := b2.size
        clear hown hB b2
        go_wp2_with (at_builtin; refine wpList_append_own _ rfl _ _ 53 rfl L 3 i0 (.int .i64 0) 1 8 Try.underlying53 hi hz0 hz1 hz2 rfl (by decide) _ _ _ rfl (ho'.out.alloc _) ⟨w2.heap.size, 0, none⟩ 1 1 [.int .i64 (k : Int)] rfl rfl (cell_one_newE _ _ _) (by simp [Value.oneCell']) (by unfold maxLen; omega) (by omega) (by simp; omega) ?_; intro v' w1 hown1 hgrow1 hnil1)
        go_wp2
        go_roundw
        case rel => exact ⟨k + 1, by omega, by go_num, by rw [HYk.out]; simp only [List.length_append, List.length_singleton]; unfold ints at hown1 ⊢; rw [List.map_append]; exact hown1, ((hB2.out).alloc (by omega) _).grown hgrow1 (by simp; omega) (fun q e => (ho'.out.lt q e).1)⟩
        case measure => simp only [intOf]; omega
      · have HNk := Lib.hid (HN.out (by rw [hnb]; exact decide_eq_false hle))
        have hd1 : decide (C ≤ most) = false := decide_eq_false hle
        clear hnb HY HN
        go_wp2_with fail
        refine (HCk.out _).mono ?_
        rintro e w2 ⟨rfl, b2⟩
        have ho' := Lib.hid (owns_later hown b2)
        have hB2 := Lib.hid (hB.trans (b2.mono hsz |> fun h => h))
        clear hown hB b2
        go_wp2
        go_roundw
        case rel => exact ⟨k + 1, by omega, by go_num, by rw [HNk.out]; exact ho'.out, hB2.out⟩
        case measure => simp only [intOf]; omega
    · obtain rfl : k = ss.length := by omega
      have Ho := Lib.hid (own_weak hown (by have := HB0.out.size; have := HL.out; omega : w.heap.size ≤ L))
      have hBw := Lib.hid (HB0.out.trans (hB.mono (by have := HB0.out.size; have := HL.out; omega)) : Below w.heap.size w wr)
      clear hown hB
      go_wp2
      go_ret
      exact ⟨_, rfl, Ho.out, hBw.out⟩

set_option maxHeartbeats 2000000 in
theorem Within_b1 (a : ByteArray) (pi po ps most : Int) (ss : List ByteArray) (v : Value) (h : lineB a = false) (hl0 : ss.length ≤ maxLen) (w : World) (hv : StrsV w v ss) :
    Calls Try.prog 48 #[.string a, pv pi po ps, .int .i64 most, v] w fun e w' => e = .returned (.tuple #[.slice none 0 0, .int .i64 2]) ∧ Below w.heap.size w w' := by
  have HI := Lib.hid (fun W => isLine_any a W)
  have HP := Lib.hid (fun W => isPriced_any pi po ps W)
  have HA := Lib.hid (fun W hV => all_line ss hl0 v W hV)
  have HV := Lib.hid hv
  have hv' := hv
  obtain ⟨ao, cap, rfl, hlc, hd⟩ := hv'
  clear hd hv
  have HB := Lib.hid ((Below.refl w.heap.size w).alloc (Nat.le_refl _) (.cells #[.int .i64 pi, .int .i64 po, .int .i64 ps] 28))
  rw [h] at HI
  clear h HP HA
  go_enter Try.func48, Try.ntmps48
  go_wp2_with fail
  refine (HI.out _).mono ?_
  rintro e u0 ⟨rfl, rfl⟩
  go_wp2
  go_ret2
  exact ⟨rfl, HB.out⟩

set_option maxHeartbeats 2000000 in
theorem Within_b2 (a : ByteArray) (pi po ps most : Int) (ss : List ByteArray) (v : Value) (h0 : lineB a = true) (h : pricedB pi po ps = false) (hl0 : ss.length ≤ maxLen) (w : World) (hv : StrsV w v ss) :
    Calls Try.prog 48 #[.string a, pv pi po ps, .int .i64 most, v] w fun e w' => e = .returned (.tuple #[.slice none 0 0, .int .i64 2]) ∧ Below w.heap.size w w' := by
  have HI := Lib.hid (fun W => isLine_any a W)
  have HP := Lib.hid (fun W => isPriced_any pi po ps W)
  have HA := Lib.hid (fun W hV => all_line ss hl0 v W hV)
  have HV := Lib.hid hv
  have hv' := hv
  obtain ⟨ao, cap, rfl, hlc, hd⟩ := hv'
  clear hd hv
  have HB := Lib.hid ((Below.refl w.heap.size w).alloc (Nat.le_refl _) (.cells #[.int .i64 pi, .int .i64 po, .int .i64 ps] 28))
  rw [h0] at HI
  rw [h] at HP
  clear h0 h HA
  go_enter Try.func48, Try.ntmps48
  go_wp2_with fail
  refine (HI.out _).mono ?_
  rintro e u0 ⟨rfl, rfl⟩
  go_wp2_with fail
  refine (HP.out _).mono ?_
  rintro e w1 ⟨rfl, b1⟩
  have B1 := Lib.hid (below_nx HB.out b1)
  have HV1 := Lib.hid (HV.out.later B1.out)
  clear b1
  go_wp2
  go_ret2
  exact ⟨rfl, B1.out⟩

set_option maxHeartbeats 2000000 in
theorem Within_b3 (a : ByteArray) (pi po ps most : Int) (ss : List ByteArray) (v : Value) (h0 : lineB a = true) (h1 : pricedB pi po ps = true) (h : most < 0) (hl0 : ss.length ≤ maxLen) (w : World) (hv : StrsV w v ss) :
    Calls Try.prog 48 #[.string a, pv pi po ps, .int .i64 most, v] w fun e w' => e = .returned (.tuple #[.slice none 0 0, .int .i64 2]) ∧ Below w.heap.size w w' := by
  have HI := Lib.hid (fun W => isLine_any a W)
  have HP := Lib.hid (fun W => isPriced_any pi po ps W)
  have HA := Lib.hid (fun W hV => all_line ss hl0 v W hV)
  have HV := Lib.hid hv
  have hv' := hv
  obtain ⟨ao, cap, rfl, hlc, hd⟩ := hv'
  clear hd hv
  have HB := Lib.hid ((Below.refl w.heap.size w).alloc (Nat.le_refl _) (.cells #[.int .i64 pi, .int .i64 po, .int .i64 ps] 28))
  rw [h0] at HI
  rw [h1] at HP
  clear h0 h1 HA
  go_enter Try.func48, Try.ntmps48
  go_wp2_with fail
  refine (HI.out _).mono ?_
  rintro e u0 ⟨rfl, rfl⟩
  go_wp2_with fail
  refine (HP.out _).mono ?_
  rintro e w1 ⟨rfl, b1⟩
  have B1 := Lib.hid (below_nx HB.out b1)
  have HV1 := Lib.hid (HV.out.later B1.out)
  clear b1
  go_wp2
  go_ret2
  exact ⟨rfl, B1.out⟩

set_option maxHeartbeats 2000000 in
theorem Within_b4 (a : ByteArray) (pi po ps most : Int) (ss : List ByteArray) (v : Value) (h0 : lineB a = true) (h1 : pricedB pi po ps = true) (h2 : ¬ most < 0) (h : 100 < most) (hl0 : ss.length ≤ maxLen) (w : World) (hv : StrsV w v ss) :
    Calls Try.prog 48 #[.string a, pv pi po ps, .int .i64 most, v] w fun e w' => e = .returned (.tuple #[.slice none 0 0, .int .i64 2]) ∧ Below w.heap.size w w' := by
  have HI := Lib.hid (fun W => isLine_any a W)
  have HP := Lib.hid (fun W => isPriced_any pi po ps W)
  have HA := Lib.hid (fun W hV => all_line ss hl0 v W hV)
  have HV := Lib.hid hv
  have hv' := hv
  obtain ⟨ao, cap, rfl, hlc, hd⟩ := hv'
  clear hd hv
  have HB := Lib.hid ((Below.refl w.heap.size w).alloc (Nat.le_refl _) (.cells #[.int .i64 pi, .int .i64 po, .int .i64 ps] 28))
  rw [h0] at HI
  rw [h1] at HP
  clear h0 h1 HA
  go_enter Try.func48, Try.ntmps48
  go_wp2_with fail
  refine (HI.out _).mono ?_
  rintro e u0 ⟨rfl, rfl⟩
  go_wp2_with fail
  refine (HP.out _).mono ?_
  rintro e w1 ⟨rfl, b1⟩
  have B1 := Lib.hid (below_nx HB.out b1)
  have HV1 := Lib.hid (HV.out.later B1.out)
  clear b1
  go_wp2
  go_ret2
  exact ⟨rfl, B1.out⟩

set_option maxHeartbeats 2000000 in
theorem Within_b5 (a : ByteArray) (pi po ps most : Int) (ss : List ByteArray) (v : Value) (h0 : lineB a = true) (h1 : pricedB pi po ps = true) (h2 : ¬ most < 0) (h3 : ¬ 100 < most) (h : 20 < ss.length) (hl0 : ss.length ≤ maxLen) (w : World) (hv : StrsV w v ss) :
    Calls Try.prog 48 #[.string a, pv pi po ps, .int .i64 most, v] w fun e w' => e = .returned (.tuple #[.slice none 0 0, .int .i64 2]) ∧ Below w.heap.size w w' := by
  have HI := Lib.hid (fun W => isLine_any a W)
  have HP := Lib.hid (fun W => isPriced_any pi po ps W)
  have HA := Lib.hid (fun W hV => all_line ss hl0 v W hV)
  have HV := Lib.hid hv
  have hv' := hv
  obtain ⟨ao, cap, rfl, hlc, hd⟩ := hv'
  clear hd hv
  have HB := Lib.hid ((Below.refl w.heap.size w).alloc (Nat.le_refl _) (.cells #[.int .i64 pi, .int .i64 po, .int .i64 ps] 28))
  rw [h0] at HI
  rw [h1] at HP
  have h4 : (20 : Int) < (ss.length : Int) := by omega
  clear h0 h1 h HA
  go_enter Try.func48, Try.ntmps48
  go_wp2_with fail
  refine (HI.out _).mono ?_
  rintro e u0 ⟨rfl, rfl⟩
  go_wp2_with fail
  refine (HP.out _).mono ?_
  rintro e w1 ⟨rfl, b1⟩
  have B1 := Lib.hid (below_nx HB.out b1)
  have HV1 := Lib.hid (HV.out.later B1.out)
  clear b1
  go_wp2
  go_ret2
  exact ⟨rfl, B1.out⟩

set_option maxHeartbeats 2000000 in
theorem Within_b6 (a : ByteArray) (pi po ps most : Int) (ss : List ByteArray) (v : Value) (h0 : lineB a = true) (h1 : pricedB pi po ps = true) (h2 : ¬ most < 0) (h3 : ¬ 100 < most) (h5 : ¬ 20 < ss.length) (h : ss.all lineB = false) (hl0 : ss.length ≤ maxLen) (w : World) (hv : StrsV w v ss) :
    Calls Try.prog 48 #[.string a, pv pi po ps, .int .i64 most, v] w fun e w' => e = .returned (.tuple #[.slice none 0 0, .int .i64 2]) ∧ Below w.heap.size w w' := by
  have HI := Lib.hid (fun W => isLine_any a W)
  have HP := Lib.hid (fun W => isPriced_any pi po ps W)
  have HA := Lib.hid (fun W hV => all_line ss hl0 v W hV)
  have HV := Lib.hid hv
  have hv' := hv
  obtain ⟨ao, cap, rfl, hlc, hd⟩ := hv'
  clear hd hv
  have HB := Lib.hid ((Below.refl w.heap.size w).alloc (Nat.le_refl _) (.cells #[.int .i64 pi, .int .i64 po, .int .i64 ps] 28))
  rw [h0] at HI
  rw [h1] at HP
  rw [h] at HA
  have h4 : ¬ (20 : Int) < (ss.length : Int) := by omega
  clear h0 h1 h5 h
  go_enter Try.func48, Try.ntmps48
  go_wp2_with fail
  refine (HI.out _).mono ?_
  rintro e u0 ⟨rfl, rfl⟩
  go_wp2_with fail
  refine (HP.out _).mono ?_
  rintro e w1 ⟨rfl, b1⟩
  have B1 := Lib.hid (below_nx HB.out b1)
  have HV1 := Lib.hid (HV.out.later B1.out)
  clear b1
  go_wp2_with fail
  refine (HA.out _ HV1.out).mono ?_
  rintro e u2 ⟨rfl, rfl⟩
  go_wp2
  go_ret2
  exact ⟨rfl, B1.out⟩

/-- Whether the arguments are those of Within. -/
def wgood (a : ByteArray) (pi po ps most : Int) (ss : List ByteArray) : Prop := lineB a = true ∧ pricedB pi po ps = true ∧ 0 ≤ most ∧ most ≤ 100 ∧ ss.length ≤ 20 ∧ ss.all lineB = true
theorem Within_bad (a : ByteArray) (pi po ps most : Int) (ss : List ByteArray) (v : Value) (h : ¬ wgood a pi po ps most ss) (hl0 : ss.length ≤ maxLen) (w : World) (hv : StrsV w v ss) :
    Calls Try.prog 48 #[.string a, pv pi po ps, .int .i64 most, v] w fun e w' => e = .returned (.tuple #[.slice none 0 0, .int .i64 2]) ∧ Below w.heap.size w w' := by
  cases h1 : lineB a
  · exact Within_b1 a pi po ps most ss v h1 hl0 w hv
  cases h2 : pricedB pi po ps
  · exact Within_b2 a pi po ps most ss v h1 h2 hl0 w hv
  by_cases h3 : most < 0
  · exact Within_b3 a pi po ps most ss v h1 h2 h3 hl0 w hv
  by_cases h4 : 100 < most
  · exact Within_b4 a pi po ps most ss v h1 h2 h3 h4 hl0 w hv
  by_cases h5 : 20 < ss.length
  · exact Within_b5 a pi po ps most ss v h1 h2 h3 h4 h5 hl0 w hv
  cases h6 : ss.all lineB
  · exact Within_b6 a pi po ps most ss v h1 h2 h3 h4 h5 h6 hl0 w hv
  · exact absurd ⟨h1, h2, by omega, by omega, by omega, h6⟩ h
end Go.Proofs.Ytkpmkeklopfhdaa
