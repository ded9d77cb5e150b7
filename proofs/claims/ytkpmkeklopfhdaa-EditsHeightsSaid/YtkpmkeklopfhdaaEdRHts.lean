/-
  The reference's Heights: it says what the program's check says.
-/
import Derived.Test.YtkpmkeklopfhdaaEdBndLaw
import Derived.Test.YtkpmkeklopfhdaaEdRDoneW
namespace Go.Proofs.Ytkpmkeklopfhdaa
open Go.ChangeShapes Go.WideShapes Go.ChangeAt Go.RowKit
set_option linter.unusedVariables false
set_option maxRecDepth 100000

theorem okP_iff (A B : List Nat) (pi po ps : Nat) (t : List (List Int)) (i j : Nat) : okP A B pi po ps t (i, j) = true ↔ (i < A.length → ht t (i + 1) j ≤ ht t i j + (po : Int)) ∧ (j < B.length → ht t i (j + 1) ≤ ht t i j + (pi : Int)) ∧ (i < A.length → j < B.length → ht t (i + 1) (j + 1) ≤ ht t i j + (if atB A i = atB B j then 0 else (ps : Int))) := by
  unfold okP
  simp only []
  rw [nextL_eq, List.all_append, List.all_append]
  unfold okE
  by_cases h1 : i < A.length <;> by_cases h2 : j < B.length <;> by_cases h3 : atB A i = atB B j <;> simp [h1, h2, h3, prc] <;> omega
theorem hb_len {A B : List Nat} {pi po ps : Nat} {t : List (List Int)} (h : t.length ≠ A.length + 1) : heightsB A B pi po ps t = false := by unfold heightsB; rw [decide_eq_false h]; rfl
theorem hb_row {A B : List Nat} {pi po ps : Nat} {t : List (List Int)} {k : Nat} (hk : k < t.length) (h : hrowB B.length t[k] = false) : heightsB A B pi po ps t = false := by
  unfold heightsB
  have : t.all (hrowB B.length) = false := by
    rw [List.all_eq_false]
    exact ⟨_, List.getElem_mem hk, by rw [h]; simp⟩
  rw [this, Bool.false_and, Bool.and_false]
theorem hb_pair {A B : List Nat} {pi po ps : Nat} {t : List (List Int)} {i j : Nat} (hi : i ≤ A.length) (hj : j ≤ B.length) (h : ¬ okP A B pi po ps t (i, j) = true) : heightsB A B pi po ps t = false := by
  unfold heightsB
  have : (pairs A.length B.length).all (okP A B pi po ps t) = false := by
    rw [List.all_eq_false]
    exact ⟨_, pairs_mem hi hj, h⟩
  rw [this, Bool.and_false, Bool.and_false, Bool.and_false]
theorem hb_end {A B : List Nat} {pi po ps : Nat} {t : List (List Int)} (h1 : t.length = A.length + 1) (h2 : t.all (hrowB B.length) = true) (h3 : ∀ i j, i ≤ A.length → j ≤ B.length → okP A B pi po ps t (i, j) = true) : heightsB A B pi po ps t = decide (ht t 0 0 = 0) := by
  unfold heightsB
  have : (pairs A.length B.length).all (okP A B pi po ps t) = true := by
    rw [List.all_eq_true]
    intro p hp
    unfold pairs at hp
    obtain ⟨i, hi, hp⟩ := List.mem_flatMap.1 hp
    obtain ⟨j, hj, rfl⟩ := List.mem_map.1 hp
    exact h3 i j (by have := List.mem_range.1 hi; omega) (by have := List.mem_range.1 hj; omega)
  rw [decide_eq_true h1, h2, this, Bool.and_true, Bool.true_and, Bool.true_and]
theorem take_all {α : Type} {l : List α} {p : α → Bool} {k : Nat} (hk : k < l.length) : (l.take (k + 1)).all p = ((l.take k).all p && p l[k]) := by
  rw [List.take_succ_eq_append_getElem hk, List.all_append]; simp
theorem ix_byteH (s : ByteArray) (i : Nat) (h : i < s.size) (w : World) : (Instr.index 9 (.string s) (.int .i64 (i : Int))).run Try.prog w = .ok (.int .u8 (atB (bsN s) i : Nat)) w := ix_byteD s i h w

set_option maxHeartbeats 1000000 in
theorem RHts_len (a b : ByteArray) (pi po ps : Nat) (ha : a.size ≤ 12) (t : List (List Int)) (hl : t.length ≤ maxLen) (hne : t.length ≠ a.size + 1) (v : Value) (w : World) (hV : TabV w v t) :
    Calls Try.prog 34 #[.string a, .string b, pv pi po ps, v] w fun e w' => e = .returned (.bool (heightsB (bsN a) (bsN b) pi po ps t)) ∧ Below w.heap.size w w' := by
  have HR := Lib.hid (hb_len (A := bsN a) (B := bsN b) (pi := pi) (po := po) (ps := ps) (t := t) (by rw [bsN_length]; exact hne))
  have HB := Lib.hid (bl_al (Below.refl w.heap.size w) (.cells #[.int .i64 (pi : Int), .int .i64 (po : Int), .int .i64 (ps : Int)] 23))
  obtain ⟨ao, cap, rfl, hlc, hd⟩ := hV
  unfold maxLen at hl
  clear hd
  have hq : ((t.length : Int) == (a.size : Int) + 1) = false := by rw [beq_eq_false_iff_ne]; omega
  go_enter Try.func34, Try.ntmps34
  go_wp2
  go_ret
  exact ⟨ret_bool HR.out.symm, HB.out⟩

set_option maxHeartbeats 4000000 in
theorem RHts_main (a b : ByteArray) (pi po ps : Nat) (ha : a.size ≤ 12) (hb : b.size ≤ 12) (hpi : pi ≤ 9) (hpo : po ≤ 9) (hps : ps ≤ 9) (t : List (List Int)) (hl : t.length = a.size + 1) (hr : ∀ r ∈ t, r.length ≤ maxLen) (v : Value) (w : World) (hV : TabV w v t) :
    Calls Try.prog 34 #[.string a, .string b, pv pi po ps, v] w fun e w' => e = .returned (.bool (heightsB (bsN a) (bsN b) pi po ps t)) ∧ Below w.heap.size w w' := by
  have hmx : Try.prog.follows .mixedOrders = true := by kernel_rfl
  obtain ⟨W0, hW0⟩ : ∃ W0, w.alloc (.cells #[.int .i64 (pi : Int), .int .i64 (po : Int), .int .i64 (ps : Int)] 23) = W0 := ⟨_, rfl⟩
  have HB0 := Lib.hid (show Below w.heap.size w W0 by rw [← hW0]; exact bl_al (Below.refl _ w) _)
  have HP0 := Lib.hid (show W0.cell? ⟨w.heap.size, 0, none⟩ = some (.int .i64 (pi : Int)) by rw [← hW0]; simp)
  have HP1 := Lib.hid (show W0.cell? ⟨w.heap.size, 1, none⟩ = some (.int .i64 (po : Int)) by rw [← hW0]; simp)
  have HP2 := Lib.hid (show W0.cell? ⟨w.heap.size, 2, none⟩ = some (.int .i64 (ps : Int)) by rw [← hW0]; simp)
  have HV := Lib.hid (hV.later HB0.out)
  have HRow := Lib.hid (fun k (hk : k < t.length) (h : hrowB b.size t[k] = false) => hb_row (A := bsN a) (B := bsN b) (pi := pi) (po := po) (ps := ps) hk (by rw [bsN_length]; exact h))
  have HPair := Lib.hid (fun i j (hi : i ≤ a.size) (hj : j ≤ b.size) h => hb_pair (A := bsN a) (B := bsN b) (pi := pi) (po := po) (ps := ps) (t := t) (i := i) (j := j) (by rw [bsN_length]; exact hi) (by rw [bsN_length]; exact hj) h)
  have HEnd := Lib.hid (fun h2 h3 => hb_end (A := bsN a) (B := bsN b) (pi := pi) (po := po) (ps := ps) (t := t) (by rw [bsN_length]; exact hl) (by rw [bsN_length]; exact h2) (by rw [bsN_length, bsN_length]; exact h3))
  have HOk := Lib.hid (fun i j => okP_iff (bsN a) (bsN b) pi po ps t i j)
  have HRl := Lib.hid hr
  obtain ⟨ao, cap, rfl, hlc, hd⟩ := hV
  clear hd hr
  rw [hl] at hlc
  have Hl := Lib.hid hl
  obtain ⟨ao2, cap2, e2, _, hd⟩ := HV.out
  cases e2
  obtain ⟨b0, off, rfl, hdd⟩ := hd (by omega)
  have HD := Lib.hid hdd
  clear hd hdd
  rw [hl] at HV
  rw [hl]
  clear hl
  have hq : ((a.size : Int) + 1 == (a.size : Int) + 1) = true := by simp
  go_enter Try.func34, Try.ntmps34
  go_wp2_with fail
  try rw [hW0]
  clear hW0
  go_loopw [24] (fun kv wr => ∃ k : Nat, k ≤ a.size + 1 ∧ kv = .int .i64 k ∧ (t.take k).all (hrowB b.size) = true ∧ wr = W0) (fun kv _ => a.size + 1 - (intOf kv).toNat)
  case atStart => exact ⟨0, Nat.zero_le _, rfl, by simp, rfl⟩
  case round =>
    obtain ⟨k, hk, rfl, hall, rfl⟩ := hrel
    have HAll := Lib.hid hall
    clear hall
    by_cases hlk : k < a.size + 1
    · have hkt : k < t.length := by have := Hl.out; omega
      obtain ⟨rv, c1, c2⟩ := HD.out k hkt
      have hge : t[k]?.getD [] = t[k] := by rw [List.getElem?_eq_getElem hkt]; rfl
      rw [hge] at c2
      have HRw := Lib.hid (HRow.out k hkt)
      have HTk := Lib.hid (take_all (p := hrowB b.size) hkt)
      have hrl := HRl.out _ (List.getElem_mem hkt)
      obtain ⟨r, hrr⟩ : ∃ r, t[k] = r := ⟨_, rfl⟩
      rw [hrr] at c2 HRw HTk hrl
      clear hge hrr
      unfold maxLen at hrl
      obtain ⟨ao3, cap3, rfl, hlc3, hd3⟩ := c2
      have HD3 := Lib.hid hd3
      clear hd3
      have hkm : (k : Int) < (a.size : Int) + 1 := by omega
      by_cases hrb : r.length = b.size + 1
      · have hq2 : ((r.length : Int) == (b.size : Int) + 1) = true := by rw [beq_iff_eq]; omega
        obtain ⟨b3, o3, rfl, hc3⟩ := HD3.out (by omega)
        have HC3 := Lib.hid hc3
        clear hc3
        have HNm := Lib.hid (fun (h : r.all numB = false) => HRw.out (by unfold hrowB; rw [h, Bool.and_false]))
        go_wp2_with fail
        go_loopw [36] (fun qv wq => ∃ q : Nat, q ≤ r.length ∧ qv = .int .i64 q ∧ (r.take q).all numB = true ∧ wq = wr) (fun qv _ => r.length - (intOf qv).toNat)
        case atStart => exact ⟨0, Nat.zero_le _, rfl, by simp, rfl⟩
        case round =>
          obtain ⟨q, hqr, rfl, hnall, rfl⟩ := hrel
          have HNa := Lib.hid hnall
          clear hnall
          by_cases hql : q < r.length
          · have cq := HC3.out q hql
            have hgq : r[q]?.getD 0 = r[q] := by rw [List.getElem?_eq_getElem hql]; rfl
            rw [hgq] at cq
            have HTq := Lib.hid (take_all (p := numB) hql)
            have HBad := Lib.hid (fun (h : numB r[q] = false) => HNm.out (by rw [List.all_eq_false]; exact ⟨_, List.getElem_mem hql, by rw [h]; simp⟩))
            obtain ⟨x, hx⟩ : ∃ x, r[q] = x := ⟨_, rfl⟩
            rw [hx] at cq HTq HBad
            clear hgq hx
            by_cases h1 : x < -1000
            · have HRR := Lib.hid (HBad.out (by unfold numB; rw [decide_eq_false (by omega)]; rfl))
              go_wp2
              go_ret
              exact ⟨ret_bool HRR.out.symm, HB0.out⟩
            · by_cases h2 : x > 1000
              · have HRR := Lib.hid (HBad.out (by unfold numB; rw [decide_eq_false (show ¬ x ≤ 1000 by omega), Bool.and_false]))
                go_wp2
                go_ret
                exact ⟨ret_bool HRR.out.symm, HB0.out⟩
              · have HN2 := Lib.hid (show (r.take (q + 1)).all numB = true by rw [HTq.out, HNa.out]; unfold numB; rw [decide_eq_true (show -1000 ≤ x by omega), decide_eq_true (show x ≤ 1000 by omega)]; rfl)
                clear HBad
                go_wp2
                go_roundw
                case rel => exact ⟨q + 1, hql, by go_num, HN2.out, by trivial⟩
                case measure => exact meas_e hql
          · obtain rfl : q = r.length := by omega
            have HN2 := Lib.hid (show (t.take (k + 1)).all (hrowB b.size) = true by
              have h := HNa.out
              rw [List.take_length] at h
              rw [HTk.out, HAll.out]; unfold hrowB; rw [decide_eq_true hrb, h]; rfl)
            go_wp2_with fail
            go_roundw
            case rel => exact ⟨k + 1, hlk, by go_num, HN2.out, by trivial⟩
            case measure => simp only [intOf]; omega
      · have hq2 : ((r.length : Int) == (b.size : Int) + 1) = false := by rw [beq_eq_false_iff_ne]; omega
        have HRR := Lib.hid (HRw.out (by unfold hrowB; rw [decide_eq_false hrb]; rfl))
        go_wp2
        go_ret
        exact ⟨ret_bool HRR.out.symm, HB0.out⟩
    · have hke : k = a.size + 1 := by omega
      have hkm : ¬ (k : Int) < (a.size : Int) + 1 := by omega
      obtain ⟨W9, hW9⟩ : ∃ W9, W9 = wr := ⟨wr, rfl⟩
      subst hW9
      have HA2 := Lib.hid (show t.all (hrowB b.size) = true by have h := HAll.out; rwa [hke, ← Hl.out, List.take_length] at h)
      have HRl2 := Lib.hid (fun r (hm : r ∈ t) => show r.length = b.size + 1 by
        have := List.all_eq_true.1 HA2.out r hm
        unfold hrowB at this
        rw [Bool.and_eq_true] at this
        exact of_decide_eq_true this.1)
      have HBd := Lib.hid (ht_bd (fun r hm x hx => show -1000 ≤ x ∧ x ≤ 1000 by
        have := List.all_eq_true.1 HA2.out r hm
        unfold hrowB at this
        rw [Bool.and_eq_true] at this
        have := List.all_eq_true.1 this.2 x hx
        unfold numB at this
        rw [Bool.and_eq_true] at this
        exact ⟨of_decide_eq_true this.1, of_decide_eq_true this.2⟩ : ∀ r ∈ t, ∀ x ∈ r, -1000 ≤ x ∧ x ≤ 1000))
      obtain ⟨b1, off1, e1, hcell⟩ := tab_at Hl.out.symm HV.out HRl2.out (by have := Hl.out; omega)
      cases e1
      rw [Hl.out] at hcell
      have HCell := Lib.hid hcell
      clear hcell HAll hke hlk hk
      go_wp2_with fail
      go_loopw [50] (fun iv wq => ∃ i : Nat, i ≤ a.size + 1 ∧ iv = .int .i64 i ∧ (∀ i' j', i' < i → j' ≤ b.size → okP (bsN a) (bsN b) pi po ps t (i', j') = true) ∧ Below W9.heap.size W9 wq) (fun iv _ => a.size + 1 - (intOf iv).toNat)
      case atStart => exact ⟨0, Nat.zero_le _, rfl, fun i' j' h _ => absurd h (Nat.not_lt_zero _), Below.refl _ _⟩
      case round =>
        obtain ⟨i, hi, rfl, hok, hBi⟩ := hrel
        have HOki := Lib.hid hok
        have HBi := Lib.hid hBi
        clear hok hBi
        by_cases hil : i < a.size + 1
        · obtain ⟨r1, o1, rc1, s1, l1, n1⟩ := HCell.out i hil
          have s1' := cell_later HBi.out s1
          have him : (i : Int) < (a.size : Int) + 1 := by omega
          have N1 := Lib.hid n1
          have S1 := Lib.hid s1
          clear n1 s1
          go_wp2_with fail
          clear s1'
          go_loopw [58] (fun jv wq => ∃ j : Nat, j ≤ b.size + 1 ∧ jv = .int .i64 j ∧ (∀ j', j' < j → okP (bsN a) (bsN b) pi po ps t (i, j') = true) ∧ Below W9.heap.size W9 wq) (fun jv _ => b.size + 1 - (intOf jv).toNat)
          case atStart => exact ⟨0, Nat.zero_le _, rfl, fun j' h => absurd h (Nat.not_lt_zero _), HBi.out⟩
          case round =>
            obtain ⟨j, hj, rfl, hokj, hBj⟩ := hrel
            have HOkj := Lib.hid hokj
            have HBj := Lib.hid hBj
            clear hokj hBj
            by_cases hjl : j < b.size + 1
            · have p0 := cell_later HBj.out HP0.out
              have p1 := cell_later HBj.out HP1.out
              have p2 := cell_later HBj.out HP2.out
              have s1 := cell_later HBj.out S1.out
              have x1 := cell_later HBj.out (N1.out j hjl)
              obtain ⟨bx1, bx2⟩ := HBd.out i j
              have HOk2 := Lib.hid (HOk.out i j)
              have HPr := Lib.hid (HPair.out i j (by omega) (by omega))
              have hjm : (j : Int) < (b.size : Int) + 1 := by omega
              obtain ⟨x, hx⟩ : ∃ x, ht t i j = x := ⟨_, rfl⟩
              rw [hx] at x1 bx1 bx2 HOk2
              clear hx
              have HBt := Lib.hid (HB0.out.trans (HBj.out.mono HB0.out.size) : Below w.heap.size w wr)
              by_cases hia : i < a.size
              · obtain ⟨r2, o2, rc2, s2, l2, n2⟩ := HCell.out (i + 1) (by omega)
                have s2 := cell_later HBj.out s2
                have y1 := cell_later HBj.out (n2 j hjl)
                have hia2 : (i : Int) + 1 < (a.size : Int) + 1 := by omega
                have hia3 : (i : Int) < a.size := by omega
                obtain ⟨yx1, yx2⟩ := HBd.out (i + 1) j
                have HY := Lib.hid (fun h => (HOk2.out.1 h).1 (by rw [bsN_length]; exact hia))
                have N2 := Lib.hid n2
                clear n2
                obtain ⟨y, hy⟩ : ∃ y, ht t (i + 1) j = y := ⟨_, rfl⟩
                rw [hy] at y1 yx1 yx2 HY
                have Hy := Lib.hid hy
                clear hy
                by_cases hA : y > x + (po : Int)
                · have HRR := Lib.hid (HPr.out (fun h => by have := HY.out h; omega))
                  go_wp2_with fail
                  go_quiet (fail)
                  try dsimp only [Exit.then, Exit.inBlock]
                  go_wp2
                  go_ret
                  exact ⟨ret_bool HRR.out.symm, by first | exact HBt.out | exact bl_N HBt.out _ | exact bl_N (bl_N HBt.out _) _ | exact bl_N (bl_N (bl_N HBt.out _) _) _⟩
                · have hA1 : ¬ x + (po : Int) < y := by omega
                  have hA2 : decide (x + (po : Int) < y) = false := decide_eq_false hA1
                  by_cases hjb : j < b.size
                  · have y2 := cell_later HBj.out (N1.out (j + 1) (by omega))
                    have hjb2 : (j : Int) + 1 < (b.size : Int) + 1 := by omega
                    have hjb3 : (j : Int) < b.size := by omega
                    obtain ⟨zx1, zx2⟩ := HBd.out i (j + 1)
                    have HZ := Lib.hid (fun h => (HOk2.out.1 h).2.1 (by rw [bsN_length]; exact hjb))
                    obtain ⟨z, hz⟩ : ∃ z, ht t i (j + 1) = z := ⟨_, rfl⟩
                    rw [hz] at y2 zx1 zx2 HZ
                    have Hz := Lib.hid hz
                    clear hz
                    by_cases hB : z > x + (pi : Int)
                    · have HRR := Lib.hid (HPr.out (fun h => by have := HZ.out h; omega))
                      go_wp2_with fail
                      go_quiet (fail)
                      try dsimp only [Exit.then, Exit.inBlock]
                      go_wp2
                      go_ret
                      exact ⟨ret_bool HRR.out.symm, by first | exact HBt.out | exact bl_N HBt.out _ | exact bl_N (bl_N HBt.out _) _ | exact bl_N (bl_N (bl_N HBt.out _) _) _⟩
                    · have y3 := cell_later HBj.out (N2.out (j + 1) (by omega))
                      have hB1 : ¬ x + (pi : Int) < z := by omega
                      have hB2 : decide (x + (pi : Int) < z) = false := decide_eq_false hB1
                      have ia := fun W => ix_byteH a i hia W
                      have ib := fun W => ix_byteH b j hjb W
                      obtain ⟨ux1, ux2⟩ := HBd.out (i + 1) (j + 1)
                      have HU := Lib.hid (fun h => (HOk2.out.1 h).2.2 (by rw [bsN_length]; exact hia) (by rw [bsN_length]; exact hjb))
                      obtain ⟨u, hu⟩ : ∃ u, ht t (i + 1) (j + 1) = u := ⟨_, rfl⟩
                      rw [hu] at y3 ux1 ux2 HU
                      have Hu := Lib.hid hu
                      clear hu
                      by_cases hab : atB (bsN a) i = atB (bsN b) j
                      · have te : ((atB (bsN a) i : Int) == (atB (bsN b) j : Int)) = true := by rw [beq_iff_eq, hab]
                        rw [if_pos hab] at HU
                        have HAB := Lib.hid hab
                        clear hab
                        by_cases hC : u > x
                        · have HRR := Lib.hid (HPr.out (fun h => by have := HU.out h; omega))
                          go_wp2_with fail
                          go_quiet (fail)
                          try dsimp only [Exit.then, Exit.inBlock]
                          go_wp2_with fail
                          go_quiet (fail)
                          try dsimp only [Exit.then, Exit.inBlock]
                          go_wp2_with fail
                          go_quiet (fail)
                          try dsimp only [Exit.then, Exit.inBlock]
                          go_wp2
                          go_ret
                          exact ⟨ret_bool HRR.out.symm, by first | exact HBt.out | exact bl_N HBt.out _ | exact bl_N (bl_N HBt.out _) _ | exact bl_N (bl_N (bl_N HBt.out _) _) _⟩
                        · have hokk : okP (bsN a) (bsN b) pi po ps t (i, j) = true := HOk2.out.2 ⟨fun _ => by rw [Hy.out]; omega, fun _ => by rw [Hz.out]; omega, fun _ _ => by rw [Hu.out, if_pos HAB.out]; omega⟩
                          have hC1 : ¬ x < u := by omega
                          have hC2 : decide (x < u) = false := decide_eq_false hC1
                          have HOk3 := Lib.hid (fun j' (h : j' < j + 1) => show okP (bsN a) (bsN b) pi po ps t (i, j') = true by
                            by_cases e : j' = j
                            · subst e; exact hokk
                            · exact HOkj.out j' (by omega))
                          clear hokk
                          go_wp2_with fail
                          go_quiet (fail)
                          try dsimp only [Exit.then, Exit.inBlock]
                          go_wp2_with fail
                          go_quiet (fail)
                          try dsimp only [Exit.then, Exit.inBlock]
                          go_wp2_with fail
                          go_quiet (fail)
                          try dsimp only [Exit.then, Exit.inBlock]
                          go_wp2
                          go_roundw
                          case rel => exact ⟨j + 1, hjl, by go_num, HOk3.out, by first | exact HBj.out | exact bl_N HBj.out _ | exact bl_N (bl_N HBj.out _) _ | exact bl_N (bl_N (bl_N HBj.out _) _) _⟩
                          case measure => simp only [intOf]; omega
                      · have te : ((atB (bsN a) i : Int) == (atB (bsN b) j : Int)) = false := by rw [beq_eq_false_iff_ne]; exact fun h => hab (by exact_mod_cast h)
                        rw [if_neg hab] at HU
                        have HAB := Lib.hid hab
                        clear hab
                        by_cases hC : u > x + (ps : Int)
                        · have HRR := Lib.hid (HPr.out (fun h => by have := HU.out h; omega))
                          go_wp2_with fail
                          go_quiet (fail)
                          try dsimp only [Exit.then, Exit.inBlock]
                          go_wp2_with fail
                          go_quiet (fail)
                          try dsimp only [Exit.then, Exit.inBlock]
                          go_wp2_with fail
                          go_quiet (fail)
                          try dsimp only [Exit.then, Exit.inBlock]
                          go_wp2
                          go_ret
                          exact ⟨ret_bool HRR.out.symm, by first | exact HBt.out | exact bl_N HBt.out _ | exact bl_N (bl_N HBt.out _) _ | exact bl_N (bl_N (bl_N HBt.out _) _) _⟩
                        · have hokk : okP (bsN a) (bsN b) pi po ps t (i, j) = true := HOk2.out.2 ⟨fun _ => by rw [Hy.out]; omega, fun _ => by rw [Hz.out]; omega, fun _ _ => by rw [Hu.out, if_neg HAB.out]; omega⟩
                          have hC1 : ¬ x + (ps : Int) < u := by omega
                          have hC2 : decide (x + (ps : Int) < u) = false := decide_eq_false hC1
                          have HOk3 := Lib.hid (fun j' (h : j' < j + 1) => show okP (bsN a) (bsN b) pi po ps t (i, j') = true by
                            by_cases e : j' = j
                            · subst e; exact hokk
                            · exact HOkj.out j' (by omega))
                          clear hokk
                          go_wp2_with fail
                          go_quiet (fail)
                          try dsimp only [Exit.then, Exit.inBlock]
                          go_wp2_with fail
                          go_quiet (fail)
                          try dsimp only [Exit.then, Exit.inBlock]
                          go_wp2_with fail
                          go_quiet (fail)
                          try dsimp only [Exit.then, Exit.inBlock]
                          go_wp2
                          go_roundw
                          case rel => exact ⟨j + 1, hjl, by go_num, HOk3.out, by first | exact HBj.out | exact bl_N HBj.out _ | exact bl_N (bl_N HBj.out _) _ | exact bl_N (bl_N (bl_N HBj.out _) _) _⟩
                          case measure => simp only [intOf]; omega
                  · have hjb3 : ¬ (j : Int) < b.size := by omega
                    have hokk : okP (bsN a) (bsN b) pi po ps t (i, j) = true := HOk2.out.2 ⟨fun _ => by rw [Hy.out]; omega, fun h => absurd h (by rw [bsN_length]; exact hjb), fun _ h => absurd h (by rw [bsN_length]; exact hjb)⟩
                    have HOk3 := Lib.hid (fun j' (h : j' < j + 1) => show okP (bsN a) (bsN b) pi po ps t (i, j') = true by
                      by_cases e : j' = j
                      · subst e; exact hokk
                      · exact HOkj.out j' (by omega))
                    clear hokk
                    go_wp2_with fail
                    go_quiet (fail)
                    try dsimp only [Exit.then, Exit.inBlock]
                    go_wp2
                    go_roundw
                    case rel => exact ⟨j + 1, hjl, by go_num, HOk3.out, by first | exact HBj.out | exact bl_N HBj.out _ | exact bl_N (bl_N HBj.out _) _ | exact bl_N (bl_N (bl_N HBj.out _) _) _⟩
                    case measure => simp only [intOf]; omega
              · have hia3 : ¬ (i : Int) < a.size := by omega
                by_cases hjb : j < b.size
                · have y2 := cell_later HBj.out (N1.out (j + 1) (by omega))
                  have hjb2 : (j : Int) + 1 < (b.size : Int) + 1 := by omega
                  have hjb3 : (j : Int) < b.size := by omega
                  obtain ⟨zx1, zx2⟩ := HBd.out i (j + 1)
                  have HZ := Lib.hid (fun h => (HOk2.out.1 h).2.1 (by rw [bsN_length]; exact hjb))
                  obtain ⟨z, hz⟩ : ∃ z, ht t i (j + 1) = z := ⟨_, rfl⟩
                  rw [hz] at y2 zx1 zx2 HZ
                  have Hz := Lib.hid hz
                  clear hz
                  by_cases hB : z > x + (pi : Int)
                  · have HRR := Lib.hid (HPr.out (fun h => by have := HZ.out h; omega))
                    go_wp2_with fail
                    go_quiet (fail)
                    try dsimp only [Exit.then, Exit.inBlock]
                    go_wp2
                    go_ret
                    exact ⟨ret_bool HRR.out.symm, by first | exact HBt.out | exact bl_N HBt.out _ | exact bl_N (bl_N HBt.out _) _ | exact bl_N (bl_N (bl_N HBt.out _) _) _⟩
                  · have hokk : okP (bsN a) (bsN b) pi po ps t (i, j) = true := HOk2.out.2 ⟨fun h => absurd h (by rw [bsN_length]; exact hia), fun _ => by rw [Hz.out]; omega, fun h => absurd h (by rw [bsN_length]; exact hia)⟩
                    have hB1 : ¬ x + (pi : Int) < z := by omega
                    have hB2 : decide (x + (pi : Int) < z) = false := decide_eq_false hB1
                    have HOk3 := Lib.hid (fun j' (h : j' < j + 1) => show okP (bsN a) (bsN b) pi po ps t (i, j') = true by
                      by_cases e : j' = j
                      · subst e; exact hokk
                      · exact HOkj.out j' (by omega))
                    clear hokk
                    go_wp2_with fail
                    go_quiet (fail)
                    try dsimp only [Exit.then, Exit.inBlock]
                    go_wp2
                    go_roundw
                    case rel => exact ⟨j + 1, hjl, by go_num, HOk3.out, by first | exact HBj.out | exact bl_N HBj.out _ | exact bl_N (bl_N HBj.out _) _ | exact bl_N (bl_N (bl_N HBj.out _) _) _⟩
                    case measure => simp only [intOf]; omega
                · have hjb3 : ¬ (j : Int) < b.size := by omega
                  have hokk : okP (bsN a) (bsN b) pi po ps t (i, j) = true := HOk2.out.2 ⟨fun h => absurd h (by rw [bsN_length]; exact hia), fun h => absurd h (by rw [bsN_length]; exact hjb), fun h => absurd h (by rw [bsN_length]; exact hia)⟩
                  have HOk3 := Lib.hid (fun j' (h : j' < j + 1) => show okP (bsN a) (bsN b) pi po ps t (i, j') = true by
                    by_cases e : j' = j
                    · subst e; exact hokk
                    · exact HOkj.out j' (by omega))
                  clear hokk
                  go_wp2_with fail
                  go_quiet (fail)
                  try dsimp only [Exit.then, Exit.inBlock]
                  go_wp2
                  go_roundw
                  case rel => exact ⟨j + 1, hjl, by go_num, HOk3.out, by first | exact HBj.out | exact bl_N HBj.out _ | exact bl_N (bl_N HBj.out _) _ | exact bl_N (bl_N (bl_N HBj.out _) _) _⟩
                  case measure => simp only [intOf]; omega
            · obtain rfl : j = b.size + 1 := by omega
              have HOk3 := Lib.hid (fun i' j' (h1 : i' < i + 1) (h2 : j' ≤ b.size) => show okP (bsN a) (bsN b) pi po ps t (i', j') = true by
                by_cases e : i' = i
                · subst e; exact HOkj.out j' (by omega)
                · exact HOki.out i' j' (by omega) h2)
              go_wp2_with fail
              go_roundw
              case rel => exact ⟨i + 1, hil, by go_num, HOk3.out, HBj.out⟩
              case measure => simp only [intOf]; omega
        · obtain rfl : i = a.size + 1 := by omega
          have HE2 := Lib.hid (HEnd.out HA2.out (fun i j h1 h2 => HOki.out i j (by omega) h2))
          obtain ⟨r1, o1, rc1, s1, l1, n1⟩ := HCell.out 0 (by omega)
          have c1 := cell_later HBi.out s1
          have c2 := cell_later HBi.out (n1 0 (by omega))
          rw [Nat.add_zero] at c1 c2
          have hl0 : (0 : Int) < (b.size : Int) + 1 := by omega
          have hl1 : (0 : Int) < (a.size : Int) + 1 := by omega
          clear s1 n1
          generalize ht t 0 0 = x at c2 HE2
          have HBt := Lib.hid (HB0.out.trans (HBi.out.mono HB0.out.size) : Below w.heap.size w wr)
          go_wp2
          go_ret
          exact ⟨ret_bool (by rw [HE2.out]; first | rfl | (rw [Bool.eq_iff_iff]; simp)), HBt.out⟩
end Go.Proofs.Ytkpmkeklopfhdaa
