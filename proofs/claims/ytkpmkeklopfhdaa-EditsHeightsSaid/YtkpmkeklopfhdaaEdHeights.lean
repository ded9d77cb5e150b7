/-
  Heights: its walk.
-/
import Derived.Test.YtkpmkeklopfhdaaEdScriptP
import Derived.Test.YtkpmkeklopfhdaaEdTabO
import Derived.Test.YtkpmkeklopfhdaaEdTab
import Derived.Test.YtkpmkeklopfhdaaCalmM
import Derived.Deep.AppendLies
import Derived.Test.YtkpmkeklopfhdaaEdRDoneW
import Derived.Test.YtkpmkeklopfhdaaEdRDone
import Derived.Test.YtkpmkeklopfhdaaEdScr
import Derived.Test.YtkpmkeklopfhdaaEdCost
import Derived.Laws.StructEq
namespace Go.Proofs.Ytkpmkeklopfhdaa
open Go.ChangeShapes Go.WideShapes Go.ChangeAt Go.RowKit
set_option linter.unusedVariables false
set_option maxRecDepth 100000

theorem info_intH : (Try.prog.info? 3).map (fun i => (i.zero, i.size, i.bytes)) = some (some (.int .i64 0), 1, 8) := by kernel_rfl
abbrev nilS : Value := .slice none 0 0
theorem madeCells_nil (k : Nat) : madeCells #[nilS] k = (List.replicate k nilS).toArray := by
  apply Array.ext
  · rw [size_madeCells]; simp
  · intro i h1 h2
    simp [madeCells, Nat.mod_one]
theorem run_make_rows (k : Nat) (hk : k ≤ 65536) (W : World) : (Instr.makeSlice 47 (.int .i64 (k : Int)) (.int .i64 (k : Int))).run Try.prog W = .ok (.slice (some ⟨W.heap.size, 0, none⟩) k k) (W.alloc (.cells (List.replicate k nilS).toArray 53)) := by
  rw [← madeCells_nil]
  exact run_make_row' 47 53 nilS 24 Try.underlying47 (by kernel_rfl) rfl .i64 .i64 k (by omega) (by omega) W

theorem cut_row (KB o n : Nat) (hn : n ≤ 13) (W : World) : (Instr.sliceAt 94 (.pointer (some ⟨KB, o, none⟩)) none (some (.int .i64 (n : Int))) none).run Try.prog W = .ok (.slice (some ⟨KB, o, none⟩) n 13) W := by
  have hl : Try.prog.arrayLen 94 = 13 := by kernel_rfl
  have h := run_sliceAt_array_h (P := Try.prog) W 94 ⟨KB, o, none⟩ Try.underlying94 .i64 (n : Int) (by omega) (by rw [hl]; omega)
  rw [h, hl]
  simp [slicedAt, go_sem, Addr.add]

/-- Rows that are done: the first i slices of a list. -/
def RD (W : World) (L m i : Nat) (vs : List Value) (f : Nat → Nat → Int) : Prop := ∀ r, r < i → W.ownsRow L 3 1 (vs.getD r nilS) m (rowI m (f r))
theorem RD.kept {W W' : World} {L m i : Nat} {vs : List Value} {f : Nat → Nat → Int} {row : Option Nat} (h : RD W L m i vs f) (hg : W.grownBy W' row) (hne : ∀ r g, r < i → (vs.getD r nilS).ownBlock = some g → row ≠ some g) : RD W' L m i vs f := fun r hr => by
  refine (h r hr).kept hg ?_
  cases hv : (vs.getD r nilS).ownBlock with
  | none => exact Or.inl rfl
  | some g => exact Or.inr (fun e => hne r g hr hv e.symm)
theorem RD.alloc {W : World} {L m i : Nat} {vs : List Value} {f : Nat → Nat → Int} (h : RD W L m i vs f) (o : Obj) : RD (W.alloc o) L m i vs f := fun r hr => (h r hr).alloc o
theorem RD.drew {W : World} {L m i : Nat} {vs : List Value} {f : Nat → Nat → Int} (h : RD W L m i vs f) : RD W.drew L m i vs f := fun r hr => h r hr
theorem RD.setG {W : World} {L m i G q : Nat} {vs : List Value} {f : Nat → Nat → Int} (h : RD W L m i vs f) (hG : G < L) (u : Value) : RD (W.setCell ⟨G, q, none⟩ u) L m i vs f := fun r hr =>
  own_set_other (h r hr) (fun e => by have := ((h r hr).lt _ e.symm).1; omega)
theorem RD.lt {W : World} {L m i : Nat} {vs : List Value} {f : Nat → Nat → Int} (h : RD W L m i vs f) : ∀ r g, r < i → (vs.getD r nilS).ownBlock = some g → g < W.heap.size := fun r g hr hg => ((h r hr).lt g hg).2
theorem RD.more {W : World} {L Li m i : Nat} {vs : List Value} {f : Nat → Nat → Int} {u : Value} (h : RD W L m i vs f) (hi : i < vs.length) (hu : W.ownsRow Li 3 1 u m (rowI m (f i))) (hL : L ≤ Li) : RD W L m (i + 1) (vs.set i u) f := fun r hr => by
  rw [List.getD_eq_getElem?_getD, List.getElem?_set]
  by_cases e : i = r
  · subst e
    rw [if_pos rfl, if_pos hi]
    exact own_weakE hu hL
  · rw [if_neg e, ← List.getD_eq_getElem?_getD]
    exact h r (by omega)
theorem rowI_more (f : Nat → Int) (j : Nat) : rowI (j + 1) f = rowI j f ++ [.int .i64 (f j)] := by
  unfold rowI
  rw [List.range_succ, List.map_append]; rfl
theorem own_ints {W : World} {L m : Nat} {v : Value} {f : Nat → Int} (h : W.ownsRow L 3 1 v m (rowI m f)) : IntsV W v ((List.range m).map f) := by
  obtain ⟨h0, ⟨rfl, rfl⟩ | ⟨g, cap, cur, rfl, hg, hh, h3, h4, h5, h6⟩⟩ := h
  · exact ⟨none, 0, rfl, Nat.le_refl _, fun h => by simp at h⟩
  · refine ⟨some ⟨g, 0, none⟩, cap, by simp, by simpa using h3, fun _ => ⟨g, 0, rfl, fun i hi => ?_⟩⟩
    have him : i < m := by simpa using hi
    have e := congrArg (fun l => l[i]?) h6
    simp only [Nat.mul_one, List.getElem?_take, him, if_true] at e
    rw [Nat.zero_add, cell_of_row W g i cur _ _ hh, ← Array.getElem?_toList, e, rowI_at f him]
    simp [him]
/-- The table of what is known. -/
def tabL (n m : Nat) (f : Nat → Nat → Int) : List (List Int) := (List.range n).map fun i => (List.range m).map (f i)
theorem rd_tab {W : World} {L m n G : Nat} {vs : List Value} {f : Nat → Nat → Int} (h : RD W L m n vs f) (hr : Row W G 53 vs) (hv : vs.length = n) : TabV W (.slice (some ⟨G, 0, none⟩) n n) (tabL n m f) := by
  have hl : (tabL n m f).length = n := by simp [tabL]
  refine ⟨some ⟨G, 0, none⟩, n, by rw [hl], by rw [hl]; exact Nat.le_refl _, fun _ => ⟨G, 0, rfl, fun i hi => ?_⟩⟩
  rw [hl] at hi
  refine ⟨vs.getD i nilS, ?_, ?_⟩
  · rw [Nat.zero_add, hr.cell, List.getD_eq_getElem?_getD, List.getElem?_eq_getElem (by omega)]; rfl
  · have e : (tabL n m f)[i]?.getD [] = (List.range m).map (f i) := by simp [tabL, hi]
    rw [e]
    exact own_ints (h i hi)

set_option maxHeartbeats 2000000 in
theorem Heights_bad (a b : ByteArray) (pi po ps : Int) (h : goodB a b pi po ps = false) (w : World) :
    Calls Try.prog 31 #[.string a, .string b, pv pi po ps] w fun e w' => e = .returned (.tuple #[.slice none 0 0, .int .i64 2]) ∧ Below w.heap.size w w' := by
  have HP := Lib.hid (fun W => isPriced_any pi po ps W)
  have HA := Lib.hid (fun W v hv => all_line [a, b] (by unfold maxLen; simp) v W hv)
  have HB := Lib.hid ((Below.refl w.heap.size w).alloc (Nat.le_refl _) (.cells #[.int .i64 pi, .int .i64 po, .int .i64 ps] 28))
  cases h1 : pricedB pi po ps
  · rw [h1] at HP
    clear h h1 HA
    go_enter Try.func31, Try.ntmps31
    go_wp2_with fail
    refine (HP.out _).mono ?_
    rintro e w1 ⟨rfl, b1⟩
    have B1 := Lib.hid (below_nx HB.out b1)
    clear b1
    go_wp2
    go_ret2
    exact ⟨rfl, B1.out⟩
  · have h2 : [a, b].all lineB = false := by unfold goodB at h; rw [h1] at h; simpa using h
    rw [h1] at HP
    rw [h2] at HA
    clear h h1 h2
    go_enter Try.func31, Try.ntmps31
    go_wp2_with fail
    refine (HP.out _).mono ?_
    rintro e w1 ⟨rfl, b1⟩
    have B1 := Lib.hid (below_nx HB.out b1)
    have HV := Lib.hid (strs2 w1 a b 9)
    clear b1
    go_wp2_with fail
    refine (HA.out _ _ HV.out).mono ?_
    rintro e w2 ⟨rfl, rfl⟩
    have B2 := Lib.hid (bl_al B1.out (.cells #[.string a, .string b] 9))
    go_wp2
    go_ret2
    exact ⟨rfl, B2.out⟩

set_option maxHeartbeats 2000000 in
theorem Heights_ok (a b : ByteArray) (pi po ps : Nat) (h : goodB a b pi po ps = true) (w : World) :
    Calls Try.prog 31 #[.string a, .string b, pv pi po ps] w fun e w' => ∃ v, e = .returned (.tuple #[v, .int .i64 0]) ∧ TabV w' v (tabL (a.size + 1) (b.size + 1) fun i j => (pl (bsN a) (bsN b) pi po ps i j).c) ∧ Below w.heap.size w w' := by
  unfold goodB at h
  rw [Bool.and_eq_true, Bool.and_eq_true] at h
  obtain ⟨h1, h2, h3⟩ := h
  obtain ⟨⟨_, q1⟩, ⟨_, q2⟩, _, q3⟩ := (priced_iff _ _ _).1 h1
  have ha : a.size ≤ 12 := of_decide_eq_true h2
  have hb : b.size ≤ 12 := of_decide_eq_true h3
  have HP := Lib.hid (fun W => isPriced_any pi po ps W)
  have HA := Lib.hid (fun W v hv => all_line [a, b] (by unfold maxLen; simp) v W hv)
  rw [show [a, b].all lineB = true by simp [h2, h3]] at HA
  rw [h1] at HP
  have HS := Lib.hid (fun W => scripts_any a b pi po ps ha hb (by omega) (by omega) (by omega) W)
  obtain ⟨i0, hi, hz0, hz1, hz2⟩ := info_parts info_intH
  have hmx : Try.prog.follows .mixedOrders = true := by kernel_rfl
  have HPR := Lib.hid (show Pr pi po ps from ⟨by omega, by omega, by omega⟩)
  have HPL := Lib.hid (fun i j h1 h2 => board_pl (bsN a) (bsN b) pi po ps (i := i) (j := j) (by omega) (by omega) (by omega) (by rw [bsN_length]; exact ha) (by rw [bsN_length]; exact hb) h1 h2)
  have ha2 := ha
  have hb2 := hb
  have HB := Lib.hid ((Below.refl w.heap.size w).alloc (Nat.le_refl _) (.cells #[.int .i64 (pi : Int), .int .i64 (po : Int), .int .i64 (ps : Int)] 28))
  clear h1 h2 h3 ha hb
  obtain ⟨W0, hW0⟩ : ∃ W0, w.alloc (.cells #[.int .i64 (pi : Int), .int .i64 (po : Int), .int .i64 (ps : Int)] 28) = W0 := ⟨_, rfl⟩
  have p0 : W0.cell? ⟨w.heap.size, 0, none⟩ = some (.int .i64 (pi : Int)) := by rw [← hW0]; simp
  have p1 : W0.cell? ⟨w.heap.size, 1, none⟩ = some (.int .i64 (po : Int)) := by rw [← hW0]; simp
  have p2 : W0.cell? ⟨w.heap.size, 2, none⟩ = some (.int .i64 (ps : Int)) := by rw [← hW0]; simp
  rw [hW0] at HB
  go_enter Try.func31, Try.ntmps31
  go_wp2_with fail
  refine (HP.out _).mono ?_
  rintro e w1 ⟨rfl, b1⟩
  try rw [hW0] at b1
  have B1 := Lib.hid (below_nx HB.out b1)
  have p0 := cell_later b1 p0
  have p1 := cell_later b1 p1
  have p2 := cell_later b1 p2
  have HV := Lib.hid (strs2 w1 a b 9)
  clear b1 hW0
  go_wp2_with fail
  refine (HA.out _ _ HV.out).mono ?_
  rintro e w2 ⟨rfl, rfl⟩
  have bl1 : Below w1.heap.size w1 (w1.alloc (.cells #[.string a, .string b] 9)) := bl_al (Below.refl _ _) _
  have p0 := cell_later bl1 p0
  have p1 := cell_later bl1 p1
  have p2 := cell_later bl1 p2
  have B2 := Lib.hid (bl_al B1.out (.cells #[.string a, .string b] 9))
  clear bl1
  generalize w1.alloc (.cells #[.string a, .string b] 9) = w3 at p0 p1 p2 B2 ⊢
  go_wp2_with fail
  refine (HS.out _).mono ?_
  rintro e w4 ⟨rfl, b4⟩
  rename_i K2 hK2 K1 hK1
  dsimp only
  refine hK1 _ _ ?_
  clear hK1 K1
  refine Great.wpList_runTo rfl _ rfl (.pointer (some ⟨w4.heap.size, 0, none⟩)) (w4.alloc (.cells (boardL zeroK).toArray 96)) ?_ ?_
  · simp only [execOp, Sem.run_bind, run_alloc_board, Result.andThen_ok]
    rfl
  refine wpList_store_rowTo rfl 96 (.tmp 8) (.tmp 26) rfl rfl w4.heap.size (boardL (boardK (bsN a) (bsN b) pi po ps)).toArray rfl rfl 96 (boardL zeroK).toArray (World.alloc_heap_new w4 _) (info_boardL _) (by rw [List.size_toArray, List.size_toArray, boardL_length, boardL_length]) (boardL_one _) ?_
  have hrow : Row ((w4.alloc (.cells (boardL zeroK).toArray 96)).setRow w4.heap.size (boardL (boardK (bsN a) (bsN b) pi po ps)).toArray) w4.heap.size 96 (boardL (boardK (bsN a) (bsN b) pi po ps)) := setRow_heap _ _ _ _ _ _ (World.alloc_heap_new w4 _)
  have hbw : Below w4.heap.size w4 ((w4.alloc (.cells (boardL zeroK).toArray 96)).setRow w4.heap.size (boardL (boardK (bsN a) (bsN b) pi po ps)).toArray) := below_setRow ((Below.refl _ _).alloc (Nat.le_refl _) _) (Nat.le_refl _) _
  have B4 := Lib.hid (below_nx B2.out b4)
  obtain ⟨KB, hKB⟩ : ∃ KB, w4.heap.size = KB := ⟨_, rfl⟩
  have hKw : w.heap.size ≤ KB := by have := B4.out.size; omega
  have B5 := Lib.hid (below_nx B4.out hbw)
  generalize (w4.alloc (.cells (boardL zeroK).toArray 96)).setRow w4.heap.size (boardL (boardK (bsN a) (bsN b) pi po ps)).toArray = w5 at hrow B5 ⊢
  rw [hKB] at hrow ⊢
  have HRow := Lib.hid hrow
  clear hrow hbw b4 hKB B4 B2 p0 p1 p2 HS
  generalize Value.agg (boardL (boardK (bsN a) (bsN b) pi po ps)).toArray = bagg
  go_step
  dsimp only [Exit.then, Act.put, Array.setIfInBounds]
  refine hK2 _ _ ?_
  clear hK2 K2

  have hmk := fun W => run_make_rows (a.size + 1) (by omega) W
  rw [show ((a.size + 1 : Nat) : Int) = (a.size : Int) + 1 by omega] at hmk
  obtain ⟨G, hG⟩ : ∃ G, w5.heap.size = G := ⟨_, rfl⟩
  have hKG : KB < G := by have := HRow.out.lt; omega
  have hwG : w.heap.size ≤ G := by have := B5.out.size; omega
  have HR2 := Lib.hid (show Row (w5.alloc (.cells (List.replicate (a.size + 1) nilS).toArray 53)) G 53 (List.replicate (a.size + 1) nilS) by rw [← hG]; exact Row.new w5 _ _)
  have HRK := Lib.hid (HRow.out.alloc (.cells (List.replicate (a.size + 1) nilS).toArray 53))
  have B6 := Lib.hid (bl_al B5.out (.cells (List.replicate (a.size + 1) nilS).toArray 53))
  obtain ⟨f, hf⟩ : ∃ f : Nat → Nat → Int, (fun i j => (pl (bsN a) (bsN b) pi po ps i j).c) = f := ⟨_, rfl⟩
  have HKB := Lib.hid (fun (W : World) (hr : Row W KB 96 (boardL (boardK (bsN a) (bsN b) pi po ps))) i j (hi : i ≤ a.size) (hj : j ≤ b.size) => (by
    have kc : ∀ q, q < 6 → W.cell? ⟨KB, i * 78 + j * 6 + q, none⟩ = some (plF (pl (bsN a) (bsN b) pi po ps i j) q) := fun q hq => (hr.cell _).trans (by rw [← HPL.out i j (by rw [bsN_length]; exact hi) (by rw [bsN_length]; exact hj)]; exact boardL_at _ (by omega) (by omega) hq)
    rw [← hf]
    exact ⟨_, _, _, _, _, kc 0 (by omega), kc 1 (by omega), kc 2 (by omega), kc 3 (by omega), kc 4 (by omega), kc 5 (by omega)⟩ :
    ∃ p1 p2 p3 p4 p5 : Int, W.cell? ⟨KB, i * 78 + j * 6, none⟩ = some (.int .i64 (f i j)) ∧ W.cell? ⟨KB, i * 78 + j * 6 + 1, none⟩ = some (.int .i64 p1) ∧ W.cell? ⟨KB, i * 78 + j * 6 + 2, none⟩ = some (.int .i64 p2) ∧ W.cell? ⟨KB, i * 78 + j * 6 + 3, none⟩ = some (.int .i64 p3) ∧ W.cell? ⟨KB, i * 78 + j * 6 + 4, none⟩ = some (.int .i64 p4) ∧ W.cell? ⟨KB, i * 78 + j * 6 + 5, none⟩ = some (.int .i64 p5)))
  have HFf := Lib.hid hf
  clear hf HPL HPR
  go_wp2_with fail
  try rw [hG]
  clear hG hmk
  go_loopw [33] (fun iv wr => ∃ (i : Nat) (vs : List Value), i ≤ a.size + 1 ∧ iv = .int .i64 i ∧ vs.length = a.size + 1 ∧ Row wr G 53 vs ∧ RD wr (G + 1) (b.size + 1) i vs f ∧ (∀ r, i ≤ r → r < a.size + 1 → vs[r]? = some nilS) ∧ Row wr KB 96 (boardL (boardK (bsN a) (bsN b) pi po ps)) ∧ Below w.heap.size w wr) (fun iv _ => a.size + 1 - (intOf iv).toNat)
  case atStart => exact ⟨0, _, Nat.zero_le _, rfl, by simp, HR2.out, fun r hr => absurd hr (by omega), fun r _ hr => by simp [hr], HRK.out, B6.out⟩
  case round =>
    obtain ⟨i, vs, hin, rfl, hvl, hrg, hrd, hnil, hrk, hB⟩ := hrel
    have HRG := Lib.hid hrg
    have HRD := Lib.hid hrd
    have HNil := Lib.hid hnil
    have HRK := Lib.hid hrk
    have HBr := Lib.hid hB
    have hGs : G < wr.heap.size := hrg.lt
    clear hrg hrd hnil hrk hB
    by_cases hil : i < a.size + 1
    · have hi13 : (i : Int) < 13 := by omega
      have him : (i : Int) < (a.size : Int) + 1 := by omega
      have HLtR := Lib.hid HRD.out.lt
      obtain ⟨Li, hLi⟩ : ∃ Li, wr.heap.size = Li := ⟨_, rfl⟩
      rw [hLi] at HLtR hGs
      have hv0 : vs.set i nilS = vs := by
        apply List.ext_getElem?
        intro r
        rw [List.getElem?_set]
        by_cases e : i = r
        · subst e; rw [if_pos rfl, if_pos (by omega), HNil.out i (Nat.le_refl _) hil]
        · rw [if_neg e]
      have HRG0 := Lib.hid (show Row wr G 53 (vs.set i nilS) by rw [hv0]; exact HRG.out)
      have HLi := Lib.hid hLi
      have hcut := fun W => cut_row KB (i * 78) (b.size + 1) (by omega) W
      rw [show ((b.size + 1 : Nat) : Int) = (b.size : Int) + 1 by omega] at hcut
      clear hv0 hLi
      go_wp2_with fail
      go_loopw [43] (fun jv wq => ∃ (j : Nat) (u : Value), j ≤ b.size + 1 ∧ jv = .int .i64 j ∧ Row wq G 53 (vs.set i u) ∧ wq.ownsRow Li 3 1 u j (rowI j (f i)) ∧ RD wq (G + 1) (b.size + 1) i vs f ∧ Row wq KB 96 (boardL (boardK (bsN a) (bsN b) pi po ps)) ∧ Li ≤ wq.heap.size ∧ Below w.heap.size w wq) (fun jv _ => b.size + 1 - (intOf jv).toNat)
      case atStart => exact ⟨0, nilS, Nat.zero_le _, rfl, HRG0.out, World.ownsRow_nil _ _ _ _, HRD.out, HRK.out, by have := HLi.out; omega, HBr.out⟩
      case round =>
        obtain ⟨j, u, hjm, rfl, hrg, hown, hrd, hrk, hLq, hB⟩ := hrel
        have HRGq := Lib.hid hrg
        have HOw := Lib.hid hown
        have HRDq := Lib.hid hrd
        have HRKq := Lib.hid hrk
        have HBq := Lib.hid hB
        have hGq : G < wr.heap.size := hrg.lt
        have huL := Lib.hid hown.lt
        clear hown hrd hrk hB
        by_cases hjl : j < b.size + 1
        · obtain ⟨p1, p2, p3, p4, p5, k0, k1, k2, k3, k4, k5⟩ := HKB.out wr HRKq.out i j (by omega) (by omega)
          have hj13 : (j : Int) < 13 := by omega
          have hjm2 : (j : Int) < (b.size : Int) + 1 := by omega
          obtain ⟨W8, hW8⟩ : ∃ W8, wr.alloc (.cells #[.int .i64 (f i j), .int .i64 p1, .int .i64 p2, .int .i64 p3, .int .i64 p4, .int .i64 p5] 93) = W8 := ⟨_, rfl⟩
          have rE8 : Row W8 wr.heap.size 93 [.int .i64 (f i j), .int .i64 p1, .int .i64 p2, .int .i64 p3, .int .i64 p4, .int .i64 p5] := by rw [← hW8]; exact Row.new wr _ _
          have rG8 : Row W8 G 53 (vs.set i u) := by rw [← hW8]; exact HRGq.out.alloc _
          have rK8 : Row W8 KB 96 (boardL (boardK (bsN a) (bsN b) pi po ps)) := by rw [← hW8]; exact HRKq.out.alloc _
          have ho8 : W8.ownsRow Li 3 1 u j (rowI j (f i)) := by rw [← hW8]; exact HOw.out.alloc _
          have rd8 : RD W8 (G + 1) (b.size + 1) i vs f := by rw [← hW8]; exact HRDq.out.alloc _
          have b8 : Below w.heap.size w W8 := by rw [← hW8]; exact bl_al HBq.out _
          have hs8 : W8.heap.size = wr.heap.size + 1 := by rw [← hW8]; simp
          have HW8 := Lib.hid hW8
          clear hW8
          go_wp2_with fail
          try rw [HW8.out]
          obtain ⟨Eb, hEb⟩ : ∃ Eb, wr.heap.size = Eb := ⟨_, rfl⟩
          rw [hEb] at rE8 huL hs8 hLq hGq ⊢
          clear k0 k1 k2 k3 k4 k5 hEb HW8
          have q0 : W8.cell? ⟨G, i, none⟩ = some u := by rw [rG8.cell, List.getElem?_set, if_pos rfl, if_pos (by omega)]
          have q1 : W8.cell? ⟨Eb, 0, none⟩ = some (.int .i64 (f i j)) := rE8.cell 0
          have Q0 := Lib.hid q0
          have RE8 := Lib.hid rE8
          have RG8 := Lib.hid rG8
          have RK8 := Lib.hid rK8
          have HO8 := Lib.hid ho8
          have RD8 := Lib.hid rd8
          have B8 := Lib.hid b8
          have HS8 := Lib.hid hs8
          have hnG : some G ≠ u.ownBlock := fun e => by have := (HO8.out.lt _ e.symm).1; omega
          have hnK : some KB ≠ u.ownBlock := fun e => by have := (HO8.out.lt _ e.symm).1; omega
          have hnE : some Eb ≠ u.ownBlock := fun e => by have := (huL.out _ e.symm).2; omega
          clear rE8 rG8 rK8 ho8 rd8 b8 hs8
          refine region_Z (fun W' => W'.cell? ⟨G, i, none⟩ = some u ∧ W'.cell? ⟨Eb, 0, none⟩ = some (.int .i64 (f i j))) 11 hmx ⟨q0, q1⟩ (fun hS => ?_)
          clear q0 q1
          refine take_Z (i := 0) (v := .slice (some ⟨G, 0, none⟩) (a.size + 1) (a.size + 1)) rfl (by kernel_rfl) (by kernel_rfl) (by kernel_rfl) (by kernel_rfl) (fun _ _ _ h => h) (by rfl) (by intro W2 hb; rfl) hS ?_
          try dsimp only [Act.put, Array.setIfInBounds]
          refine take_Z (i := 1) (v := .int .i64 (i : Int)) rfl (by kernel_rfl) (by kernel_rfl) (by kernel_rfl) (by kernel_rfl) (fun _ _ _ h => h) (by rfl) (by intro W2 hb; rfl) hS ?_
          try dsimp only [Act.put, Array.setIfInBounds]
          refine take_Z (i := 2) (v := .slice (some ⟨G, 0, none⟩) (a.size + 1) (a.size + 1)) rfl (by kernel_rfl) (by kernel_rfl) (by kernel_rfl) (by kernel_rfl) (fun _ _ _ h => h) (by rfl) (by intro W2 hb; rfl) hS ?_
          try dsimp only [Act.put, Array.setIfInBounds]
          refine take_Z (i := 3) (v := .int .i64 (i : Int)) rfl (by kernel_rfl) (by kernel_rfl) (by kernel_rfl) (by kernel_rfl) (fun _ _ _ h => h) (by rfl) (by intro W2 hb; rfl) hS ?_
          try dsimp only [Act.put, Array.setIfInBounds]
          refine take_Z (i := 4) (v := .pointer (some ⟨G, i, none⟩)) rfl (by kernel_rfl) (by kernel_rfl) (by kernel_rfl) (by kernel_rfl) (fun _ _ _ h => h) (by rfl) (by intro W2 hb; obtain ⟨q0, q1⟩ := hb; go_simp) hS ?_
          try dsimp only [Act.put, Array.setIfInBounds]
          refine take_Z (i := 5) (v := u) rfl (by kernel_rfl) (by kernel_rfl) (by kernel_rfl) (by kernel_rfl) (fun _ _ _ h => h) (by rfl) (by intro W2 hb; obtain ⟨q0, q1⟩ := hb; go_simp) hS ?_
          try dsimp only [Act.put, Array.setIfInBounds]
          refine take_Z (i := 6) (v := .pointer (some ⟨Eb, 0, none⟩)) rfl (by kernel_rfl) (by kernel_rfl) (by kernel_rfl) (by kernel_rfl) (fun _ _ _ h => h) (by rfl) (by intro W2 hb; obtain ⟨q0, q1⟩ := hb; go_simp) hS ?_
          try dsimp only [Act.put, Array.setIfInBounds]
          refine take_Z (i := 7) (v := .int .i64 (f i j)) rfl (by kernel_rfl) (by kernel_rfl) (by kernel_rfl) (by kernel_rfl) (fun _ _ _ h => h) (by rfl) (by intro W2 hb; obtain ⟨q0, q1⟩ := hb; go_simp) hS ?_
          try dsimp only [Act.put, Array.setIfInBounds]
          refine step_Z (i := 8) rfl (by kernel_rfl) (by rfl) (fun K' hK => ?_)
          go_simp
          refine hK.out _ _ (Or.inr ⟨(cell_later (bl_al (Below.refl _ W8).drew _) hS.1), (cell_later (bl_al (Below.refl _ W8).drew _) hS.2)⟩) ?_
          clear hK K'
          try dsimp only [Act.put, Array.setIfInBounds]
          refine step_Z (i := 9) rfl (by kernel_rfl) (by rfl) (fun K' hK => ?_)
          refine wp_append_lies _ _ _ 53 (by rfl) Li 3 i0 (.int .i64 0) 1 8 Try.underlying53 hi hz0 hz1 hz2 rfl (by decide) _ _ _ (by rfl) (HO8.out.drew.alloc _) ⟨W8.heap.size, 0, none⟩ 1 1 [.int .i64 (f i j)] (by rfl) rfl (cell_one_at rfl _ _) (by simp [Value.oneCell']) (by decide) (by unfold maxLen; omega) (by omega) (by have := HS8.out; simp; omega) (W8.heap.size + 1) (by simp) ?_
          intro g cp w9 hown9 hgrow9 hat9 hlt9
          have c9 : w9.cell? ⟨G, i, none⟩ = some u := hgrow9.cell (cell_later (bl_al (Below.refl _ W8).drew _) Q0.out) hnG
          have e9 : w9.cell? ⟨Eb, 0, none⟩ = some (.int .i64 (f i j)) := hgrow9.cell (cell_later (bl_al (Below.refl _ W8).drew _) (RE8.out.cell 0)) hnE
          refine hK.out _ _ (Or.inr ⟨c9, e9⟩) ?_
          clear hK K'
          try dsimp only [Act.put, Array.setIfInBounds]
          have hS := (show w9.cell? ⟨G, i, none⟩ = some u ∧ w9.cell? ⟨Eb, 0, none⟩ = some (.int .i64 (f i j)) from ⟨c9, e9⟩)
          clear e9
          refine take_Z (i := 10) (v := .pointer (some ⟨G, i, none⟩)) rfl (by kernel_rfl) (by kernel_rfl) (by kernel_rfl) (by kernel_rfl) (fun _ _ _ h => h) (by rfl) (by intro W2 hb; obtain ⟨q0, q1⟩ := hb; go_simp) hS ?_
          try dsimp only [Act.put, Array.setIfInBounds]
          have rG9 : Row w9 G 53 (vs.set i u) := (RG8.out.drew.alloc _).grown hgrow9 hnG
          have rK9 : Row w9 KB 96 (boardL (boardK (bsN a) (bsN b) pi po ps)) := (RK8.out.drew.alloc _).grown hgrow9 hnK
          have f9 := rG9.frozen i
          refine step_Z (i := 11) rfl (by kernel_rfl) (by rfl) (fun K' hK => ?_)
          go_simp
          refine hK.out _ _ (Or.inl rfl) ?_
          clear hK K'
          refine done_Z (by kernel_rfl) ?_ _
          dsimp only [OnlyN, Exit.then, Exit.inBlock]
          have RG10 := Lib.hid (show Row (w9.setCell ⟨G, i, none⟩ (.slice (some ⟨g, 0, none⟩) (j + 1) cp)) G 53 (vs.set i (.slice (some ⟨g, 0, none⟩) (j + 1) cp)) by have h := rG9.set i (.slice (some ⟨g, 0, none⟩) (j + 1) cp); rw [List.set_set] at h; exact h)
          have RK10 := Lib.hid (rK9.other (b' := G) (by omega) (i := i) (.slice (some ⟨g, 0, none⟩) (j + 1) cp))
          have HO10 := Lib.hid (own_set_other (i := i) (u := .slice (some ⟨g, 0, none⟩) (j + 1) cp) (by rw [← rowI_more] at hown9; exact hown9) (fun e => by have := (hown9.lt _ e.symm).1; omega) : (w9.setCell ⟨G, i, none⟩ (.slice (some ⟨g, 0, none⟩) (j + 1) cp)).ownsRow Li 3 1 (.slice (some ⟨g, 0, none⟩) (j + 1) cp) (j + 1) (rowI (j + 1) (f i)))
          have RD10 := Lib.hid (((RD8.out.drew.alloc (.cells #[.int .i64 (f i j)] 3)).kept hgrow9 (fun r q hr hq e => by have h1 := HLtR.out r q hr hq; have h2 := (HO8.out.lt q e).1; omega)).setG (G := G) (q := i) (by omega) (.slice (some ⟨g, 0, none⟩) (j + 1) cp))
          have hsz9 : Li ≤ w9.heap.size := by have h1 := hgrow9.size; have := HS8.out; simp at h1; omega
          have B10 := Lib.hid (((bl_dr B8.out).alloc (by have := HS8.out; show w.heap.size ≤ W8.heap.size; omega) (.cells #[.int .i64 (f i j)] 3)).grown hgrow9 (by have := HS8.out; simp; omega) (fun q e => by have := (HO8.out.lt q e).1; omega) |>.setCell (p := ⟨G, i, none⟩) (show w.heap.size ≤ G by omega) (.slice (some ⟨g, 0, none⟩) (j + 1) cp))
          clear hown9 hgrow9 rG9 rK9 c9 f9 hS
          go_wp2
          go_roundw
          case rel => exact ⟨j + 1, _, hjl, by go_num, RG10.out, HO10.out, RD10.out, RK10.out, by simp [World.setCell]; exact hsz9, B10.out⟩
          case measure => simp only [intOf]; omega
        · obtain rfl : j = b.size + 1 := by omega
          have RDn := Lib.hid ((HRDq.out.more (u := u) (by omega) HOw.out (by omega)))
          have HB2 := HBq
          have hnj : ¬ ((b.size : Int) + 1) < (b.size : Int) + 1 := by omega
          go_wp2_with fail
          go_roundw
          case rel => exact ⟨i + 1, vs.set i u, hil, by go_num, by rw [List.length_set]; exact hvl, HRGq.out, RDn.out, fun r h1 h2 => by rw [List.getElem?_set, if_neg (by omega)]; exact HNil.out r (by omega) h2, HRKq.out, HBq.out⟩
          case measure => simp only [intOf]; omega
    · obtain rfl : i = a.size + 1 := by omega
      have HT := Lib.hid (rd_tab HRD.out HRG.out hvl)
      rw [← HFf.out] at HT
      go_wp2
      go_ret2
      exact ⟨_, rfl, HT.out, HBr.out⟩
end Go.Proofs.Ytkpmkeklopfhdaa
