/-
  The reference's Class.
-/
import Derived.Test.YtehjdhegnpmfaaaDoorClassFns
namespace Go.Proofs.YtehjdhegnpmfaaaDoor
open Go.RowKit Go.Shelf
attribute [local go_sem] Oper.semAt_some
set_option maxRecDepth 100000

/-- Truth values as cells. -/
def bools (p : Nat → Bool) (k : Nat) : List Value := (List.range k).map fun x => Value.bool (p x)
theorem bools_at {p : Nat → Bool} {k i : Nat} (h : i < k) : (bools p k)[i]? = some (.bool (p i)) := by
  simp [bools, h]
theorem bools_set (p : Nat → Bool) (k i : Nat) : (bools p k).set i (.bool true) = bools (fun x => p x || x == i) k := by
  unfold bools
  apply List.ext_getElem
  · simp
  · intro j h1 h2
    rw [List.getElem_set]
    simp only [List.getElem_map, List.getElem_range]
    by_cases h : i = j
    · subst h; rw [if_pos rfl]; simp
    · rw [if_neg h]
      have : (j == i) = false := by rw [beq_eq_false_iff_ne]; omega
      rw [this, Bool.or_false]
theorem madeCells_bools (k : Nat) : madeCells #[Value.bool false] k = (bools (fun _ => false) k).toArray := by
  apply Array.ext
  · rw [size_madeCells]; simp [bools]
  · intro i h1 h2
    simp [madeCells, bools, Nat.mod_one]
theorem run_make_bools (k : Nat) (hk : k ≤ 65536) (W : World) : (Instr.makeSlice 66 (.int .i64 (k : Int)) (.int .i64 (k : Int))).run Tryd.prog W = .ok (.slice (some ⟨W.heap.size, 0, none⟩) k k) (W.alloc (.cells (bools (fun _ => false) k).toArray 4)) := by
  rw [← madeCells_bools]
  exact run_make_row' 66 4 (.bool false) 1 Tryd.underlying66 (by kernel_rfl) rfl .i64 .i64 k (by omega) (by omega) W

def seenTo (n c t k : Nat) : List Nat := (List.range k).map (mvN n c) ++ (List.range k).map (mvN n t)
theorem seen_succ {n c t k x : Nat} : x ∈ seenTo n c t (k + 1) ↔ (x ∈ seenTo n c t k ∨ x = mvN n c k ∨ x = mvN n t k) := by
  unfold seenTo
  simp only [List.range_succ, List.map_append, List.map_singleton, List.mem_append, List.mem_singleton]
  constructor
  · rintro ((h | h) | (h | h))
    · exact Or.inl (Or.inl h)
    · exact Or.inr (Or.inl h)
    · exact Or.inl (Or.inr h)
    · exact Or.inr (Or.inr h)
  · rintro ((h | h) | (h | h))
    · exact Or.inl (Or.inl h)
    · exact Or.inr (Or.inl h)
    · exact Or.inl (Or.inr h)
    · exact Or.inr (Or.inr h)

def clsTo (n c k : Nat) : List Nat := (List.range k).filter fun x => decide (x ∈ imgs n c)
theorem clsTo_succ (n c k : Nat) : clsTo n c (k + 1) = clsTo n c k ++ if k ∈ imgs n c then [k] else [] := by
  unfold clsTo
  rw [List.range_succ, List.filter_append]
  congr 1
  by_cases h : k ∈ imgs n c <;> simp [h]
theorem clsTo_length (n c k : Nat) : (clsTo n c k).length ≤ k := by
  unfold clsTo
  exact Nat.le_trans (List.length_filter_le _ _) (by simp)

theorem refClass_any (n c : Nat) (h1 : 2 ≤ n) (h2 : n ≤ 16) (h3 : c < 2 ^ n) (w : World) :
    Calls Tryd.prog 32 #[.int .i64 n, .int .i64 c] w fun e w' => ∃ v, e = .returned v ∧ IntsAt w' w.heap.size v (clsN n c) ∧ Below w.heap.size w w' := by
  obtain ⟨i0, hi, hz0, hz1, hz2⟩ := info_parts info_int
  have hp := pow_bd (n : Int) (by omega) (by omega)
  simp only [Int.toNat_natCast] at hp
  have hn2 : 2 ^ n ≤ 2 ^ 16 := Nat.pow_le_pow_right (by omega) h2
  have HM := Lib.hid (fun k hk => refMove_nat n c k h1 h2 h3 hk)
  have HT := Lib.hid (refTurn_ok n c h1 h2 h3)
  have HM2 := Lib.hid (fun k hk => refMove_nat n (mulN n c (-1)) k h1 h2 (mulN_lt16 h1) hk)
  have HI := Lib.hid (show imgs n c = seenTo n c (mulN n c (-1)) n from rfl)
  have hmk : ∀ W : World, (Instr.makeSlice 66 (.int .i64 ((2 : Int) ^ n)) (.int .i64 ((2 : Int) ^ n))).run Tryd.prog W = .ok (.slice (some ⟨W.heap.size, 0, none⟩) (2 ^ n) (2 ^ n)) (W.alloc (.cells (bools (fun _ => false) (2 ^ n)).toArray 4)) := fun W => by
    have := run_make_bools (2 ^ n) (by omega) W
    rwa [show ((2 ^ n : Nat) : Int) = (2 : Int) ^ n from by simp] at this
  have HL1 := Lib.hid (fun k => mv_lt (n := n) (c := c) (u := k))
  have HL2 := Lib.hid (fun k => mv_lt (n := n) (c := mulN n c (-1)) (u := k))
  have HC := Lib.hid (show clsN n c = clsTo n c (2 ^ n) from rfl)
  generalize mulN n c (-1) = t at HT HM2 HI HL2
  obtain ⟨H, hH⟩ : ∃ H, w.heap.size = H := ⟨_, rfl⟩
  have r0 := Row.new w 4 (bools (fun _ => false) (2 ^ n))
  have B0 : Below w.heap.size w (w.alloc (.cells (bools (fun _ => false) (2 ^ n)).toArray 4)) := (Below.refl _ w).alloc (Nat.le_refl _) _
  rw [hH] at r0 B0
  clear h3
  go_enter Tryd.func32, Tryd.ntmps32
  go_wp2
  have hH' := Lib.hid hH
  generalize w.alloc (.cells (bools (fun _ => false) (2 ^ n)).toArray 4) = W0 at r0 B0 ⊢
  clear hmk hH
  generalize 2 ^ n = P at r0 HC HL1 HL2 hn2 ⊢
  go_loopw [6, 14] (fun _ i wr => ∃ (k : Nat) (p : Nat → Bool), k ≤ n ∧ i = .int .i64 k ∧ Row wr H 4 (bools p P) ∧ (∀ x, p x = true ↔ x ∈ seenTo n c t k) ∧ Below H w wr) (fun _ i _ => n - (intOf i).toNat)
  case atStart => exact ⟨0, fun _ => false, Nat.zero_le _, rfl, r0, fun x => by simp [seenTo], B0⟩
  case round =>
    obtain ⟨k, p, hk, rfl, hr, hp2, hB⟩ := hrel
    by_cases hlt : k < n
    · have hm1 := Lib.hid (HM.out k hlt)
      have hm2 := Lib.hid (HM2.out k hlt)
      have l1 := HL1.out k
      have l2 := HL2.out k
      have hsn := Lib.hid (fun x => seen_succ (n := n) (c := c) (t := t) (k := k) (x := x))
      generalize mvN n c k = x1 at hm1 l1 hsn
      generalize mvN n t k = x2 at hm2 l2 hsn
      have hr2 := hr.set x1 (.bool true)
      rw [bools_set] at hr2
      have hr3 := hr2.set x2 (.bool true)
      rw [bools_set] at hr3
      have ca := (hr.cell x1).trans (bools_at l1)
      have fa := hr.frozen x1
      have cb := (hr2.cell x2).trans (bools_at l2)
      have fb := hr2.frozen x2
      have hfin := Lib.hid hr3
      have hpp := Lib.hid hp2
      clear hr hr2 hr3 hp2
      generalize p x1 = q1 at ca
      generalize (p x2 || x2 == x1) = q2 at cb
      go_wp2_with fail
      refine (hm1.out _).mono ?_
      rintro e w' ⟨rfl, rfl⟩
      go_wp2_with fail
      refine (HT.out _).mono ?_
      rintro e w' ⟨rfl, rfl⟩
      go_wp2_with fail
      refine (hm2.out _).mono ?_
      rintro e w' ⟨rfl, rfl⟩
      go_wp2
      go_roundw
      case rel => exact ⟨k + 1, _, by omega, by go_num, hfin.out, fun x => by
          rw [hsn.out x, ← hpp.out x]
          simp [or_assoc], (hB.setCell (p := ⟨H, x1, none⟩) (Nat.le_refl _) _).setCell (p := ⟨H, x2, none⟩) (Nat.le_refl _) _⟩
      case measure => simp only [intOf]; omega
    · obtain rfl : k = n := by omega
      rw [← HI.out] at hp2
      have hpp := Lib.hid hp2
      have hr' := Lib.hid hr
      have hBs := hB.size
      clear hp2 hr
      go_wp2_with fail
      have HS := Lib.hid (clsTo_succ k c)
      have HLn := Lib.hid (clsTo_length k c)
      have hHw : H < wr.heap.size := hr'.out.lt
      have hHw0 : w.heap.size ≤ H := by have := hH'.out; omega
      have hBr := Lib.hid hB
      clear hB
      go_loopw [7, 8, 9, 34] (fun v _ _ i wq => ∃ y : Nat, y ≤ P ∧ i = .int .i64 y ∧ wq.ownsRow (H + 1) 3 1 v (clsTo k c y).length (ints (clsTo k c y)) ∧ Row wq H 4 (bools p P) ∧ Below H w wq) (fun _ _ _ i _ => P - (intOf i).toNat)
      case atStart => exact ⟨0, Nat.zero_le _, rfl, World.ownsRow_nil _ _ _ _, hr'.out, hBr.out⟩
      case round =>
        obtain ⟨y, hy, rfl, hown, hrq, hBq⟩ := hrel
        by_cases hly : y < P
        · have cy := (hrq.cell y).trans (bools_at hly)
          have hs := hBq.size
          have hlt2 := hrq.lt
          have hl := HLn.out y
          have hw := HS.out y
          have ho' := Lib.hid hown
          have hrq' := Lib.hid hrq
          have hBq' := Lib.hid hBq
          clear hown hrq hBq
          by_cases hm : y ∈ imgs k c
          · rw [if_pos hm] at hw
            rw [(hpp.out y).2 hm] at cy
            have hw' := Lib.hid hw
            have hlen : (clsTo k c y).length ≤ 65536 := by omega
            clear hw hm
            go_wp2_with (at_builtin; refine wpList_append_own _ rfl _ _ 31 rfl (H + 1) 3 i0 (.int .i64 0) 1 8 Tryd.underlying31 hi hz0 hz1 hz2 rfl (by decide) _ _ _ rfl (ho'.out.alloc _) ⟨wr.heap.size, 0, none⟩ 1 1 [.int .i64 y] rfl rfl (cell_one_new _ _ _) (by simp [Value.oneCell']) (by unfold maxLen; omega) (by omega) (by simp; omega) ?_; intro v' w1 hown1 hgrow1 hnil1)
            go_roundw
            case rel => exact ⟨y + 1, by omega, by go_num, by rw [hw'.out, List.length_append]; unfold ints at hown1 ⊢; rw [List.map_append]; exact hown1, (hrq'.out.alloc _).grown hgrow1 (fun e => by have := (ho'.out.lt H e.symm).1; omega), (hBq'.out.alloc (by omega) _).grown hgrow1 (by simp; omega) (fun q e => by have := (ho'.out.lt q e).1; omega)⟩
            case measure => simp only [intOf]; omega
          · have hpf : p y = false := by
              cases h : p y with
              | false => rfl
              | true => exact absurd ((hpp.out y).1 h) hm
            rw [if_neg hm, List.append_nil] at hw
            rw [hpf] at cy
            have hw' := Lib.hid hw
            clear hw hm hpf
            go_wp2
            go_roundw
            case rel => exact ⟨y + 1, by omega, by go_num, by rw [hw'.out]; exact ho'.out, hrq'.out, hBq'.out⟩
            case measure => simp only [intOf]; omega
        · obtain rfl : y = P := by omega
          have ho := Lib.hid (IntsAt.of_own hown)
          clear hown
          go_wp2
          go_ret
          refine ⟨_, rfl, ?_, by rw [hH'.out]; exact hBq⟩
          rw [HC.out]
          rcases ho.out with h | ⟨g, cap, e1, e2, e3⟩
          · exact Or.inl h
          · exact Or.inr ⟨g, cap, e1, by omega, e3⟩

end Go.Proofs.YtehjdhegnpmfaaaDoor
