/-
  The walk of the statement on lists.
-/
import Derived.Test.YtmemnkmmjejlgaaDoorEvMostFn
import Derived.Test.YtmemnkmmjejlgaaDoorEvTurnsLaw
namespace Go.Proofs.YtmemnkmmjejlgaaDoor
open Go.RowKit Go.Shelf
attribute [local go_sem] Oper.semAt_some
set_option maxRecDepth 100000

/-- A slice of integers that can be read; nil just where there are none. -/
def IntsAt (W : World) (v : Value) (xs : List Nat) : Prop :=
  (v = .slice none 0 0 ∧ xs = []) ∨ ∃ g cap, v = .slice (some ⟨g, 0, none⟩) xs.length cap ∧ ∀ i, i < xs.length → W.cell? ⟨g, i, none⟩ = some (.int .i64 ((xs[i]?.getD 0 : Nat) : Int))

theorem IntsAt.later {W W' : World} {v : Value} {xs : List Nat} (h : IntsAt W v xs) (hb : Below W.heap.size W W') : IntsAt W' v xs := by
  rcases h with h | ⟨g, cap, h1, h3⟩
  · exact Or.inl h
  · exact Or.inr ⟨g, cap, h1, fun i hi => cell_later hb (h3 i hi)⟩
theorem IntsAt.drewN {W : World} {v : Value} {xs : List Nat} (h : IntsAt W v xs) (m : Nat) : IntsAt (W.drewN m) v xs := h

theorem IntsAt.of_own {W : World} {lo : Nat} {v : Value} {xs : List Nat} (h : W.ownsRow lo 3 1 v xs.length (ints xs)) : IntsAt W v xs := by
  have h' := h
  obtain ⟨h0, h1 | ⟨g, cap, cur, hv, hg, hh, h2⟩⟩ := h
  · exact Or.inl ⟨h1.1, List.eq_nil_of_length_eq_zero h1.2⟩
  · refine Or.inr ⟨g, cap, hv, fun i hi => ?_⟩
    subst hv
    have := h'.cellAt i (by omega)
    rw [this, ints_at hi]

theorem EqInts_any {v u : Value} {xs : List Nat} {w : World} (hl : xs.length < 2 ^ 40) (h : IntsAt w v xs) (k : IntsAt w u xs) : Calls Tryd.prog 21 #[v, u] w fun e w' => e = .returned (.bool true) ∧ ∃ m, w' = w.drewN m := by
  rcases h with ⟨rfl, rfl⟩ | ⟨g, cap, rfl, hg⟩ <;> rcases k with ⟨rfl, h0⟩ | ⟨g', cap', rfl, hg'⟩
  · exact EqInts_zero _ _ _ _ w
  · exact EqInts_zero _ _ _ _ w
  · subst h0; exact EqInts_zero _ _ _ _ w
  · exact EqualInts_same xs g g' cap cap' w hl hg hg'

theorem listE_length {n k : Nat} (h : n ≤ 16) : (listE n k).length ≤ 65536 := by
  have hp16 : 2 ^ n ≤ 2 ^ 16 := Nat.pow_le_pow_right (by omega) h
  unfold listE
  exact Nat.le_trans (List.length_filter_le _ _) (Nat.le_trans (scTo_length _ _) hp16)
theorem mostL_length {n k : Nat} (h : n ≤ 16) : (mostL n k).length ≤ 65536 := by
  have hp16 : 2 ^ n ≤ 2 ^ 16 := Nat.pow_le_pow_right (by omega) h
  unfold mostL
  exact Nat.le_trans (mst_length _ _) (Nat.le_trans (scTo_length _ _) hp16)

set_option maxHeartbeats 4000000 in
theorem EvenLists_walk (n k : Int) (_w0 : (Lit.int .i64 n).wf = true) (_w1 : (Lit.int .i64 k).wf = true) (w : World) (hT : Tab w) :
    Calls Tryd.prog 6 #[.int .i64 n, .int .i64 k] w fun e w' => e = .returned (.bool true) ∧ Below w.heap.size w w' := by
  have HV := Lib.hid (Part_any n k)
  by_cases hv : vldK n k = true
  · rw [hv] at HV
    obtain ⟨n, k, rfl, rfl, h1, h2, h3, h4⟩ := vldK_nat hv
    have HM := Lib.hid (Most_ok n k h1 h2 h3 h4 w hT)
    have HL := Lib.hid (fun W hW => List_ok n k h1 h2 h3 h4 W hW)
    have HRM := Lib.hid (fun W => refMost_any n k h1 h2 h3 W)
    have HRL := Lib.hid (fun W => refList_any n k h1 h2 h3 W)
    have hl1 := mostL_length (n := n) (k := k) h2
    have hl2 := listE_length (n := n) (k := k) h2
    generalize mostL n k = xs at HM HRM hl1
    generalize listE n k = ys at HL HRL hl2
    have HEq1 := Lib.hid (fun v u W h k => EqInts_any (v := v) (u := u) (xs := xs) (w := W) (by omega) h k)
    have HEq2 := Lib.hid (fun v u W h k => EqInts_any (v := v) (u := u) (xs := ys) (w := W) (by omega) h k)
    clear hv h3 h4 hl1 hl2
    go_enter Tryd.func6, Tryd.ntmps6
    go_wp2_with fail
    refine HM.out.mono ?_
    rintro e w1 ⟨v1, rfl, o1, b1⟩
    have t1 := hT.same b1
    have L1 := Lib.hid (IntsAt.of_own o1)
    clear o1
    go_wp2_with fail
    refine (HL.out _ t1).mono ?_
    rintro e w2 ⟨v2, rfl, o2, b2⟩
    have c2 := below_next b1 b2
    have L12 := Lib.hid (L1.out.later b2)
    have L2 := Lib.hid (IntsAt.of_own o2)
    clear b1 b2 t1 o2 L1
    go_wp2_with fail
    refine (HV.out _).mono ?_
    rintro e w4 ⟨rfl, rfl⟩
    go_wp2_with fail
    refine (HRM.out _).mono ?_
    rintro e w3 ⟨v3, rfl, o3, b3⟩
    have c3 := below_next c2 b3
    have L13 := Lib.hid (L12.out.later b3)
    have L23 := Lib.hid (L2.out.later b3)
    have L3 := Lib.hid (IntsAt.of_own o3)
    clear c2 b3 o3 L12 L2
    go_wp2_with fail
    refine (HEq1.out _ _ _ L13.out L3.out).mono ?_
    rintro e w4 ⟨rfl, m4, rfl⟩
    have c4 := below_drewN c3 m4
    have L24 := Lib.hid (L23.out.drewN m4)
    clear c3 L13 L3 L23
    go_wp2_with fail
    refine (HRL.out _).mono ?_
    rintro e w5 ⟨v5, rfl, o5, b5⟩
    have c5 := below_next c4 b5
    have L25 := Lib.hid (L24.out.later b5)
    have L5 := Lib.hid (IntsAt.of_own o5)
    clear c4 b5 o5 L24
    go_wp2_with fail
    refine (HEq2.out _ _ _ L25.out L5.out).mono ?_
    rintro e w6 ⟨rfl, m6, rfl⟩
    have c6 := below_drewN c5 m6
    clear c5 L25 L5
    go_wp2_with fail
    refine (awake_any _).mono ?_
    rintro e w7 ⟨rfl, b7⟩
    have c7 := below_next c6 b7
    clear c6 b7
    go_wp2
    go_ret
    exact ⟨rfl, c7⟩
  · have hv' : vldK n k = false := by simpa using hv
    rw [hv'] at HV
    have HM := Lib.hid (Most_bad n k hv')
    have HL := Lib.hid (List_bad n k hv')
    clear hv hv' hT
    go_enter Tryd.func6, Tryd.ntmps6
    go_wp2_with fail
    refine (HM.out _).mono ?_
    rintro e w1 ⟨rfl, b1⟩
    go_wp2_with fail
    refine (HL.out _).mono ?_
    rintro e w2 ⟨rfl, b2⟩
    have c2 := below_next b1 b2
    clear b1 b2
    go_wp2_with fail
    refine (HV.out _).mono ?_
    rintro e w4 ⟨rfl, rfl⟩
    go_wp2_with fail
    refine (awake_any _).mono ?_
    rintro e w5 ⟨rfl, b5⟩
    have c5 := below_next c2 b5
    clear c2 b5
    go_wp2
    go_ret
    exact ⟨rfl, c5⟩

end Go.Proofs.YtmemnkmmjejlgaaDoor
