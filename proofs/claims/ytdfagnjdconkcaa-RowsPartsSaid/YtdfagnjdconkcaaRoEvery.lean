/-
  The reference's steps; whether every step comes; awake.
-/
import Derived.Test.YtdfagnjdconkcaaRoSteps
import Derived.Deep.RegionHeld3
import Derived.Deep.AppendLies
namespace Go.Proofs.Ytdfagnjdconkcaa
open Go.ChangeShapes Go.WideShapes Go.ChangeAt Go.RowKit
set_option maxRecDepth 100000

theorem stS_below {w W : World} {H : Nat} {p q : Addr} {a b : Value} (hH : w.heap.size = H) (h1 : w.cell? p = some a) (h2 : w.cell? q = some b) (h : Below H w W) :
    W.cell? p = some a ∧ W.cell? q = some b ∧ Below H w W := by
  subst hH
  exact ⟨cell_later h h1, cell_later h h2, h⟩

theorem part_every {n : Nat} {ys : List Nat} (h : 0 < n) : partB n (natI (stepsL n ys)) = everyB n ys := by
  unfold partB everyB
  rw [Bool.eq_iff_iff, decide_eq_true_eq, decide_eq_true_eq, natI_nodup]
  refine ⟨fun h => h.2, fun hd => ⟨fun x hx => ?_, hd⟩⟩
  obtain ⟨y, hy, rfl⟩ := List.mem_map.1 hx
  have := stepsL_lt h ys y hy
  omega

theorem dup_every {n : Nat} {ys : List Nat} {k : Nat} (hk : k < (stepsL n ys).length) (h : (stepsL n ys)[k]?.getD 0 ∈ (stepsL n ys).take k) : everyB n ys = false := by
  unfold everyB
  refine decide_eq_false (fun hd => ?_)
  generalize stepsL n ys = l at *
  rw [← List.take_append_drop k l, List.nodup_append] at hd
  rw [List.getElem?_eq_getElem hk] at h
  have hm : l[k] ∈ l.drop k := by rw [List.drop_eq_getElem_cons hk]; exact List.mem_cons_self
  exact hd.2.2 _ h _ hm rfl

theorem Steps_ok (n : Nat) (ys : List Nat) (hr : IsRow n ys) (v : Value) (w : World) (h : IntsV w v (natI ys)) :
    Calls Try.prog 17 #[v] w fun e w' => ∃ v', e = .returned (.tuple #[v', .int .i64 0]) ∧ IntsV w' v' (natI (stepsL n ys)) ∧ Below w.heap.size w w' := by
  have HR := Lib.hid (isRow_any (natI ys) v w (by rw [natI_length, hr.len]; have := hr.hi; unfold maxLen; omega) h)
  rw [row_of hr] at HR
  have HS := Lib.hid (steps_any n ys hr v w h)
  clear h hr
  go_enter Try.func17, Try.ntmps17
  go_wp2_with fail
  refine HR.out.mono ?_
  rintro e w1 ⟨rfl, rfl⟩
  go_wp2_with fail
  refine HS.out.mono ?_
  rintro e w2 ⟨v', rfl, h1, hb⟩
  have H1 := Lib.hid h1
  clear h1
  go_wp2
  go_ret2
  exact ⟨v', rfl, H1.out, hb⟩

theorem Steps_bad (xs : List Int) (hl : xs.length ≤ maxLen) (hr : rowB xs = false) (v : Value) (w : World) (h : IntsV w v xs) :
    Calls Try.prog 17 #[v] w fun e w' => e = .returned (.tuple #[.slice none 0 0, .int .i64 2]) ∧ w = w' := by
  have HR := Lib.hid (isRow_any xs v w hl h)
  rw [hr] at HR
  clear h hr
  go_enter Try.func17, Try.ntmps17
  go_wp2_with fail
  refine HR.out.mono ?_
  rintro e w1 ⟨rfl, rfl⟩
  go_wp2
  go_ret2
  exact ⟨rfl, rfl⟩

theorem row_0132 : IsRow 4 [0, 1, 3, 2] := ⟨rfl, by decide, by decide, by decide, by decide⟩
theorem steps_0132 : natI (stepsL 4 [0, 1, 3, 2]) = [1, 2, 3] := by decide

theorem awake_any (w : World) : Calls Try.prog 9 #[] w fun e w' => e = .returned (.bool true) ∧ Below w.heap.size w w' := by
  obtain ⟨W0, hW0⟩ : ∃ W0, w.alloc (.cells #[.int .i64 0, .int .i64 1, .int .i64 3, .int .i64 2] 3) = W0 := ⟨_, rfl⟩
  have b0 : Below w.heap.size w W0 := by rw [← hW0]; exact (Below.refl _ w).alloc (Nat.le_refl _) _
  have h0 : IntsV W0 (.slice (some ⟨w.heap.size, 0, none⟩) 4 4) (natI [0, 1, 3, 2]) := ⟨_, 4, rfl, by decide, fun _ => ⟨_, _, rfl, fun i hi => by
    rw [← hW0]
    have : i = 0 ∨ i = 1 ∨ i = 2 ∨ i = 3 := by simp [natI] at hi; omega
    rcases this with rfl | rfl | rfl | rfl <;> simp [natI]⟩⟩
  have HS := Lib.hid (Steps_ok 4 _ row_0132 _ W0 h0)
  rw [steps_0132] at HS
  have HW := Lib.hid hW0
  clear h0 hW0
  go_enter Try.func9, Try.ntmps9
  go_wp2_with fail
  rw [HW.out]
  refine HS.out.mono ?_
  rintro e w1 ⟨v', rfl, h1, hb⟩
  have H1 := Lib.hid h1
  clear h1
  go_wp2_with fail
  have H2 : IntsV (w1.alloc (.cells #[.int .i64 1, .int .i64 2, .int .i64 3] 3)) (.slice (some ⟨w1.heap.size, 0, none⟩) 3 3) [1, 2, 3] := ⟨_, 3, rfl, by decide, fun _ => ⟨_, _, rfl, fun i hi => by
    have : i = 0 ∨ i = 1 ∨ i = 2 := by simp at hi; omega
    rcases this with rfl | rfl | rfl <;> simp⟩⟩
  have HE := Lib.hid (Equal_any [1, 2, 3] [1, 2, 3] v' _ _ (by unfold maxLen; decide) (by unfold maxLen; decide) (H1.out.later ((Below.refl _ w1).alloc (Nat.le_refl _) _)) H2)
  rw [show (([1, 2, 3] : List Int) == [1, 2, 3]) = true by decide] at HE
  clear H2
  refine HE.out.mono ?_
  rintro e w2 ⟨rfl, q, rfl⟩
  go_wp2
  go_ret
  exact ⟨rfl, below_drewN ((below_nx b0 hb).alloc (below_nx b0 hb).size _) q⟩
end Go.Proofs.Ytdfagnjdconkcaa
