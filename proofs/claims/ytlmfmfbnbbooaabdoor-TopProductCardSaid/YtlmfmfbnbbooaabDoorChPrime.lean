/-
  prime, Prime, and the reference's Prime.
-/
import Derived.Test.YtlmfmfbnbbooaabDoorChLeafA
import Derived.Test.YtlmfmfbnbbooaabDoorChImages
namespace Go.Proofs.YtlmfmfbnbbooaabDoor.Ch
open Go.RowKit Go.Shelf
attribute [local go_sem] Oper.semAt_some
set_option maxRecDepth 100000

/-- The least of a list and one more. -/
def minL (c : Nat) (xs : List Nat) : Nat := xs.foldl min c
theorem minL_snoc (c : Nat) (xs : List Nat) (x : Nat) : minL c (xs ++ [x]) = min (minL c xs) x := by simp [minL]
theorem minL_lt {c B : Nat} (h : c < B) (xs : List Nat) : minL c xs < B := by
  unfold minL
  induction xs generalizing c with
  | nil => exact h
  | cons x xs ih => exact ih (by omega)
def primeN (n c : Nat) : Nat := minL c (imgs n c)

theorem min_nat (a b : Nat) : (if ((b : Nat) : Int) < (a : Int) then ((b : Nat) : Int) else (a : Int)) = ((min a b : Nat) : Int) := by
  rw [Nat.min_def]; split <;> split <;> omega

theorem prime_any (n c : Nat) (hn : 2 ≤ n) (hn2 : n ≤ 16) (hc : c < 2 ^ n) (w : World) (hT : Tab w) :
    Calls Tryd.prog 46 #[.int .i64 n, .int .i64 c] w fun e w' => e = .returned (.int .i64 (primeN n c : Nat)) ∧ Below w.heap.size w w' := by
  have hTs := hT.size
  refine (callsIn_wide (n := 9)).1 ?_
  refine callsIn_of_wp_marks Tryd.func46 rfl trivial ?_ rfl
  simp only [Tryd.ntmps46, List.size_toArray, List.length_cons, List.length_nil, Nat.reduceAdd, Nat.reduceSub, Array.replicate_succ, Array.replicate_zero, List.push_toArray, List.append_toArray, List.nil_append, List.cons_append]
  gi_wp2_with (refine ⟨trivial, ?_⟩; gi_at_call 69; refine (callsIn_wide.2 (images_any _ _ _)).mono ?_; rintro e w' ⟨rfl, rfl⟩)
  obtain ⟨H, hH⟩ : ∃ H, w.heap.size = H := ⟨_, rfl⟩
  have hH' := Lib.hid hH
  have hHle : H ≤ w.heap.size := by omega
  have hHl1 : 1 < H := by omega
  obtain ⟨W0, hW0⟩ : ∃ W0, (((w.alloc (Obj.cells #[Value.int IntKind.i64 ↑c] 3)).alloc (Obj.cells #[Value.int IntKind.i64 ↑n] 3)).alloc (Obj.cells #[Value.int IntKind.i64 ↑c] 3)) = W0 := ⟨_, rfl⟩
  have c0 : W0.cell? ⟨H, 0, none⟩ = some (.int .i64 c) := by rw [← hW0]; exact cell_up (cell_up (cell_at (by omega)))
  have c1 : W0.cell? ⟨H + 1, 0, none⟩ = some (.int .i64 n) := by rw [← hW0]; exact cell_up (cell_at (by simp; omega))
  have c2 : W0.cell? ⟨H + 1 + 1, 0, none⟩ = some (.int .i64 c) := by rw [← hW0]; exact cell_at (by simp; omega)
  have f0 : W0.frozen? ⟨H, 0, none⟩ = false := by rw [← hW0]; exact frozen_up (cell_up (cell_at (by omega))) (frozen_up (cell_at (by omega)) (frozen_at (by omega)))
  have hB0 : Below H w W0 := by rw [← hW0, ← hH]; exact (((Below.refl _ w).alloc (Nat.le_refl _) _).alloc (by simp) _).alloc (by simp; omega) _
  have hS0 : W0.heap.size = H + 3 := by rw [← hW0, ← hH]; simp
  have hT0 : Tab W0 := hT.below hB0 (by omega)
  have hSS : ∀ i, (i < H ∨ i = H + 1) → i < W0.heap.size := fun i h => by omega
  rw [hW0, hH]
  clear hW0 hH
  have hp2 : 2 ^ n ≤ 2 ^ 16 := Nat.pow_le_pow_right (by omega) hn2
  refine wpIn_rangeFunc_ownF rfl (by omega) (gf := 81) (lb := #[.pointer (some ⟨H + 1 + 1, 0, none⟩), .pointer (some ⟨H + 1, 0, none⟩)]) rfl trivial (enters_of Tryd.func81 (by kernel_rfl) rfl)
    (images1_stops (fun i => i < H ∨ i = H + 1) (9 - 1) n c (H + 1 + 1) (H + 1) (by omega) hn hn2 hc W0 hT0 (show 1 < H ∨ _ from Or.inl (by omega)) hSS (Or.inr rfl) c2 c1) keptOn_t (keptOn_b hSS) (Below.refl _ _) (fun _ => rfl)
    (fun pre W => (W.cell? ⟨H, 0, none⟩ = some (.int .i64 (minL c (pre.map Fin.val) : Nat)) ∧ W.frozen? ⟨H, 0, none⟩ = false) ∧ Below H w W)
    (fun _ _ _ => False)
    (OwnFrom.and (Own.from (fun s A B row hs hg hr => ⟨cell_kept hs.1 hg hr, (frozen_kept hs.1 hg hr).trans hs.2⟩) _) (ownFrom_below hHle (by omega)))
    (fun _ _ _ _ _ hs _ _ => hs)
    ⟨⟨c0, f0⟩, hB0⟩
    (fun x => { tmps := #[.int .i64 n, .int .i64 c, undef, undef, .int .i64 0, .pointer (some ⟨H, 0, none⟩), .int .i64 x.val, .int .i64 c, .int .i64 n, .int .i64 c, .func (.func 81) #[] #[.pointer (some ⟨H + 1 + 1, 0, none⟩), .pointer (some ⟨H + 1, 0, none⟩)], .int .i64 x.val, undef, undef, undef, undef], defers := [] }) ?assign ?body ?done ?stop
  case assign =>
    intro l x W K hK
    gi_wp2
    exact hK
  case body =>
    rintro l pre x W ⟨⟨hc1, hc2⟩, hB⟩ _
    have hxl := x.isLt
    have hml := minL_lt (c := c) (B := 2 ^ n) hc (pre.map Fin.val)
    have hsn := Lib.hid (show minL c ((pre ++ [x]).map Fin.val) = min (minL c (pre.map Fin.val)) x.val by rw [List.map_append, List.map_singleton, minL_snoc])
    generalize minL c (pre.map Fin.val) = m at hc1 hml hsn
    have HB := Lib.hid hB
    clear hB
    gi_wp2
    all_goals
      refine ⟨KeepsOthers.setCell _ _ _, (KeptOn.refl _ W).setCell (p := ⟨H, 0, none⟩) (show ¬ (H < H ∨ H = H + 1) by omega) _, ⟨(cell_set_same hc1).trans ?_, frozen_set hc2⟩, HB.out.setCell (p := ⟨H, 0, none⟩) (Nat.le_refl _) _⟩
      rw [hsn.out]
      congr 3
      omega
  case done =>
    rintro D ys W hD hys ⟨⟨hc1, hc2⟩, hB⟩ hK
    have hys' := Lib.hid hys; clear hys
    gi_wp2
    refine ⟨by simp, .inl ⟨_, _, rfl, run_takeDeferred hK, ?_⟩⟩
    refine ⟨_, results_tmp rfl _ _ _, ?_, by rw [hH'.out]; exact hB.trans (belowK_b (w := W0) (by omega) W D _ _ (by omega) hK rfl rfl)⟩
    show Ending.returned (.int .i64 ((minL c (ys.map Fin.val) : Nat) : Int)) = _
    rw [hys'.out]
    rfl
  case stop =>
    rintro D c pre W _ _ h _
    exact h.elim

theorem minL_min (a b : Nat) (ys : List Nat) : minL (min a b) ys = min a (minL b ys) := by
  unfold minL
  induction ys generalizing b with
  | nil => rfl
  | cons y ys ih => simp only [List.foldl_cons]; rw [show min (min a b) y = min a (min b y) from by omega]; exact ih _
theorem minL_le (c : Nat) (xs : List Nat) : minL c xs ≤ c := by
  have := minL_lt (c := c) (B := c + 1) (by omega) xs
  omega
theorem minL_append (c : Nat) (xs ys : List Nat) : minL c (xs ++ ys) = min (minL c xs) (minL c ys) := by
  have h1 : minL c (xs ++ ys) = minL (minL c xs) ys := by unfold minL; rw [List.foldl_append]
  have h2 := minL_le c xs
  rw [h1, show minL c xs = min (minL c xs) c from by omega, minL_min]
  congr 1
  omega

/-- The least, round after round as the reference takes it. -/
def minTo (n c : Nat) (k : Nat) : Nat := minL c ((List.range k).map (mvN n c) ++ (List.range k).map (mvN n (mulN n c (-1))))
theorem minTo_succ (n c k : Nat) : minTo n c (k + 1) = min (min (minTo n c k) (mvN n c k)) (mvN n (mulN n c (-1)) k) := by
  unfold minTo
  rw [List.range_succ, List.map_append, List.map_append, List.map_singleton, List.map_singleton]
  have e1 := minL_append c ((List.range k).map (mvN n c) ++ [mvN n c k]) ((List.range k).map (mvN n (mulN n c (-1))) ++ [mvN n (mulN n c (-1)) k])
  have e2 := minL_snoc c ((List.range k).map (mvN n c)) (mvN n c k)
  have e3 := minL_snoc c ((List.range k).map (mvN n (mulN n c (-1)))) (mvN n (mulN n c (-1)) k)
  have e4 := minL_append c ((List.range k).map (mvN n c)) ((List.range k).map (mvN n (mulN n c (-1))))
  rw [e1, e2, e3, e4]
  omega
theorem minTo_full (n c : Nat) : minTo n c n = primeN n c := rfl
theorem minTo_lt {n c : Nat} (h : c < 2 ^ n) (k : Nat) : minTo n c k < 2 ^ n := minL_lt h _

theorem Prime_bad (n c : Int) (h : vldB n c = false) (w : World) :
    Calls Tryd.prog 22 #[.int .i64 n, .int .i64 c] w fun e w' => e = .returned (.tuple #[.int .i64 0, .int .i64 2]) ∧ Below w.heap.size w w' := by
  have HV := Lib.hid (valid_of n c _ h)
  clear h
  go_enter Tryd.func22, Tryd.ntmps22
  go_wp2_with (go_at_call 41; refine (HV.out _ _ (cell_at rfl)).mono ?_; rintro e w' ⟨rfl, rfl⟩)
  go_ret2
  exact ⟨rfl, (Below.refl _ w).alloc (Nat.le_refl _) _⟩

theorem Prime_ok (n c : Nat) (h1 : 2 ≤ n) (h2 : n ≤ 16) (h3 : c < 2 ^ n) (w : World) (hT : Tab w) :
    Calls Tryd.prog 22 #[.int .i64 n, .int .i64 c] w fun e w' => e = .returned (.tuple #[.int .i64 ((primeN n c : Nat) : Int), .int .i64 0]) ∧ Below w.heap.size w w' := by
  have HV := Lib.hid (valid_of n c _ (vldB_of_nat h1 h2 h3))
  have hB : Below w.heap.size w (w.alloc (.cells #[.int .i64 c] 3)) := (Below.refl _ w).alloc (Nat.le_refl _) _
  have HM := Lib.hid (prime_any n c h1 h2 h3 (w.alloc (.cells #[.int .i64 c] 3)) (hT.same hB))
  clear hT
  generalize primeN n c = p at HM
  go_enter Tryd.func22, Tryd.ntmps22
  go_wp2_with (first | (go_at_call 41; refine (HV.out _ _ (cell_at rfl)).mono ?_; rintro e w' ⟨rfl, rfl⟩) | (go_at_call 46; refine HM.out.mono ?_; rintro e w' ⟨rfl, hb⟩))
  go_ret2
  exact ⟨rfl, hB.trans ((by assumption : Below _ _ _).mono (by simp))⟩

end Go.Proofs.YtlmfmfbnbbooaabDoor.Ch
