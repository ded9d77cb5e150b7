/-
  Primes: its contract.
-/
import Derived.Test.YtehjdhegnpmfaaaDoorForms
import Derived.Test.YtehjdhegnpmfaaaDoorCommonFns
import Derived.Sort.OwnSorted
namespace Go.Proofs.YtehjdhegnpmfaaaDoor
open Go.RowKit Go.Shelf
attribute [local go_sem] Oper.semAt_some
set_option maxRecDepth 100000

/-- An append to a variable in a box, its row in younger blocks alone. -/
theorem appended3 {W w1 : World} {n₀ B : Nat} {t e : TypeId} {v v' : Value} {k m : Nat} {xs ys : List Value} {tmp : Obj}
    (hv : Boxed W B t v) (hte : t ≠ e) (hB : B < n₀) (hrow : W.ownsRow n₀ e 1 v k xs) (hn : n₀ ≤ W.heap.size) (hown' : w1.ownsRow n₀ e 1 v' m ys) (hgrow : (W.alloc tmp).grownBy w1 v.ownBlock) :
    Boxed w1 B t v ∧ Boxed (w1.setCell ⟨B, 0, none⟩ v') B t v' ∧ (w1.setCell ⟨B, 0, none⟩ v').ownsRow n₀ e 1 v' m ys ∧ KeepsOthers W (w1.setCell ⟨B, 0, none⟩ v') ∧
      (∀ i, i < n₀ → i ≠ B → (w1.setCell ⟨B, 0, none⟩ v').heap[i]? = W.heap[i]?) ∧ Below B W (w1.setCell ⟨B, 0, none⟩ v') := by
  have weak : ∀ {A : World} {u : Value} {j : Nat} {zs : List Value}, A.ownsRow n₀ e 1 u j zs → A.ownsRow B e 1 u j zs := by
    intro A u j zs h
    obtain ⟨h0, h | ⟨g, cap, cur, h1, h2, h3⟩⟩ := h
    · exact ⟨h0, Or.inl h⟩
    · exact ⟨h0, Or.inr ⟨g, cap, cur, h1, by omega, h3⟩⟩
  obtain ⟨a1, a2, a3, a4, a5⟩ := hv.appended hte (weak hrow) (by omega) (Nat.le_refl _) (weak hown') hgrow
  refine ⟨a1, a2, hown'.kept (grownBy_setCell' w1 B v') (.inr (a1.not_row hte hown').symm), a4, fun i hi hne => ?_, a5⟩
  refine (Below.heap_setCell w1 ⟨B, 0, none⟩ v' i hne).trans ?_
  refine (hgrow.block i (by simp; omega) (row_ne_low hrow hi)).trans ?_
  exact Below.heap_alloc W tmp i (by omega)

theorem valid0 (n : Int) (h1 : 2 ≤ n) (h2 : n ≤ 16) (w : World) :
    Calls Tryd.prog 47 #[.int .i64 n, .slice none 0 0] w fun e w' => e = .returned (.bool true) ∧ w = w' := by
  have hp := pow_bd n (by omega) h2
  go_enter Tryd.func47, Tryd.ntmps47
  go_wp2
  go_loop [6, 15] (fun _ i => i = .int .i64 0) (fun _ _ => 0)
  case atStart => rfl
  case round =>
    obtain rfl := hrel
    go_wp2
    go_ret
    exact ⟨rfl, rfl⟩

/-- The prime forms with so many tones. -/
def sized (s : Nat) (x : Nat) : Bool := (tonesL x).length == s
def primesN (n s : Nat) : List Nat := (forms n (2 ^ n)).filter (sized s)

set_option maxHeartbeats 1000000 in
theorem Primes_ok (n s : Nat) (h1 : 2 ≤ n) (h2 : n ≤ 12) (h3 : s ≤ n) (w : World) (hT : Tab w) :
    Calls Tryd.prog 37 #[.int .i64 n, .int .i64 s] w fun e w' => ∃ v, e = .returned (.tuple #[v, .int .i64 0]) ∧ IntsAt w' w.heap.size v (primesN n s) ∧ Below w.heap.size w w' := by
  have hTs := hT.size
  obtain ⟨i0, hi, hz0, hz1, hz2⟩ := info_parts info_int
  have HV := Lib.hid (valid0 n (by omega) (by omega))
  refine (callsIn_wide (n := 9)).1 ?_
  refine callsIn_of_wp_marks Tryd.func37 rfl trivial ?_ rfl
  simp only [Tryd.ntmps37, List.size_toArray, List.length_cons, List.length_nil, Nat.reduceAdd, Nat.reduceSub, Array.replicate_succ, Array.replicate_zero, List.push_toArray, List.append_toArray, List.nil_append, List.cons_append]
  have q1 : decide ((12 : Int) < (n : Int)) = false := by rw [decide_eq_false_iff_not]; omega
  have q2 : decide ((s : Int) < 0) = false := by rw [decide_eq_false_iff_not]; omega
  have hcs : (w.alloc (.cells #[.int .i64 s] 3)).cell? ⟨w.heap.size, 0, none⟩ = some (.int .i64 s) := cell_at rfl
  gi_wp2_with (first | (refine ⟨trivial, ?_⟩; gi_at_call 47; refine (callsIn_wide.2 (HV.out _)).mono ?_; rintro e w' ⟨rfl, rfl⟩) | (refine ⟨trivial, ?_⟩; gi_at_call 62; refine (callsIn_wide.2 (primeForms_any _ _)).mono ?_; rintro e w' ⟨rfl, rfl⟩))
  clear q1 q2 hcs
  obtain ⟨H, hH⟩ : ∃ H, w.heap.size = H := ⟨_, rfl⟩
  have hH' := Lib.hid hH
  have hHle : H ≤ w.heap.size := by omega
  have hHge : w.heap.size ≤ H := by omega
  have hHl1 : 1 < H := by omega
  obtain ⟨W0, hW0⟩ : ∃ W0, (((w.alloc (Obj.cells #[Value.int IntKind.i64 ↑s] 3)).alloc (Obj.cells #[Value.slice none 0 0] 31)).alloc (Obj.cells #[Value.int IntKind.i64 ↑n] 3)) = W0 := ⟨_, rfl⟩
  have c0 : W0.cell? ⟨H, 0, none⟩ = some (.int .i64 s) := by rw [← hW0]; exact cell_up (cell_up (cell_at (by omega)))
  have b1 : Boxed W0 (H + 1) 31 (.slice none 0 0) := by
    rw [← hW0, ← hH]; have := Boxed.new (w.alloc (Obj.cells #[Value.int IntKind.i64 ↑s] 3)) 31 (.slice none 0 0); rw [World.size_alloc] at this; exact this.alloc _
  have c2 : W0.cell? ⟨H + 1 + 1, 0, none⟩ = some (.int .i64 n) := by rw [← hW0]; exact cell_at (by simp; omega)
  have hB0 : Below H w W0 := by rw [← hW0, ← hH]; exact (((Below.refl _ w).alloc (Nat.le_refl _) _).alloc (by simp) _).alloc (by simp; omega) _
  have hS0 : W0.heap.size = H + 3 := by rw [← hW0, ← hH]; simp
  have hT0 : Tab W0 := hT.below hB0 (by omega)
  have hSS : ∀ i, (i < H ∨ i = H + 1 + 1) → i < W0.heap.size := fun i h => by omega
  rw [hW0, hH]
  clear hW0 hH
  have hp2 : 2 ^ n ≤ 2 ^ 16 := Nat.pow_le_pow_right (by omega) (by omega)
  refine wpIn_rangeFunc_ownF rfl (by omega) (gf := 76) (lb := #[.pointer (some ⟨H + 1 + 1, 0, none⟩)]) rfl trivial (enters_of Tryd.func76 (by kernel_rfl) rfl)
    (primeForms1_stops (fun i => i < H ∨ i = H + 1 + 1) (9 - 1) n (H + 1 + 1) (by omega) h1 (by omega) W0 hT0 (show 1 < H ∨ _ from Or.inl (by omega)) hSS (Or.inr rfl) c2) keptOn_t (keptOn_b hSS) (Below.refl _ _) (fun _ => rfl)
    (fun pre W => ((∃ v, Boxed W (H + 1) 31 v ∧ W.ownsRow (H + 3) 3 1 v ((pre.map Fin.val).filter (sized s)).length (ints ((pre.map Fin.val).filter (sized s))) ∧ True) ∧ W.cell? ⟨H, 0, none⟩ = some (.int .i64 s)) ∧ (Below H w W ∧ H + 3 ≤ W.heap.size))
    (fun _ _ _ => False)
    (OwnFrom.and (OwnFrom.and (Own.from (holdsRow_own (H + 3) (H + 1) 31 3 1 (fun (pre : List (Fin (2 ^ n))) => ((pre.map Fin.val).filter (sized s)).length) (fun (pre : List (Fin (2 ^ n))) => ints ((pre.map Fin.val).filter (sized s))) (fun _ _ => True)) _) (Own.from (fun s A B row hs hg hr => cell_kept hs hg hr) _)) (OwnFrom.and (ownFrom_below hHle (by omega)) (Own.from (fun s A B row hs hg hr => Nat.le_trans hs hg.size) _)))
    (fun _ _ _ _ _ hs _ _ => hs)
    ⟨⟨⟨_, b1, World.ownsRow_nil _ _ _ _, trivial⟩, c0⟩, hB0, by omega⟩
    (fun x => { tmps := #[.int .i64 n, .int .i64 s, undef, .pointer (some ⟨H, 0, none⟩), .slice none 0 0, .int .i64 0, .pointer (some ⟨H + 1, 0, none⟩), .int .i64 x.val, .int .i64 n, .bool true, .bool false, .bool false, .int .i64 n, .bool false, .bool false, .bool false, .int .i64 s, .bool false, .bool false, .bool false, .int .i64 s, .int .i64 n, .bool false, .bool false, .int .i64 n, .func (.func 76) #[] #[.pointer (some ⟨H + 1 + 1, 0, none⟩)], .int .i64 x.val, undef, undef, undef, undef, undef, undef, undef, undef, undef], defers := [] }) ?assign ?body ?done ?stop
  case assign =>
    intro l x W K hK
    gi_wp2
    exact hK
  case body =>
    rintro l pre x W ⟨⟨⟨v, hv, hrow, _⟩, hcs⟩, hB, hsz⟩ hlt
    have hxl := x.isLt
    have HT := Lib.hid (fun V => tonesIn_any x.val (by omega) V)
    have hd : 1 ≤ 9 - 1 - 1 := by omega
    have hcv := hv.cell
    have hmx : Tryd.prog.follows .mixedOrders = true := by kernel_rfl
    have hw0 := Lib.hid hv
    have hr0 := Lib.hid hrow
    have hb0 := Lib.hid hB
    have hf := Lib.hid (show ((pre ++ [x]).map Fin.val).filter (sized s) = (pre.map Fin.val).filter (sized s) ++ if sized s x.val = true then [x.val] else [] by
      rw [List.map_append, List.filter_append]
      congr 1
      by_cases h : sized s x.val = true <;> simp [h])
    clear hv hrow hB
    have hsd : ((((tonesL x.val).length : Nat) : Int) == (s : Int)) = sized s x.val := by
      unfold sized
      rw [Bool.eq_iff_iff, beq_iff_eq, beq_iff_eq]; omega
    generalize (tonesL x.val).length = tt at HT hsd
    have hfl : ((pre.map Fin.val).filter (sized s)).length ≤ pre.length := Nat.le_trans (List.length_filter_le _ _) (by simp)
    by_cases hq : sized s x.val = true
    · rw [hq] at hsd
      rw [if_pos hq] at hf
      clear hq
      gi_wp2
      refine region_tail 3 hmx (by kernel_rfl) (by kernel_rfl) ?_
      simp only [List.take_succ_cons, List.take_zero, List.drop_succ_cons, List.drop_zero]
      still_step
      still_call ((HT.out _).mono (fun e w' h => ⟨h.1, h.2.symm⟩))
      still_step
      refine wpStill_nil ?_
      gi_wp2_with (gi_at_builtin; refine wpListIn_append_own _ rfl _ _ 31 rfl (H + 3) 3 i0 (.int .i64 0) 1 8 Tryd.underlying31 hi hz0 hz1 hz2 rfl (by decide) _ _ _ rfl ((show W.drew.ownsRow (H + 3) 3 1 _ _ _ from hr0.out).alloc _) ⟨W.heap.size, 0, none⟩ 1 1 [.int .i64 x.val] rfl rfl (cell_one_new _ _ _) (by simp [Value.oneCell']) (by unfold maxLen; omega) (by omega) (by simp; omega) ?_; intro v' w1 hown' hgrow _; obtain ⟨g', cap', rfl⟩ := ownsRow_succ hown'; obtain ⟨hv1, hv2, hr2, hk2, hblk, hb2⟩ := appended3 (W := W.drew) (show Boxed W.drew (H + 1) 31 v from hw0.out) (by decide) (by omega) (show W.drew.ownsRow (H + 3) 3 1 v _ _ from hr0.out) hsz hown' hgrow; have hc1 := hv1.cell; have hf1 := hv1.frozen)
      refine ⟨(KeepsOthers.drew W).trans hk2, ⟨hb2.size, fun i hi => hblk i (by omega) (by omega)⟩, ⟨⟨_, hv2, ?_, trivial⟩, ?_⟩, ?_, ?_⟩
      · rw [hf.out, List.length_append]
        unfold ints at hr2 ⊢
        rw [List.map_append]
        exact hr2
      · exact (World.cell?_of_block (w := W) (hblk H (by omega) (by omega))).trans hcs
      · exact hb0.out.trans ⟨hb2.os, hb2.tape, hb2.output, hb2.size, fun i hi => hblk i (by omega) (by omega)⟩
      · exact Nat.le_trans hsz hb2.size
    · have hqf : sized s x.val = false := by simpa using hq
      rw [hqf] at hsd
      rw [if_neg hq, List.append_nil] at hf
      clear hq hqf
      gi_wp2
      refine region_tail 3 hmx (by kernel_rfl) (by kernel_rfl) ?_
      simp only [List.take_succ_cons, List.take_zero, List.drop_succ_cons, List.drop_zero]
      still_step
      still_call ((HT.out _).mono (fun e w' h => ⟨h.1, h.2.symm⟩))
      still_step
      refine wpStill_nil ?_
      gi_wp2
      refine ⟨KeepsOthers.drew W, (KeptOn.refl _ W).drew, ⟨⟨_, hw0.out, ?_, trivial⟩, hcs⟩, hb0.out.drew, hsz⟩
      rw [hf.out]
      exact hr0.out
  case done =>
    rintro D ys W hD hys ⟨⟨⟨v, hv, hrow, _⟩, _⟩, hB, _⟩ hK
    have hys' := Lib.hid hys; clear hys
    have hc1 := hv.cell
    have hrow' := Lib.hid hrow
    clear hrow
    gi_wp2
    refine ⟨by simp, .inl ⟨_, _, rfl, run_takeDeferred hK, ?_⟩⟩
    have hb9 := belowK_b (n₀ := H) (w := W0) (by omega) W D (.deferred (some [])) (.deferred none) (by omega) hK rfl rfl
    have h9 := ownsRow_putObj hrow'.out (.deferred none) hK rfl
    refine ⟨.tuple #[v, .int .i64 0], by simp [results, Tryd.f37, go_sem], v, rfl, ?_, by rw [hH'.out]; exact hB.trans hb9⟩
    rw [hys'.out] at h9
    rcases IntsAt.of_own h9 with h | ⟨g, cap, e1, e2, e3⟩
    · exact Or.inl h
    · exact Or.inr ⟨g, cap, e1, by omega, e3⟩
  case stop =>
    rintro D c pre W _ _ h _
    exact h.elim

end Go.Proofs.YtehjdhegnpmfaaaDoor
