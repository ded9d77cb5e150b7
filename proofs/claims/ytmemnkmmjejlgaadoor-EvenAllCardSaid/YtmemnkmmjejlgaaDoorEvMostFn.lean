/-
  Most of package even.
-/
import Derived.Test.YtmemnkmmjejlgaaDoorEvRefList
namespace Go.Proofs.YtmemnkmmjejlgaaDoor
open Go.RowKit Go.Shelf Go.Sort Go.Maps
attribute [local go_sem] Oper.semAt_some
set_option maxRecDepth 100000

set_option maxHeartbeats 8000000 in
theorem Most_ok (n k : Nat) (hn : 2 ≤ n) (hn2 : n ≤ 16) (hk1 : 1 ≤ k) (hk2 : k ≤ n) (w : World) (hT : Tab w) :
    Calls Tryd.prog 31 #[.int .i64 n, .int .i64 k] w fun e w' => ∃ v, e = .returned (.tuple #[v, .int .i64 0]) ∧ w'.ownsRow w.heap.size 3 1 v (mostL n k).length (ints (mostL n k)) ∧ Below w.heap.size w w' := by
  have hTs := hT.size
  obtain ⟨i0, hi, hz0, hz1, hz2⟩ := info_parts info_int
  have HV := Lib.hid (hasScales_any n k)
  rw [vldK_of_nat hn hn2 hk1 hk2] at HV
  have HR := Lib.hid (scales_any (n : Int) (k : Int))
  have hcn : (w.alloc (.cells #[.int .i64 n] 3)).cell? ⟨w.heap.size, 0, none⟩ = some (.int .i64 n) := cell_at rfl
  have hcn2 : (((w.alloc (.cells #[.int .i64 n] 3)).alloc (.cells #[.slice none 0 0] 25)).alloc (.cells #[.int .i64 0] 3)).cell? ⟨w.heap.size, 0, none⟩ = some (.int .i64 n) := cell_up (cell_up (cell_at rfl))
  refine (callsIn_wide (n := 9)).1 ?_
  refine callsIn_of_wp_marks Tryd.func31 rfl trivial ?_ rfl
  simp only [Tryd.ntmps31, List.size_toArray, List.length_cons, List.length_nil, Nat.reduceAdd, Nat.reduceSub, Array.replicate_succ, Array.replicate_zero, List.push_toArray, List.append_toArray, List.nil_append, List.cons_append]
  gi_wp2_with (refine ⟨trivial, ?_⟩; first | (gi_at_call 59; refine (callsIn_wide.2 (HV.out _)).mono ?_; rintro e w' ⟨rfl, rfl⟩) | (gi_at_call 60; refine (callsIn_wide.2 (HR.out _)).mono ?_; rintro e w' ⟨rfl, rfl⟩))
  clear hcn hcn2
  obtain ⟨H, hH⟩ : ∃ H, w.heap.size = H := ⟨_, rfl⟩
  have hH' := Lib.hid hH
  have hHle : H ≤ w.heap.size := by omega
  have hHl1 : 1 < H := by omega
  obtain ⟨W0, hW0⟩ : ∃ W0, (((((w.alloc (Obj.cells #[Value.int IntKind.i64 ↑n] 3)).alloc (Obj.cells #[Value.slice none 0 0] 25)).alloc (Obj.cells #[Value.int IntKind.i64 0] 3)).alloc (Obj.cells #[Value.int IntKind.i64 ↑n] 3)).alloc (Obj.cells #[Value.int IntKind.i64 ↑k] 3)) = W0 := ⟨_, rfl⟩
  have c0 : W0.cell? ⟨H, 0, none⟩ = some (.int .i64 n) := by rw [← hW0]; exact cell_up (cell_up (cell_up (cell_up (cell_at (by omega)))))
  have b1 : Boxed W0 (H + 1) 25 (.slice none 0 0) := by
    rw [← hW0, ← hH]; have := Boxed.new (w.alloc (Obj.cells #[Value.int IntKind.i64 ↑n] 3)) 25 (.slice none 0 0); simp only [World.size_alloc] at this; exact ((this.alloc _).alloc _).alloc _
  have b2 : Boxed W0 (H + 1 + 1) 3 (.int .i64 ((0 : Nat) : Int)) := by
    rw [← hW0, ← hH]; have := Boxed.new ((w.alloc (Obj.cells #[Value.int IntKind.i64 ↑n] 3)).alloc (Obj.cells #[Value.slice none 0 0] 25)) 3 (.int .i64 0); simp only [World.size_alloc] at this; exact (this.alloc _).alloc _
  have c2 : W0.cell? ⟨H + 1 + 1 + 1, 0, none⟩ = some (.int .i64 n) := by rw [← hW0]; exact cell_up (cell_at (by simp; omega))
  have c3 : W0.cell? ⟨H + 1 + 1 + 1 + 1, 0, none⟩ = some (.int .i64 k) := by rw [← hW0]; exact cell_at (by simp; omega)
  have hB0 : Below H w W0 := by rw [← hW0, ← hH]; exact (((((Below.refl _ w).alloc (Nat.le_refl _) _).alloc (by simp) _).alloc (by simp; omega) _).alloc (by simp; omega) _).alloc (by simp; omega) _
  have hS0 : W0.heap.size = H + 5 := by rw [← hW0, ← hH]; simp
  have hSS : ∀ i, (i < H + 5 ∧ i ≠ H + 1 ∧ i ≠ H + 1 + 1) → i < W0.heap.size := fun i h => by omega
  rw [hW0, hH]
  clear hW0 hH
  have hp2 : 2 ^ n ≤ 2 ^ 16 := Nat.pow_le_pow_right (by omega) hn2
  refine wpIn_rangeFunc_ownF rfl (by omega) (gf := 76) (lb := #[.pointer (some ⟨H + 1 + 1 + 1, 0, none⟩), .pointer (some ⟨H + 1 + 1 + 1 + 1, 0, none⟩)]) rfl trivial (enters_of Tryd.func76 (by kernel_rfl) rfl)
    (scales1_stops (fun i => i < H + 5 ∧ i ≠ H + 1 ∧ i ≠ H + 1 + 1) (9 - 1) n k (H + 1 + 1 + 1) (H + 1 + 1 + 1 + 1) (by omega) hn hn2 W0 hSS (show H + 1 + 1 + 1 < H + 5 ∧ _ ∧ _ by omega) (show H + 1 + 1 + 1 + 1 < H + 5 ∧ _ ∧ _ by omega) c2 c3) keptOn_t (keptOn_b hSS) (Below.refl _ _) (fun _ => rfl)
    (fun pre W => (((∃ v, Boxed W (H + 1) 25 v ∧ W.ownsRow (H + 5) 3 1 v (mstTo n (pre.map Subtype.val)).2.length (ints (mstTo n (pre.map Subtype.val)).2) ∧ True) ∧ W.cell? ⟨H, 0, none⟩ = some (.int .i64 n)) ∧ Boxed W (H + 1 + 1) 3 (.int .i64 (((mstTo n (pre.map Subtype.val)).1 : Nat) : Int))) ∧ (Below H w W ∧ H + 5 ≤ W.heap.size))
    (fun _ _ _ => False)
    (OwnFrom.and (OwnFrom.and (OwnFrom.and (Own.from (holdsRow_own (H + 5) (H + 1) 25 3 1 (fun (pre : List (ScOf n k)) => (mstTo n (pre.map Subtype.val)).2.length) (fun (pre : List (ScOf n k)) => ints (mstTo n (pre.map Subtype.val)).2) (fun _ _ => True)) _) (Own.from (fun s A B row hs hg hr => cell_kept hs hg hr) _)) (Own.from (boxed_own (H + 1 + 1) 3 (fun (pre : List (ScOf n k)) => Value.int .i64 (((mstTo n (pre.map Subtype.val)).1 : Nat) : Int))) _)) (OwnFrom.and (ownFrom_below hHle (by omega)) (Own.from (fun s A B row hs hg hr => Nat.le_trans hs hg.size) _)))
    (fun _ _ _ _ _ hs _ _ => hs)
    ⟨⟨⟨⟨_, b1, World.ownsRow_nil _ _ _ _, trivial⟩, c0⟩, b2⟩, hB0, by omega⟩
    (fun x => { tmps := #[.int .i64 n, .int .i64 k, .pointer (some ⟨H, 0, none⟩), undef, .slice none 0 0, .int .i64 0, .pointer (some ⟨H + 1, 0, none⟩), .pointer (some ⟨H + 1 + 1, 0, none⟩), .int .i64 x.val, undef, .int .i64 n, .int .i64 k, .bool true, .bool false, .int .i64 n, .int .i64 k, .func (.func 76) #[] #[.pointer (some ⟨H + 1 + 1 + 1, 0, none⟩), .pointer (some ⟨H + 1 + 1 + 1 + 1, 0, none⟩)], .int .i64 x.val, undef, undef, undef, undef, undef, undef, undef, undef, undef, undef, undef, undef, undef, undef, undef], defers := [] }) ?assign ?body ?done ?stop
  case assign =>
    intro l x W K hK
    gi_wp2
    exact hK
  case body =>
    rintro l pre x W ⟨⟨⟨⟨v, hv, hrow, _⟩, hc0⟩, hbG⟩, hB, hsz⟩ hlt
    have hx1 := x.property.1
    have hx2 := sc_pos hn2 hk1 x
    have hTW : Tab W := hT.below hB (by omega)
    have HE := Lib.hid (sum_slice n x.val hn hn2 hx2 hx1 W hTW)
    have hst : mstTo n ((pre ++ [x]).map Subtype.val) = mstStep n (mstTo n (pre.map Subtype.val)) x.val := by
      rw [List.map_append]; exact mstTo_snoc _ _ _
    have hfl : (mstTo n (pre.map Subtype.val)).2.length ≤ pre.length := Nat.le_trans (mst_length _ _) (by simp)
    have hw0 := Lib.hid hv
    have hr0 := Lib.hid hrow
    have hg0 := Lib.hid hbG
    have FIN : Hid (∀ W', Below W.heap.size W W' → KeepsOthers W W' ∧ KeptOn (fun i => i < H + 5 ∧ i ≠ H + 1 ∧ i ≠ H + 1 + 1) W W' ∧ W'.cell? ⟨H, 0, none⟩ = some (.int .i64 n) ∧ Below H w W' ∧ H + 5 ≤ W'.heap.size) := Lib.hid (fun W' hb =>
      ⟨⟨hb.size, fun k o hk _ => (hb.block k (Array.getElem?_eq_some_iff.1 hk).1).trans hk⟩, (KeptOn.refl _ W).below hb (fun i hi => by omega), cell_later hb hc0, hB.trans (hb.mono (by omega)), Nat.le_trans hsz hb.size⟩)
    clear hv hrow hB hTW hx2 hbG
    rcases hmst : mstTo n (pre.map Subtype.val) with ⟨G, L⟩
    rw [hmst] at hst hr0 hg0 hfl
    have Hst := Lib.hid hst
    unfold mstStep at hst
    simp only at hst hr0 hg0 hfl
    have hcg := hg0.out.cell
    generalize sumS n x.val = r at HE hst
    clear hmst
    by_cases hgt : G < r
    · rw [if_pos hgt] at hst
      have Hst2 := Lib.hid hst
      clear hst Hst
      gi_wp2_with (first
        | (refine ⟨trivial, ?_⟩; gi_at_call 58; refine (CallsIn.inRound l (callsIn_wide.2 HE.out)).mono ?_; rintro e W1 ⟨rfl, hb1⟩; obtain ⟨f1, f2, f3, f5, f6⟩ := FIN.out _ hb1; have F1 := Lib.hid f1; have F2 := Lib.hid f2; have F5 := Lib.hid f5; have hv1 := Lib.hid (boxed_later hw0.out hb1); have hr1 := Lib.hid (owns_later hr0.out hb1); have hg1 := Lib.hid (boxed_later hg0.out hb1); have hcg1 := hg1.out.cell; have hfg1 := hg1.out.frozen; have hcv := hv1.out.cell; have hfv := hv1.out.frozen; clear f1 f2 f5 hb1)
        | (gi_at_builtin
           have hs2 : W1.heap.size = ((W1.setCell ⟨H + 1 + 1, 0, none⟩ (.int .i64 r)).setCell ⟨H + 1, 0, none⟩ (.slice none 0 0)).heap.size := by simp [World.setCell]
           have k1 : Boxed ((W1.setCell ⟨H + 1 + 1, 0, none⟩ (.int .i64 r)).setCell ⟨H + 1, 0, none⟩ (.slice none 0 0)) (H + 1) 25 (.slice none 0 0) := (((Row.ofBox hv1.out).other (show H + 1 ≠ H + 1 + 1 by omega) _).set 0 (.slice none 0 0)).box
           have k2 : Boxed ((W1.setCell ⟨H + 1 + 1, 0, none⟩ (.int .i64 r)).setCell ⟨H + 1, 0, none⟩ (.slice none 0 0)) (H + 1 + 1) 3 (.int .i64 r) := (((Row.ofBox hg1.out).set 0 (.int .i64 r)).other (show H + 1 + 1 ≠ H + 1 by omega) _).box
           have k3 : KeepsOthers W1 ((W1.setCell ⟨H + 1 + 1, 0, none⟩ (.int .i64 r)).setCell ⟨H + 1, 0, none⟩ (.slice none 0 0)) := (KeepsOthers.setCell _ _ _).trans (KeepsOthers.setCell _ _ _)
           have k4 : KeptOn (fun i => i < H + 5 ∧ i ≠ H + 1 ∧ i ≠ H + 1 + 1) W1 ((W1.setCell ⟨H + 1 + 1, 0, none⟩ (.int .i64 r)).setCell ⟨H + 1, 0, none⟩ (.slice none 0 0)) := ((KeptOn.refl _ W1).setCell (p := ⟨H + 1 + 1, 0, none⟩) (show ¬ (H + 1 + 1 < H + 5 ∧ H + 1 + 1 ≠ H + 1 ∧ H + 1 + 1 ≠ H + 1 + 1) by omega) _).setCell (p := ⟨H + 1, 0, none⟩) (show ¬ (H + 1 < H + 5 ∧ H + 1 ≠ H + 1 ∧ H + 1 ≠ H + 1 + 1) by omega) _
           have k5 : Below H w ((W1.setCell ⟨H + 1 + 1, 0, none⟩ (.int .i64 r)).setCell ⟨H + 1, 0, none⟩ (.slice none 0 0)) := (F5.out.setCell (p := ⟨H + 1 + 1, 0, none⟩) (show H ≤ H + 1 + 1 by omega) _).setCell (p := ⟨H + 1, 0, none⟩) (show H ≤ H + 1 by omega) _
           have k6 : ((W1.setCell ⟨H + 1 + 1, 0, none⟩ (.int .i64 r)).setCell ⟨H + 1, 0, none⟩ (.slice none 0 0)).cell? ⟨H, 0, none⟩ = some (.int .i64 n) := cell_set_other (cell_set_other f3 (show H ≠ H + 1 + 1 by omega)) (show H ≠ H + 1 by omega)
           rw [hs2]
           rw [hs2] at f6
           generalize (W1.setCell ⟨H + 1 + 1, 0, none⟩ (.int .i64 r)).setCell ⟨H + 1, 0, none⟩ (.slice none 0 0) = W2 at k1 k2 k3 k4 k5 k6 f6 ⊢
           have K2 := Lib.hid k2
           have K3 := Lib.hid k3
           have K4 := Lib.hid k4
           have K5 := Lib.hid k5
           clear hs2 k2 k3 k4 k5
           refine wpListIn_append_own _ rfl _ _ 25 rfl (H + 5) 3 i0 (.int .i64 0) 1 8 Tryd.underlying25 hi hz0 hz1 hz2 rfl (by decide) _ _ _ rfl ((World.ownsRow_nil W2 (H + 5) 3 1).alloc _) ⟨W2.heap.size, 0, none⟩ 1 1 [.int .i64 x.val] rfl rfl (cell_one_new _ _ _) (by simp [Value.oneCell']) (by unfold maxLen; omega) (by omega) (by simp; omega) ?_
           intro v' w1 hown' hgrow _
           obtain ⟨g', cap', rfl⟩ := ownsRow_succ hown'
           obtain ⟨hv1', hv2, hr2, hk2, hblk, hb2⟩ := appended3 k1 (by decide) (by omega) (World.ownsRow_nil W2 (H + 5) 3 1) f6 hown' hgrow
           have hc1 := hv1'.cell
           have hf1 := hv1'.frozen))
      refine ⟨(F1.out.trans K3.out).trans hk2, (F2.out.trans K4.out).trans ⟨hb2.size, fun i hi => hblk i hi.1 hi.2.1⟩, ⟨⟨⟨_, hv2, ?_, trivial⟩, ?_⟩, ?_⟩, ?_, ?_⟩
      · rw [Hst2.out]
        exact hr2
      · exact (World.cell?_of_block (w := W2) (hblk H (by omega) (by omega))).trans k6
      · rw [Hst2.out]
        exact (hblk (H + 1 + 1) (by omega) (by omega)).trans K2.out
      · exact K5.out.trans ⟨hb2.os, hb2.tape, hb2.output, hb2.size, fun i hi => hblk i (by omega) (by omega)⟩
      · exact Nat.le_trans f6 hb2.size
    · rw [if_neg hgt] at hst
      by_cases heq : r = G
      · rw [if_pos heq] at hst
        have Hst2 := Lib.hid hst
        clear hst Hst
        subst heq
        gi_wp2_with (first
          | (refine ⟨trivial, ?_⟩; gi_at_call 58; refine (CallsIn.inRound l (callsIn_wide.2 HE.out)).mono ?_; rintro e W1 ⟨rfl, hb1⟩; obtain ⟨f1, f2, f3, f5, f6⟩ := FIN.out _ hb1; have F1 := Lib.hid f1; have F2 := Lib.hid f2; have F5 := Lib.hid f5; have hv1 := Lib.hid (boxed_later hw0.out hb1); have hr1 := Lib.hid (owns_later hr0.out hb1); have hg1 := Lib.hid (boxed_later hg0.out hb1); have hcg1 := hg1.out.cell; have hfg1 := hg1.out.frozen; have hcv := hv1.out.cell; have hfv := hv1.out.frozen; clear f1 f2 f5 hb1)
          | (gi_at_builtin; refine wpListIn_append_own _ rfl _ _ 25 rfl (H + 5) 3 i0 (.int .i64 0) 1 8 Tryd.underlying25 hi hz0 hz1 hz2 rfl (by decide) _ _ _ rfl ((by assumption : Hid (World.ownsRow _ _ _ _ _ _ _)).out.alloc _) ⟨_, 0, none⟩ 1 1 [.int .i64 x.val] rfl rfl (cell_one_new _ _ _) (by simp [Value.oneCell']) (by unfold maxLen; omega) (by omega) (by simp; omega) ?_; intro v' w1 hown' hgrow _; obtain ⟨g', cap', rfl⟩ := ownsRow_succ hown'; obtain ⟨hv1', hv2, hr2, hk2, hblk, hb2⟩ := appended3 hv1.out (by decide) (by omega) hr1.out (by assumption) hown' hgrow; have hc1 := hv1'.cell; have hf1 := hv1'.frozen))
        refine ⟨F1.out.trans hk2, F2.out.trans ⟨hb2.size, fun i hi => hblk i hi.1 hi.2.1⟩, ⟨⟨⟨_, hv2, ?_, trivial⟩, ?_⟩, ?_⟩, ?_, ?_⟩
        · rw [Hst2.out]
          simp only [List.length_append]
          unfold ints at hr2 ⊢
          rw [List.map_append]
          exact hr2
        · exact (World.cell?_of_block (w := W1) (hblk H (by omega) (by omega))).trans f3
        · rw [Hst2.out]
          exact (hblk (H + 1 + 1) (by omega) (by omega)).trans hg1.out
        · exact F5.out.trans ⟨hb2.os, hb2.tape, hb2.output, hb2.size, fun i hi => hblk i (by omega) (by omega)⟩
        · exact Nat.le_trans f6 hb2.size
      · rw [if_neg heq] at hst
        have Hst2 := Lib.hid hst
        clear hst Hst
        gi_wp2_with (refine ⟨trivial, ?_⟩; gi_at_call 58; refine (CallsIn.inRound l (callsIn_wide.2 HE.out)).mono ?_; rintro e W1 ⟨rfl, hb1⟩; obtain ⟨f1, f2, f3, f5, f6⟩ := FIN.out _ hb1; have F1 := Lib.hid f1; have F2 := Lib.hid f2; have F5 := Lib.hid f5; have hv1 := Lib.hid (boxed_later hw0.out hb1); have hr1 := Lib.hid (owns_later hr0.out hb1); have hg1 := Lib.hid (boxed_later hg0.out hb1); have hcg1 := hg1.out.cell; have hfg1 := hg1.out.frozen; have hcv := hv1.out.cell; have hfv := hv1.out.frozen; clear f1 f2 f5 hb1)
        refine ⟨F1.out, F2.out, ⟨⟨⟨v, hv1.out, ?_, trivial⟩, f3⟩, ?_⟩, F5.out, f6⟩
        · rw [Hst2.out]; exact hr1.out
        · rw [Hst2.out]; exact hg1.out
  case done =>
    rintro D ys W hD hys ⟨⟨⟨⟨v, hv, hrow, _⟩, _⟩, _⟩, hB, _⟩ hK
    have hys' := Lib.hid hys; clear hys
    have hc1 := hv.cell
    have hrow' := Lib.hid hrow
    have HB := Lib.hid hB
    clear hrow hB
    gi_wp2
    refine ⟨by simp, .inl ⟨_, _, rfl, run_takeDeferred hK, ?_⟩⟩
    have hb9 := belowK_b (n₀ := H) (w := W0) (by omega) W D (.deferred (some [])) (.deferred none) (by omega) hK rfl rfl
    have h9 := ownsRow_putObj hrow'.out (.deferred none) hK rfl
    refine ⟨.tuple #[v, .int .i64 0], by simp [results, Tryd.f31, go_sem], v, rfl, ?_, by rw [hH'.out]; exact HB.out.trans hb9⟩
    rw [hys'.out] at h9
    rw [hH'.out]
    obtain ⟨x0, h | ⟨g, cap, cur, e1, e2, e3⟩⟩ := h9
    · exact ⟨x0, Or.inl h⟩
    · exact ⟨x0, Or.inr ⟨g, cap, cur, e1, by omega, e3⟩⟩
  case stop =>
    rintro D c pre W _ _ h _
    exact h.elim

end Go.Proofs.YtmemnkmmjejlgaaDoor
