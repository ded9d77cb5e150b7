/-
  List and Most of package even.
-/
import Derived.Test.YtmemnkmmjejlgaaDoorEvScales
import Derived.Test.YtmemnkmmjejlgaaDoorEvMostMath
import Derived.Test.YtmemnkmmjejlgaaDoorChVec
import Derived.Maps.OwnIn
namespace Go.Proofs.YtmemnkmmjejlgaaDoor
open Go.RowKit Go.Shelf Go.Sort Go.Maps
attribute [local go_sem] Oper.semAt_some
set_option maxRecDepth 100000

theorem appended3 {W w1 : World} {n₀ B : Nat} {t e : TypeId} {v v' : Value} {k m : Nat} {xs ys : List Value} {tmp : Obj}
    (hv : Boxed W B t v) (hte : t ≠ e) (hB : B < n₀) (hrow : W.ownsRow n₀ e 1 v k xs) (hn : n₀ ≤ W.heap.size) (hown' : w1.ownsRow n₀ e 1 v' m ys) (hgrow : (W.alloc tmp).grownBy w1 v.ownBlock) :
    Boxed w1 B t v ∧ Boxed (w1.setCell ⟨B, 0, none⟩ v') B t v' ∧ (w1.setCell ⟨B, 0, none⟩ v').ownsRow n₀ e 1 v' m ys ∧ KeepsOthers W (w1.setCell ⟨B, 0, none⟩ v') ∧
      (∀ i, i < n₀ → i ≠ B → (w1.setCell ⟨B, 0, none⟩ v').heap[i]? = W.heap[i]?) ∧ Below B W (w1.setCell ⟨B, 0, none⟩ v') := by
  have weak : ∀ {A : World} {u : Value} {j : Nat} {zs : List Value}, A.ownsRow n₀ e 1 u j zs → A.ownsRow B e 1 u j zs := by
    intro A u j zs h
    obtain ⟨h0, h | ⟨g, cap, cur, h1, h2, h3⟩⟩ := h
    · exact ⟨h0, Or.inl h⟩
    · exact ⟨h0, Or.inr ⟨g, cap, cur, h1, by omega, h3⟩⟩
  obtain ⟨a1, a2, a3, a4, a5⟩ := hv.appended hte (weak hrow) (by omega) (Nat.le_refl _) (weak hown') hgrow
  refine ⟨a1, a2, hown'.kept (grownBy_setCell' w1 B v') (.inr (a1.not_row hte hown').symm), a4, fun i hi hne => ?_, a5⟩
  refine (Below.heap_setCell w1 ⟨B, 0, none⟩ v' i hne).trans ?_
  refine (hgrow.block i (by simp; omega) (row_ne_low hrow hi)).trans ?_
  exact Below.heap_alloc W tmp i (by omega)


theorem boxed_later {W W' : World} {B : Nat} {t : TypeId} {v : Value} (h : Boxed W B t v) (hb : Below W.heap.size W W') : Boxed W' B t v :=
  h.kept (row := none) ⟨hb.os, hb.tape, hb.output, hb.size, fun i hi _ => hb.block i hi⟩ (by simp)

theorem sc_pos {n k : Nat} (_hn : n ≤ 16) (hk : 1 ≤ k) (x : ScOf n k) : 1 ≤ x.val := by
  apply Nat.pos_of_ne_zero
  intro h0
  have := x.property.2
  rw [h0, tonesL_zero] at this
  simp at this
  omega

theorem List_bad (n k : Int) (h : vldK n k = false) (w : World) :
    Calls Tryd.prog 32 #[.int .i64 n, .int .i64 k] w fun e w' => e = .returned (.tuple #[.slice none 0 0, .int .i64 2]) ∧ Below w.heap.size w w' := by
  have HV := Lib.hid (hasScales_any n k)
  rw [h] at HV
  have hc : (w.alloc (.cells #[.int .i64 n] 3)).cell? ⟨w.heap.size, 0, none⟩ = some (.int .i64 n) := cell_at rfl
  clear h
  go_enter Tryd.func32, Tryd.ntmps32
  go_wp2_with (go_at_call 59; refine (HV.out _).mono ?_; rintro e w' ⟨rfl, rfl⟩)
  go_ret2
  exact ⟨rfl, below_two _ _⟩

theorem Most_bad (n k : Int) (h : vldK n k = false) (w : World) :
    Calls Tryd.prog 31 #[.int .i64 n, .int .i64 k] w fun e w' => e = .returned (.tuple #[.slice none 0 0, .int .i64 2]) ∧ Below w.heap.size w w' := by
  have HV := Lib.hid (hasScales_any n k)
  rw [h] at HV
  have hc : (w.alloc (.cells #[.int .i64 n] 3)).cell? ⟨w.heap.size, 0, none⟩ = some (.int .i64 n) := cell_at rfl
  clear h
  go_enter Tryd.func31, Tryd.ntmps31
  go_wp2_with (go_at_call 59; refine (HV.out _).mono ?_; rintro e w' ⟨rfl, rfl⟩)
  go_ret2
  exact ⟨rfl, below_two _ _⟩

/-- The even scales with k tones. -/
def listE (n k : Nat) : List Nat := (scTo k (2 ^ n)).filter (evenB n)

set_option maxHeartbeats 4000000 in
theorem List_ok (n k : Nat) (hn : 2 ≤ n) (hn2 : n ≤ 16) (hk1 : 1 ≤ k) (hk2 : k ≤ n) (w : World) (hT : Tab w) :
    Calls Tryd.prog 32 #[.int .i64 n, .int .i64 k] w fun e w' => ∃ v, e = .returned (.tuple #[v, .int .i64 0]) ∧ w'.ownsRow w.heap.size 3 1 v (listE n k).length (ints (listE n k)) ∧ Below w.heap.size w w' := by
  have hTs := hT.size
  obtain ⟨i0, hi, hz0, hz1, hz2⟩ := info_parts info_int
  have HV := Lib.hid (hasScales_any n k)
  rw [vldK_of_nat hn hn2 hk1 hk2] at HV
  have HR := Lib.hid (scales_any (n : Int) (k : Int))
  have hcn : (w.alloc (.cells #[.int .i64 n] 3)).cell? ⟨w.heap.size, 0, none⟩ = some (.int .i64 n) := cell_at rfl
  refine (callsIn_wide (n := 9)).1 ?_
  refine callsIn_of_wp_marks Tryd.func32 rfl trivial ?_ rfl
  simp only [Tryd.ntmps32, List.size_toArray, List.length_cons, List.length_nil, Nat.reduceAdd, Nat.reduceSub, Array.replicate_succ, Array.replicate_zero, List.push_toArray, List.append_toArray, List.nil_append, List.cons_append]
  gi_wp2_with (refine ⟨trivial, ?_⟩; first | (gi_at_call 59; refine (callsIn_wide.2 (HV.out _)).mono ?_; rintro e w' ⟨rfl, rfl⟩) | (gi_at_call 60; refine (callsIn_wide.2 (HR.out _)).mono ?_; rintro e w' ⟨rfl, rfl⟩))
  clear hcn
  obtain ⟨H, hH⟩ : ∃ H, w.heap.size = H := ⟨_, rfl⟩
  have hH' := Lib.hid hH
  have hHle : H ≤ w.heap.size := by omega
  have hHl1 : 1 < H := by omega
  obtain ⟨W0, hW0⟩ : ∃ W0, ((((w.alloc (Obj.cells #[Value.int IntKind.i64 ↑n] 3)).alloc (Obj.cells #[Value.slice none 0 0] 25)).alloc (Obj.cells #[Value.int IntKind.i64 ↑n] 3)).alloc (Obj.cells #[Value.int IntKind.i64 ↑k] 3)) = W0 := ⟨_, rfl⟩
  have c0 : W0.cell? ⟨H, 0, none⟩ = some (.int .i64 n) := by rw [← hW0]; exact cell_up (cell_up (cell_up (cell_at (by omega))))
  have b1 : Boxed W0 (H + 1) 25 (.slice none 0 0) := by
    rw [← hW0, ← hH]; have := Boxed.new (w.alloc (Obj.cells #[Value.int IntKind.i64 ↑n] 3)) 25 (.slice none 0 0); simp only [World.size_alloc] at this; exact (this.alloc _).alloc _
  have c2 : W0.cell? ⟨H + 1 + 1, 0, none⟩ = some (.int .i64 n) := by rw [← hW0]; exact cell_up (cell_at (by simp; omega))
  have c3 : W0.cell? ⟨H + 1 + 1 + 1, 0, none⟩ = some (.int .i64 k) := by rw [← hW0]; exact cell_at (by simp; omega)
  have hB0 : Below H w W0 := by rw [← hW0, ← hH]; exact ((((Below.refl _ w).alloc (Nat.le_refl _) _).alloc (by simp) _).alloc (by simp; omega) _).alloc (by simp; omega) _
  have hS0 : W0.heap.size = H + 4 := by rw [← hW0, ← hH]; simp
  have hSS : ∀ i, (i < H + 4 ∧ i ≠ H + 1) → i < W0.heap.size := fun i h => by omega
  rw [hW0, hH]
  clear hW0 hH
  have hp2 : 2 ^ n ≤ 2 ^ 16 := Nat.pow_le_pow_right (by omega) hn2
  refine wpIn_rangeFunc_ownF rfl (by omega) (gf := 76) (lb := #[.pointer (some ⟨H + 1 + 1, 0, none⟩), .pointer (some ⟨H + 1 + 1 + 1, 0, none⟩)]) rfl trivial (enters_of Tryd.func76 (by kernel_rfl) rfl)
    (scales1_stops (fun i => i < H + 4 ∧ i ≠ H + 1) (9 - 1) n k (H + 1 + 1) (H + 1 + 1 + 1) (by omega) hn hn2 W0 hSS (show H + 1 + 1 < H + 4 ∧ H + 1 + 1 ≠ H + 1 by omega) (show H + 1 + 1 + 1 < H + 4 ∧ H + 1 + 1 + 1 ≠ H + 1 by omega) c2 c3) keptOn_t (keptOn_b hSS) (Below.refl _ _) (fun _ => rfl)
    (fun pre W => ((∃ v, Boxed W (H + 1) 25 v ∧ W.ownsRow (H + 4) 3 1 v ((pre.map Subtype.val).filter (evenB n)).length (ints ((pre.map Subtype.val).filter (evenB n))) ∧ True) ∧ W.cell? ⟨H, 0, none⟩ = some (.int .i64 n)) ∧ (Below H w W ∧ H + 4 ≤ W.heap.size))
    (fun _ _ _ => False)
    (OwnFrom.and (OwnFrom.and (Own.from (holdsRow_own (H + 4) (H + 1) 25 3 1 (fun (pre : List (ScOf n k)) => ((pre.map Subtype.val).filter (evenB n)).length) (fun (pre : List (ScOf n k)) => ints ((pre.map Subtype.val).filter (evenB n))) (fun _ _ => True)) _) (Own.from (fun s A B row hs hg hr => cell_kept hs hg hr) _)) (OwnFrom.and (ownFrom_below hHle (by omega)) (Own.from (fun s A B row hs hg hr => Nat.le_trans hs hg.size) _)))
    (fun _ _ _ _ _ hs _ _ => hs)
    ⟨⟨⟨_, b1, World.ownsRow_nil _ _ _ _, trivial⟩, c0⟩, hB0, by omega⟩
    (fun x => { tmps := #[.int .i64 n, .int .i64 k, .pointer (some ⟨H, 0, none⟩), undef, .slice none 0 0, .int .i64 0, .pointer (some ⟨H + 1, 0, none⟩), .int .i64 x.val, .int .i64 n, .int .i64 k, .bool true, .bool false, .int .i64 n, .int .i64 k, .func (.func 76) #[] #[.pointer (some ⟨H + 1 + 1, 0, none⟩), .pointer (some ⟨H + 1 + 1 + 1, 0, none⟩)], .int .i64 x.val, undef, undef, undef, undef, undef, undef, undef, undef], defers := [] }) ?assign ?body ?done ?stop
  case assign =>
    intro l x W K hK
    gi_wp2
    exact hK
  case body =>
    rintro l pre x W ⟨⟨⟨v, hv, hrow, _⟩, hc0⟩, hB, hsz⟩ hlt
    have hx1 := x.property.1
    have hx2 := sc_pos hn2 hk1 x
    have hTW : Tab W := hT.below hB (by omega)
    have HE := Lib.hid (isEven_any n x.val hn hn2 hx2 hx1 W hTW)
    have hf : ((pre ++ [x]).map Subtype.val).filter (evenB n) = (pre.map Subtype.val).filter (evenB n) ++ if evenB n x.val = true then [x.val] else [] := by
      rw [List.map_append, List.filter_append]
      congr 1
      by_cases h : evenB n x.val = true <;> simp [h]
    have hfl : ((pre.map Subtype.val).filter (evenB n)).length ≤ pre.length := Nat.le_trans (List.length_filter_le _ _) (by simp)
    have hw0 := Lib.hid hv
    have hr0 := Lib.hid hrow
    have hb0 := Lib.hid hB
    have FIN : Hid (∀ W', Below W.heap.size W W' → KeepsOthers W W' ∧ KeptOn (fun i => i < H + 4 ∧ i ≠ H + 1) W W' ∧ W'.cell? ⟨H, 0, none⟩ = some (.int .i64 n) ∧ Below H w W' ∧ H + 4 ≤ W'.heap.size) := Lib.hid (fun W' hb =>
      ⟨⟨hb.size, fun k o hk _ => (hb.block k (Array.getElem?_eq_some_iff.1 hk).1).trans hk⟩, (KeptOn.refl _ W).below hb (fun i hi => by omega), cell_later hb hc0, hB.trans (hb.mono (by omega)), Nat.le_trans hsz hb.size⟩)
    clear hv hrow hB hTW hx2
    generalize evenB n x.val = ev at HE hf
    cases ev
    · rw [if_neg (by decide), List.append_nil] at hf
      have Hf := Lib.hid hf
      clear hf
      gi_wp2_with (refine ⟨trivial, ?_⟩; gi_at_call 49; refine (CallsIn.inRound l (callsIn_wide.2 HE.out)).mono ?_; rintro e W1 ⟨rfl, hb1⟩; replace hb1 := Lib.hid hb1)
      have hb1 := (by assumption : Hid (Below _ _ _)).out
      obtain ⟨f1, f2, f3, f5, f6⟩ := FIN.out _ hb1
      exact ⟨f1, f2, ⟨⟨v, boxed_later hw0.out hb1, by rw [Hf.out]; exact owns_later hr0.out hb1, trivial⟩, f3⟩, f5, f6⟩
    · rw [if_pos rfl] at hf
      have Hf := Lib.hid hf
      clear hf
      gi_wp2_with (first
        | (refine ⟨trivial, ?_⟩; gi_at_call 49; refine (CallsIn.inRound l (callsIn_wide.2 HE.out)).mono ?_; rintro e W1 ⟨rfl, hb1⟩; obtain ⟨f1, f2, f3, f5, f6⟩ := FIN.out _ hb1; have F1 := Lib.hid f1; have F2 := Lib.hid f2; have F5 := Lib.hid f5; have hv1 := Lib.hid (boxed_later hw0.out hb1); have hr1 := Lib.hid (owns_later hr0.out hb1); have hcv := hv1.out.cell; clear f1 f2 f5 hb1)
        | (gi_at_builtin; refine wpListIn_append_own _ rfl _ _ 25 rfl (H + 4) 3 i0 (.int .i64 0) 1 8 Tryd.underlying25 hi hz0 hz1 hz2 rfl (by decide) _ _ _ rfl ((by assumption : Hid (World.ownsRow _ _ _ _ _ _ _)).out.alloc _) ⟨_, 0, none⟩ 1 1 [.int .i64 x.val] rfl rfl (cell_one_new _ _ _) (by simp [Value.oneCell']) (by unfold maxLen; omega) (by omega) (by simp; omega) ?_; intro v' w1 hown' hgrow _; obtain ⟨g', cap', rfl⟩ := ownsRow_succ hown'; obtain ⟨hv1, hv2, hr2, hk2, hblk, hb2⟩ := appended3 (by assumption : Hid (Boxed _ _ _ _)).out (by decide) (by omega) (by assumption : Hid (World.ownsRow _ _ _ _ _ _ _)).out (by assumption) hown' hgrow; have hc1 := hv1.cell; have hf1 := hv1.frozen))
      refine ⟨F1.out.trans hk2, F2.out.trans ⟨hb2.size, fun i hi => hblk i hi.1 hi.2⟩, ⟨⟨_, hv2, ?_, trivial⟩, ?_⟩, ?_, ?_⟩
      · rw [Hf.out, List.length_append]
        unfold ints at hr2 ⊢
        rw [List.map_append]
        exact hr2
      · exact (World.cell?_of_block (w := W1) (hblk H (by omega) (by omega))).trans f3
      · exact F5.out.trans ⟨hb2.os, hb2.tape, hb2.output, hb2.size, fun i hi => hblk i (by omega) (by omega)⟩
      · exact Nat.le_trans f6 hb2.size
  case done =>
    rintro D ys W hD hys ⟨⟨⟨v, hv, hrow, _⟩, _⟩, hB, _⟩ hK
    have hys' := Lib.hid hys; clear hys
    have hc1 := hv.cell
    have hrow' := Lib.hid hrow
    have HB := Lib.hid hB
    clear hrow hB
    gi_wp2
    refine ⟨by simp, .inl ⟨_, _, rfl, run_takeDeferred hK, ?_⟩⟩
    have hb9 := belowK_b (n₀ := H) (w := W0) (by omega) W D (.deferred (some [])) (.deferred none) (by omega) hK rfl rfl
    have h9 := ownsRow_putObj hrow'.out (.deferred none) hK rfl
    refine ⟨.tuple #[v, .int .i64 0], by simp [results, Tryd.f32, go_sem], v, rfl, ?_, by rw [hH'.out]; exact HB.out.trans hb9⟩
    rw [hys'.out] at h9
    rw [hH'.out]
    obtain ⟨x0, h | ⟨g, cap, cur, e1, e2, e3⟩⟩ := h9
    · exact ⟨x0, Or.inl h⟩
    · exact ⟨x0, Or.inr ⟨g, cap, cur, e1, by omega, e3⟩⟩
  case stop =>
    rintro D c pre W _ _ h _
    exact h.elim

end Go.Proofs.YtmemnkmmjejlgaaDoor
