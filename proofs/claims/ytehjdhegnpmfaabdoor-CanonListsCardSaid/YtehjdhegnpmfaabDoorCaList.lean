/-
  List: its contract.
-/
import Derived.Test.YtehjdhegnpmfaabDoorCaHas
import Derived.Sort.OwnSorted
namespace Go.Proofs.YtehjdhegnpmfaabDoor
open Go.RowKit Go.Shelf
attribute [local go_sem] Oper.semAt_some
set_option maxRecDepth 100000

/-- An append to a variable in a box, its row in younger blocks alone. -/
theorem appended3 {W w1 : World} {n₀ B : Nat} {t e : TypeId} {v v' : Value} {k m : Nat} {xs ys : List Value} {tmp : Obj}
    (hv : Boxed W B t v) (hte : t ≠ e) (hB : B < n₀) (hrow : W.ownsRow n₀ e 1 v k xs) (hn : n₀ ≤ W.heap.size) (hown' : w1.ownsRow n₀ e 1 v' m ys) (hgrow : (W.alloc tmp).grownBy w1 v.ownBlock) :
    Boxed w1 B t v ∧ Boxed (w1.setCell ⟨B, 0, none⟩ v') B t v' ∧ (w1.setCell ⟨B, 0, none⟩ v').ownsRow n₀ e 1 v' m ys ∧ KeepsOthers W (w1.setCell ⟨B, 0, none⟩ v') ∧
      (∀ i, i < n₀ → i ≠ B → (w1.setCell ⟨B, 0, none⟩ v').heap[i]? = W.heap[i]?) ∧ Below B W (w1.setCell ⟨B, 0, none⟩ v') := by
  have weak : ∀ {A : World} {u : Value} {j : Nat} {zs : List Value}, A.ownsRow n₀ e 1 u j zs → A.ownsRow B e 1 u j zs := by
    intro A u j zs h
    obtain ⟨h0, h | ⟨g, cap, cur, h1, h2, h3⟩⟩ := h
    · exact ⟨h0, Or.inl h⟩
    · exact ⟨h0, Or.inr ⟨g, cap, cur, h1, by omega, h3⟩⟩
  obtain ⟨a1, a2, a3, a4, a5⟩ := hv.appended hte (weak hrow) (by omega) (Nat.le_refl _) (weak hown') hgrow
  refine ⟨a1, a2, hown'.kept (grownBy_setCell' w1 B v') (.inr (a1.not_row hte hown').symm), a4, fun i hi hne => ?_, a5⟩
  refine (Below.heap_setCell w1 ⟨B, 0, none⟩ v' i hne).trans ?_
  refine (hgrow.block i (by simp; omega) (row_ne_low hrow hi)).trans ?_
  exact Below.heap_alloc W tmp i (by omega)

/-- In a round: a drawn region whose callees make memory, its last operations apart. -/
theorem region_calmR {P : Program} {n id l0 : Nat} {Q : Exit → Act → World → Prop} {a : Act} {w : World} {l : List Oper} (m : Nat) (hm : P.follows .mixedOrders = true) (hB : Region.lexTailB .any l.toArray m = true) (hN : noDefer l = true)
    (h : ∀ (S : Type) (_ : Nonempty S) (f : S → World), (∀ s, Below w.heap.size w (f s)) → (∀ W, Below w.heap.size w W → ∃ s, W = f s) →
      wpQuiet P l.toArray (fun w' => ∃ s, w' = f s) (fun a' => ∀ w', (∃ s, w' = f s) → wpListIn (Fence.wide.inRound l0) n P l.toArray Q (l.drop m) a' w') (l.take m) a) : (Code.region id l.toArray true).wpIn (Fence.wide.inRound l0) n P Q a w :=
  wpIn_region_quiet_tail (ro := some l0) (C := fun w' => ∃ s : {W : World // Below w.heap.size w W}, w' = s.val) m hm hB hN ⟨⟨w.drew, (Below.refl _ w).drew⟩, rfl⟩
    (h {W : World // Below w.heap.size w W} ⟨⟨w.drew, (Below.refl _ w).drew⟩⟩ Subtype.val (fun s => s.property) (fun W hW => ⟨⟨W, hW⟩, rfl⟩))

/-- What is listed. -/
def lst (n s x : Nat) : Bool := (tonesL x).length == s && decide (partners n x ≠ [])
def listN (n s : Nat) : List Nat := ((List.range (2 ^ (n - 1))).map fun c => 2 * c + 1).filter (lst n s)

theorem boxed_later {W W' : World} {B : Nat} {t : TypeId} {v : Value} (h : Boxed W B t v) (hb : Below W.heap.size W W') : Boxed W' B t v :=
  h.kept (row := none) ⟨hb.os, hb.tape, hb.output, hb.size, fun i hi _ => hb.block i hi⟩ (by simp)
theorem owns_later {W W' : World} {lo k : Nat} {e : TypeId} {v : Value} {xs : List Value} (h : W.ownsRow lo e 1 v k xs) (hb : Below W.heap.size W W') : W'.ownsRow lo e 1 v k xs :=
  h.kept (row := none) ⟨hb.os, hb.tape, hb.output, hb.size, fun i hi _ => hb.block i hi⟩ (by cases v.ownBlock <;> simp)

set_option maxHeartbeats 4000000 in
theorem List_ok (n s : Nat) (hn : 2 ≤ n) (hn2 : n ≤ 16) (hs1 : 1 ≤ s) (hs2 : s ≤ n) (w : World) (hT : Tab w) :
    Calls Tryd.prog 38 #[.int .i64 n, .int .i64 s] w fun e w' => ∃ v, e = .returned (.tuple #[v, .int .i64 0]) ∧ w'.ownsRow w.heap.size 3 1 v (listN n s).length (ints (listN n s)) ∧ Below w.heap.size w w' := by
  have hTs := hT.size
  obtain ⟨i0, hi, hz0, hz1, hz2⟩ := info_parts info_int
  have HV := Lib.hid (valid0 n)
  rw [show vldN n = true by unfold vldN; rw [decide_eq_true_eq]; omega] at HV
  have HR := Lib.hid (rhythms_any (n : Int))
  have q1 : decide ((16 : Int) < (n : Int)) = false := by rw [decide_eq_false_iff_not]; omega
  have q2 : decide ((s : Int) < 1) = false := by rw [decide_eq_false_iff_not]; omega
  have q3 : decide ((n : Int) < (s : Int)) = false := by rw [decide_eq_false_iff_not]; omega
  have hcn : ((w.alloc (.cells #[.int .i64 n] 3)).alloc (.cells #[.int .i64 s] 3)).cell? ⟨w.heap.size, 0, none⟩ = some (.int .i64 n) := cell_up (cell_at rfl)
  have hcs : ((w.alloc (.cells #[.int .i64 n] 3)).alloc (.cells #[.int .i64 s] 3)).cell? ⟨w.heap.size + 1, 0, none⟩ = some (.int .i64 s) := cell_at (by simp)
  refine (callsIn_wide (n := 9)).1 ?_
  refine callsIn_of_wp_marks Tryd.func38 rfl trivial ?_ rfl
  simp only [Tryd.ntmps38, List.size_toArray, List.length_cons, List.length_nil, Nat.reduceAdd, Nat.reduceSub, Array.replicate_succ, Array.replicate_zero, List.push_toArray, List.append_toArray, List.nil_append, List.cons_append]
  gi_wp2_with (refine ⟨trivial, ?_⟩; first | (gi_at_call 46; refine (callsIn_wide.2 (HV.out _)).mono ?_; rintro e w' ⟨rfl, rfl⟩) | (gi_at_call 64; refine (callsIn_wide.2 (HR.out _)).mono ?_; rintro e w' ⟨rfl, rfl⟩))
  clear q1 q2 q3 hcn hcs
  obtain ⟨H, hH⟩ : ∃ H, w.heap.size = H := ⟨_, rfl⟩
  have hH' := Lib.hid hH
  have hHle : H ≤ w.heap.size := by omega
  have hHl1 : 1 < H := by omega
  obtain ⟨W0, hW0⟩ : ∃ W0, ((((w.alloc (Obj.cells #[Value.int IntKind.i64 ↑n] 3)).alloc (Obj.cells #[Value.int IntKind.i64 ↑s] 3)).alloc (Obj.cells #[Value.slice none 0 0] 35)).alloc (Obj.cells #[Value.int IntKind.i64 ↑n] 3)) = W0 := ⟨_, rfl⟩
  have c0 : W0.cell? ⟨H, 0, none⟩ = some (.int .i64 n) := by rw [← hW0]; exact cell_up (cell_up (cell_up (cell_at (by omega))))
  have c1 : W0.cell? ⟨H + 1, 0, none⟩ = some (.int .i64 s) := by rw [← hW0]; exact cell_up (cell_up (cell_at (by simp; omega)))
  have b1 : Boxed W0 (H + 1 + 1) 35 (.slice none 0 0) := by
    rw [← hW0, ← hH]; have := Boxed.new ((w.alloc (Obj.cells #[Value.int IntKind.i64 ↑n] 3)).alloc (Obj.cells #[Value.int IntKind.i64 ↑s] 3)) 35 (.slice none 0 0); simp only [World.size_alloc] at this; exact this.alloc _
  have c2 : W0.cell? ⟨H + 1 + 1 + 1, 0, none⟩ = some (.int .i64 n) := by rw [← hW0]; exact cell_at (by simp; omega)
  have hB0 : Below H w W0 := by rw [← hW0, ← hH]; exact ((((Below.refl _ w).alloc (Nat.le_refl _) _).alloc (by simp) _).alloc (by simp; omega) _).alloc (by simp; omega) _
  have hS0 : W0.heap.size = H + 4 := by rw [← hW0, ← hH]; simp
  have hSS : ∀ i, (i < H + 4 ∧ i ≠ H + 1 + 1) → i < W0.heap.size := fun i h => by omega
  rw [hW0, hH]
  clear hW0 hH
  have hp2 : 2 ^ n ≤ 2 ^ 16 := Nat.pow_le_pow_right (by omega) hn2
  refine wpIn_rangeFunc_ownF rfl (by omega) (gf := 82) (lb := #[.pointer (some ⟨H + 1 + 1 + 1, 0, none⟩)]) rfl trivial (enters_of Tryd.func82 (by kernel_rfl) rfl)
    (rhythms1_stops (fun i => i < H + 4 ∧ i ≠ H + 1 + 1) (9 - 1) n (H + 1 + 1 + 1) (by omega) hn hn2 W0 hSS (show H + 1 + 1 + 1 < H + 4 ∧ H + 1 + 1 + 1 ≠ H + 1 + 1 by omega) c2) keptOn_t (keptOn_b hSS) (Below.refl _ _) (fun _ => rfl)
    (fun pre W => ((∃ v, Boxed W (H + 1 + 1) 35 v ∧ W.ownsRow (H + 4) 3 1 v ((pre.map Subtype.val).filter (lst n s)).length (ints ((pre.map Subtype.val).filter (lst n s))) ∧ True) ∧ (W.cell? ⟨H, 0, none⟩ = some (.int .i64 n) ∧ W.cell? ⟨H + 1, 0, none⟩ = some (.int .i64 s))) ∧ (Below H w W ∧ H + 4 ≤ W.heap.size))
    (fun _ _ _ => False)
    (OwnFrom.and (OwnFrom.and (Own.from (holdsRow_own (H + 4) (H + 1 + 1) 35 3 1 (fun (pre : List (RhyOf n)) => ((pre.map Subtype.val).filter (lst n s)).length) (fun (pre : List (RhyOf n)) => ints ((pre.map Subtype.val).filter (lst n s))) (fun _ _ => True)) _) (Own.from (fun s A B row hs hg hr => ⟨cell_kept hs.1 hg hr, cell_kept hs.2 hg hr⟩) _)) (OwnFrom.and (ownFrom_below hHle (by omega)) (Own.from (fun s A B row hs hg hr => Nat.le_trans hs hg.size) _)))
    (fun _ _ _ _ _ hs _ _ => hs)
    ⟨⟨⟨_, b1, World.ownsRow_nil _ _ _ _, trivial⟩, c0, c1⟩, hB0, by omega⟩
    (fun x => { tmps := #[.int .i64 n, .int .i64 s, .pointer (some ⟨H, 0, none⟩), .pointer (some ⟨H + 1, 0, none⟩), .slice none 0 0, .int .i64 0, .pointer (some ⟨H + 1 + 1, 0, none⟩), .int .i64 x.val, .int .i64 n, .bool true, .bool false, .bool false, .int .i64 n, .bool false, .bool false, .bool false, .int .i64 s, .bool false, .bool false, .bool false, .int .i64 s, .int .i64 n, .bool false, .bool false, .int .i64 n, .func (.func 82) #[] #[.pointer (some ⟨H + 1 + 1 + 1, 0, none⟩)], .int .i64 x.val, undef, undef, undef, undef, undef, undef, undef, undef, undef, undef, undef, undef, undef, undef], defers := [] }) ?assign ?body ?done ?stop
  case assign =>
    intro l x W K hK
    gi_wp2
    exact hK
  case body =>
    rintro l pre x W ⟨⟨⟨v, hv, hrow, _⟩, hc0, hc1⟩, hB, hsz⟩ hlt
    have hx1 := x.property.1
    have hx2 := x.property.2
    have hTW : Tab W := hT.below hB (by omega)
    have HT := Lib.hid (fun V => tonesIn_any x.val (by omega) V)
    have HHP := Lib.hid (fun V hV => hasPartner_any n x.val hn (by omega) hx1 hx2 V hV)
    have hmx : Tryd.prog.follows .mixedOrders = true := by kernel_rfl
    have hw0 := Lib.hid hv
    have hr0 := Lib.hid hrow
    have hb0 := Lib.hid hB
    have hf := Lib.hid (show ((pre ++ [x]).map Subtype.val).filter (lst n s) = (pre.map Subtype.val).filter (lst n s) ++ if lst n s x.val = true then [x.val] else [] by
      rw [List.map_append, List.filter_append]
      congr 1
      by_cases h : lst n s x.val = true <;> simp [h])
    clear hv hrow hB
    have hfl : ((pre.map Subtype.val).filter (lst n s)).length ≤ pre.length := Nat.le_trans (List.length_filter_le _ _) (by simp)
    have hls : lst n s x.val = ((tonesL x.val).length == s && decide (partners n x.val ≠ [])) := rfl
    have hsd : ((((tonesL x.val).length : Nat) : Int) == (s : Int)) = ((tonesL x.val).length == s) := by
      rw [Bool.eq_iff_iff, beq_iff_eq, beq_iff_eq]; omega
    have fin : ∀ W', Below W.heap.size W W' → KeepsOthers W W' ∧ KeptOn (fun i => i < H + 4 ∧ i ≠ H + 1 + 1) W W' ∧ W'.cell? ⟨H, 0, none⟩ = some (.int .i64 n) ∧ W'.cell? ⟨H + 1, 0, none⟩ = some (.int .i64 s) ∧ Below H w W' ∧ H + 4 ≤ W'.heap.size := fun W' hb =>
      ⟨⟨hb.size, fun k o hk _ => (hb.block k (Array.getElem?_eq_some_iff.1 hk).1).trans hk⟩, (KeptOn.refl _ W).below hb (fun i hi => by omega), cell_later hb hc0, cell_later hb hc1, hb0.out.trans (hb.mono (by omega)), Nat.le_trans hsz hb.size⟩
    have FIN := Lib.hid fin
    clear fin
    generalize (tonesL x.val).length = tt at HT hls hsd
    generalize decide (partners n x.val ≠ []) = hp at HHP hls
    have no : lst n s x.val = false → ∀ W', Below W.heap.size W W' → ((∃ v, Boxed W' (H + 1 + 1) 35 v ∧ W'.ownsRow (H + 4) 3 1 v (((pre ++ [x]).map Subtype.val).filter (lst n s)).length (ints (((pre ++ [x]).map Subtype.val).filter (lst n s))) ∧ True)) := fun hq W' hb => by
      rw [hf.out, if_neg (by rw [hq]; decide), List.append_nil]
      exact ⟨v, boxed_later hw0.out hb, owns_later hr0.out hb, trivial⟩
    have NO := Lib.hid no
    clear no
    cases hts : (tt == s)
    · rw [hts] at hsd hls
      have hq := Lib.hid (show lst n s x.val = false by rw [hls]; rfl)
      clear hls hts
      gi_wp2
      refine region_calmR 8 hmx (by kernel_rfl) (by kernel_rfl) ?_
      intro S hSn f hS1 hS2
      have hld : ∀ t, (f t).cell? ⟨H, 0, none⟩ = some (.int .i64 n) := fun t => cell_later (hS1 t) hc0
      have hld2 : ∀ t, (f t).cell? ⟨H + 1, 0, none⟩ = some (.int .i64 s) := fun t => cell_later (hS1 t) hc1
      have hTc := Lib.hid (fun t => (HT.out (f t)).mono fun e w' h => (⟨h.1, t, h.2.symm⟩ : e = .returned (.int .i64 (tt : Nat)) ∧ ∃ s', w' = f s'))
      simp only [List.take_succ_cons, List.take_zero, List.drop_succ_cons, List.drop_zero]
      repeat (go_big_quiet_step (exact hTc.out _))
      refine wpQuiet_nil ?_
      rintro _ ⟨t, rfl⟩
      have hbt := Lib.hid (hS1 t)
      generalize f t = W1 at hbt
      clear hld hld2 hTc hS1 hS2
      gi_wp2
      obtain ⟨f1, f2, f3, f4, f5, f6⟩ := FIN.out _ hbt.out
      exact ⟨f1, f2, ⟨NO.out hq.out _ hbt.out, f3, f4⟩, f5, f6⟩
    · rw [hts] at hsd hls
      clear hts
      have calm : ∀ (b : Bool), hp = b → True := fun _ _ => trivial
      clear calm
      gi_wp2
      refine region_calmR 8 hmx (by kernel_rfl) (by kernel_rfl) ?_
      intro S hSn f hS1 hS2
      have hld : ∀ t, (f t).cell? ⟨H, 0, none⟩ = some (.int .i64 n) := fun t => cell_later (hS1 t) hc0
      have hld2 : ∀ t, (f t).cell? ⟨H + 1, 0, none⟩ = some (.int .i64 s) := fun t => cell_later (hS1 t) hc1
      have hTc := Lib.hid (fun t => (HT.out (f t)).mono fun e w' h => (⟨h.1, t, h.2.symm⟩ : e = .returned (.int .i64 (tt : Nat)) ∧ ∃ s', w' = f s'))
      have hPc := Lib.hid (fun t => (HHP.out (f t) (hTW.same (hS1 t))).mono fun e w' h => (⟨h.1, hS2 _ (below_next (hS1 t) h.2)⟩ : e = .returned (.bool hp) ∧ ∃ s', w' = f s'))
      simp only [List.take_succ_cons, List.take_zero, List.drop_succ_cons, List.drop_zero]
      repeat (go_big_quiet_step (first | exact hTc.out _ | exact hPc.out _))
      refine wpQuiet_nil ?_
      rintro _ ⟨t, rfl⟩
      have hbt := Lib.hid (hS1 t)
      generalize f t = W1 at hbt
      clear hld hld2 hTc hPc hS1 hS2
      obtain ⟨f1, f2, f3, f4, f5, f6⟩ := FIN.out _ hbt.out
      cases hp
      · have hq : lst n s x.val = false := by rw [hls]; rfl
        have hgo := Lib.hid (NO.out hq _ hbt.out)
        have F5 := Lib.hid f5
        clear hls hq f5
        gi_wp2
        exact ⟨f1, f2, ⟨hgo.out, f3, f4⟩, F5.out, f6⟩
      · have hq : lst n s x.val = true := by rw [hls]; rfl
        have hv1 := Lib.hid (boxed_later hw0.out hbt.out)
        have hr1 := Lib.hid (owns_later hr0.out hbt.out)
        rw [if_pos hq] at hf
        have hcv := hv1.out.cell
        have F1 := Lib.hid f1
        have F2 := Lib.hid f2
        have F5 := Lib.hid f5
        clear hls hq f1 f2 f5
        gi_wp2_with (gi_at_builtin; refine wpListIn_append_own _ rfl _ _ 35 rfl (H + 4) 3 i0 (.int .i64 0) 1 8 Tryd.underlying35 hi hz0 hz1 hz2 rfl (by decide) _ _ _ rfl (hr1.out.alloc _) ⟨W1.heap.size, 0, none⟩ 1 1 [.int .i64 x.val] rfl rfl (cell_one_new _ _ _) (by simp [Value.oneCell']) (by unfold maxLen; omega) (by omega) (by simp; omega) ?_; intro v' w1 hown' hgrow _; obtain ⟨g', cap', rfl⟩ := ownsRow_succ hown'; obtain ⟨hv1, hv2, hr2, hk2, hblk, hb2⟩ := appended3 hv1.out (by decide) (by omega) hr1.out f6 hown' hgrow; have hc1 := hv1.cell; have hf1 := hv1.frozen)
        refine ⟨F1.out.trans hk2, F2.out.trans ⟨hb2.size, fun i hi => hblk i (by omega) (by omega)⟩, ⟨⟨_, hv2, ?_, trivial⟩, ?_, ?_⟩, ?_, ?_⟩
        · rw [hf.out, List.length_append]
          unfold ints at hr2 ⊢
          rw [List.map_append]
          exact hr2
        · exact (World.cell?_of_block (w := W1) (hblk H (by omega) (by omega))).trans f3
        · exact (World.cell?_of_block (w := W1) (hblk (H + 1) (by omega) (by omega))).trans f4
        · exact F5.out.trans ⟨hb2.os, hb2.tape, hb2.output, hb2.size, fun i hi => hblk i (by omega) (by omega)⟩
        · exact Nat.le_trans f6 hb2.size
  case done =>
    rintro D ys W hD hys ⟨⟨⟨v, hv, hrow, _⟩, _⟩, hB, _⟩ hK
    have hys' := Lib.hid hys; clear hys
    have hc1 := hv.cell
    have hrow' := Lib.hid hrow
    have HB := Lib.hid hB
    clear hrow hB
    gi_wp2
    refine ⟨by simp, .inl ⟨_, _, rfl, run_takeDeferred hK, ?_⟩⟩
    have hb9 := belowK_b (n₀ := H) (w := W0) (by omega) W D (.deferred (some [])) (.deferred none) (by omega) hK rfl rfl
    have h9 := ownsRow_putObj hrow'.out (.deferred none) hK rfl
    refine ⟨.tuple #[v, .int .i64 0], by simp [results, Tryd.f38, go_sem], v, rfl, ?_, by rw [hH'.out]; exact HB.out.trans hb9⟩
    rw [hys'.out] at h9
    rw [hH'.out]
    obtain ⟨x0, h | ⟨g, cap, cur, e1, e2, e3⟩⟩ := h9
    · exact ⟨x0, Or.inl h⟩
    · exact ⟨x0, Or.inr ⟨g, cap, cur, e1, by omega, e3⟩⟩
  case stop =>
    rintro D c pre W _ _ h _
    exact h.elim

end Go.Proofs.YtehjdhegnpmfaabDoor
