/-
  vector: how often each distance occurs: the contract.
-/
import Derived.Test.YtaldfaecpcnomaaDoorZcLeafA
import Derived.Test.YtaldfaecpcnomaaDoorMem
import Derived.Test.YtaldfaecpcnomaaDoorZcMult
import Derived.Test.YtaldfaecpcnomaaDoorVecMath
import Derived.WalkLawsBesides
namespace Go.Proofs.YtaldfaecpcnomaaDoor.Zc
open Go.RowKit Go.Shelf
attribute [local go_sem] Oper.semAt_some
set_option maxRecDepth 100000

theorem run_make_ints (k : Nat) (hk : k ≤ 65536) (W : World) : (Instr.makeSlice 22 (.int .i64 (k : Int)) (.int .i64 (k : Int))).run Tryd.prog W = .ok (.slice (some ⟨W.heap.size, 0, none⟩) k k) (W.alloc (.cells (ints (List.replicate k 0)).toArray 3)) := by
  rw [← madeCells_ints]
  exact run_make_row' 22 3 (.int .i64 0) 8 Tryd.underlying22 (by kernel_rfl) rfl .i64 .i64 k (by omega) (by omega) W

theorem vector_any (n c : Nat) (hn : 2 ≤ n) (hn2 : n ≤ 16) (hc : c < 2 ^ n) (w : World) (hT : Tab w) :
    Calls Tryd.prog 20 #[.int .i64 n, .int .i64 c] w fun e w' => ∃ b, e = .returned (.slice (some ⟨b, 0, none⟩) (n / 2) (n / 2)) ∧ w.heap.size ≤ b ∧ Row w' b 3 (ints (vecN n c)) ∧ Below w.heap.size w w' := by
  have hTs := hT.size
  have hmk : ∀ W : World, (Instr.makeSlice 22 (.int .i64 ((n : Int) / 2)) (.int .i64 ((n : Int) / 2))).run Tryd.prog W = .ok (.slice (some ⟨W.heap.size, 0, none⟩) (n / 2) (n / 2)) (W.alloc (.cells (ints (List.replicate (n / 2) 0)).toArray 3)) := run_make_ints (n / 2) (by omega)
  refine (callsIn_wide (n := 9)).1 ?_
  refine callsIn_of_wp_marks Tryd.func20 rfl trivial ?_ rfl
  simp only [Tryd.ntmps20, List.size_toArray, List.length_cons, List.length_nil, Nat.reduceAdd, Nat.reduceSub, Array.replicate_succ, Array.replicate_zero, List.push_toArray, List.append_toArray, List.nil_append, List.cons_append]
  gi_wp2_with (refine ⟨trivial, ?_⟩; gi_at_call 29; refine (callsIn_wide.2 (tones_any _ _)).mono ?_; rintro e w' ⟨rfl, rfl⟩)
  obtain ⟨H, hH⟩ : ∃ H, w.heap.size = H := ⟨_, rfl⟩
  have hH' := Lib.hid hH
  have hHle : H ≤ w.heap.size := by omega
  have hHl1 : 1 < H := by omega
  obtain ⟨W0, hW0⟩ : ∃ W0, (((((w.alloc (Obj.cells #[Value.int IntKind.i64 ↑n] 3)).alloc (Obj.cells #[Value.int IntKind.i64 ↑c] 3)).alloc (.cells (ints (List.replicate (n / 2) 0)).toArray 3)).alloc (Obj.cells #[.slice (some ⟨w.heap.size + 1 + 1, 0, none⟩) (n / 2) (n / 2)] 22)).alloc (Obj.cells #[Value.int IntKind.i64 ↑c] 3)) = W0 := ⟨_, rfl⟩
  have b0 : Boxed W0 H 3 (.int .i64 n) := by rw [← hW0, ← hH]; exact ((((Boxed.new w _ _).alloc _).alloc _).alloc _).alloc _
  have b1 : Boxed W0 (H + 1) 3 (.int .i64 c) := by
    rw [← hW0, ← hH]; have := Boxed.new (w.alloc (Obj.cells #[Value.int IntKind.i64 ↑n] 3)) 3 (.int .i64 c); rw [World.size_alloc] at this; exact ((this.alloc _).alloc _).alloc _
  have r2 : Row W0 (H + 1 + 1) 3 (ints (List.replicate (n / 2) 0)) := by
    rw [← hW0, ← hH]; have := Row.new ((w.alloc (Obj.cells #[Value.int IntKind.i64 ↑n] 3)).alloc (Obj.cells #[Value.int IntKind.i64 ↑c] 3)) 3 (ints (List.replicate (n / 2) 0)); simp only [World.size_alloc] at this; exact (this.alloc _).alloc _
  have b3 : Boxed W0 (H + 1 + 1 + 1) 22 (.slice (some ⟨H + 1 + 1, 0, none⟩) (n / 2) (n / 2)) := by
    rw [← hW0, ← hH]; have := Boxed.new (((w.alloc (Obj.cells #[Value.int IntKind.i64 ↑n] 3)).alloc (Obj.cells #[Value.int IntKind.i64 ↑c] 3)).alloc (.cells (ints (List.replicate (n / 2) 0)).toArray 3)) 22 (.slice (some ⟨w.heap.size + 1 + 1, 0, none⟩) (n / 2) (n / 2)); simp only [World.size_alloc] at this; exact this.alloc _
  have b4 : Boxed W0 (H + 1 + 1 + 1 + 1) 3 (.int .i64 c) := by
    rw [← hW0, ← hH]; have := Boxed.new ((((w.alloc (Obj.cells #[Value.int IntKind.i64 ↑n] 3)).alloc (Obj.cells #[Value.int IntKind.i64 ↑c] 3)).alloc (.cells (ints (List.replicate (n / 2) 0)).toArray 3)).alloc (Obj.cells #[.slice (some ⟨w.heap.size + 1 + 1, 0, none⟩) (n / 2) (n / 2)] 22)) 3 (.int .i64 c); simp only [World.size_alloc] at this; exact this
  have hB0 : Below H w W0 := by rw [← hW0, ← hH]; exact (((((Below.refl _ w).alloc (Nat.le_refl _) _).alloc (by simp) _).alloc (by simp; omega) _).alloc (by simp; omega) _).alloc (by simp; omega) _
  have hS0 : H + 5 ≤ W0.heap.size ∧ W0.heap.size ≤ H + 5 := by rw [← hW0, ← hH]; simp
  have hT0 : Tab W0 := hT.below hB0 (by omega)
  rw [hW0, hH]
  clear hW0 hH hmk
  have HL := Lib.hid (tonesL_length c)
  refine wpIn_rangeFunc_ownH rfl (by omega) (gf := 34) (lb := #[.pointer (some ⟨H + 1 + 1 + 1 + 1, 0, none⟩)]) rfl trivial (enters_of Tryd.func34 (by kernel_rfl) rfl)
    (tones1_stops (· < H) (9 - 1) n c (H + 1 + 1 + 1 + 1) (by omega) (by omega) hc W0 hT0 (show 1 < H by omega) b4.cell) keptOn_t (keptOn_b (fun k (hk : k < H) => by omega)) (Below.refl _ _) (fun _ => rfl)
    (fun pre W => (((Row W (H + 1 + 1) 3 (ints (outerV n (tonesL c) (pre.map Fin.val) (List.replicate (n / 2) 0))) ∧ Boxed W H 3 (.int .i64 n)) ∧ Boxed W (H + 1) 3 (.int .i64 c)) ∧ Boxed W (H + 1 + 1 + 1) 22 (.slice (some ⟨H + 1 + 1, 0, none⟩) (n / 2) (n / 2))) ∧ Below H w W)
    (fun _ _ _ => False)
    (OwnFrom.and (OwnFrom.and (OwnFrom.and (OwnFrom.and (Own.from (row_own _ _ _) _) (Own.from (boxed_own _ _ _) _)) (Own.from (boxed_own _ _ _) _)) (Own.from (boxed_own _ _ _) _)) (ownFrom_below hHle (by omega)))
    (fun _ _ _ _ _ hs _ _ => hs)
    ⟨⟨⟨⟨r2, b0⟩, b1⟩, b3⟩, hB0⟩
    (fun x a' W => ∃ Bx, H + 1 + 1 + 1 < Bx ∧ Boxed W Bx 3 (.int .i64 x.val) ∧ a' = { tmps := #[.int .i64 n, .int .i64 c, .pointer (some ⟨H, 0, none⟩), .pointer (some ⟨H + 1, 0, none⟩), .slice none 0 0, .pointer (some ⟨H + 1 + 1 + 1, 0, none⟩), .pointer (some ⟨Bx, 0, none⟩), undef, .int .i64 n, .int .i64 ((n : Int) / 2), .slice (some ⟨H + 1 + 1, 0, none⟩) (n / 2) (n / 2), .int .i64 c, .func (.func 34) #[] #[.pointer (some ⟨H + 1 + 1 + 1 + 1, 0, none⟩)], .int .i64 x.val, undef, undef, undef, undef, undef, undef, undef, undef, undef, undef, undef, undef, undef, undef, undef, undef, undef, undef, undef, undef, undef, undef], defers := [] })
    (fun x a' _ X Y row hs hg hr => by obtain ⟨Bx, h1, h2, h3⟩ := hs; exact ⟨Bx, h1, boxed_own Bx 3 (fun (_ : Unit) => Value.int .i64 x.val) () X Y row h2 hg (fun r e => (hr r e).2), h3⟩)
    ?assign ?body ?done ?stop
  case assign =>
    rintro l pre x W K ⟨⟨⟨⟨r, b0⟩, b1⟩, b3⟩, hB⟩ hK
    gi_wp2
    exact hK _ _ ((KeepsOthers.alloc _ _).from _) ((KeptOn.refl _ W).below ((Below.refl _ W).alloc (Nat.le_refl _) _) (fun k (hk : k < H) => by have := hB.size; omega)) ⟨⟨⟨⟨r.alloc _, b0.alloc _⟩, b1.alloc _⟩, b3.alloc _⟩, hB.alloc (by have := hB.size; omega) _⟩ ⟨W.heap.size, b3.lt, Boxed.new W _ _, rfl⟩
  case body =>
    rintro l pre x a' W hl ⟨r, hr⟩ ⟨⟨⟨⟨r2, b0⟩, b1⟩, b3⟩, hB⟩ ⟨Bx, hBx, bX, rfl⟩ hlt
    have c1 := b1.cell
    have h1' : 1 ≤ 9 - 1 - 1 := by omega
    gi_wp2_with (refine ⟨trivial, ?_⟩; gi_at_call 29; refine (CallsIn.inRound l (callsIn_wide.2 (tones_any _ _))).mono ?_; rintro e w' ⟨rfl, rfl⟩)
    have hsW := hB.size
    have bN := Boxed.new W 3 (.int .i64 c)
    have hTW : Tab W := hT.below hB (by omega)
    have hr' : (W.alloc (.cells #[.int .i64 c] 3)).heap[l]? = some (.loop r) := (Below.heap_alloc W _ l (Array.getElem?_eq_some_iff.1 hr).1).trans hr
    refine wpIn_rangeFunc_ownN (l₀ := l) (r₀ := r) rfl hr' h1' (gf := 34) (lb := #[.pointer (some ⟨W.heap.size, 0, none⟩)]) rfl trivial (enters_of Tryd.func34 (by kernel_rfl) rfl)
      ((tones1_stops (· < H) (9 - 1 - 1 - 1) n c W.heap.size (by omega) (by omega) hc (W.alloc (.cells #[.int .i64 c] 3)) (hTW.same ((Below.refl _ W).alloc (Nat.le_refl _) _)) (show 1 < H by omega) bN.cell).inRound l) keptOn_t (keptOn_b (fun k (hk : k < H) => by simp; omega)) (Below.refl _ _) (fun _ => rfl)
      (fun pre' W' => ((((Row W' (H + 1 + 1) 3 (ints (innerV n x.val (pre'.map Fin.val) (outerV n (tonesL c) (pre.map Fin.val) (List.replicate (n / 2) 0)))) ∧ Boxed W' Bx 3 (.int .i64 x.val)) ∧ Boxed W' H 3 (.int .i64 n)) ∧ Boxed W' (H + 1) 3 (.int .i64 c)) ∧ Boxed W' (H + 1 + 1 + 1) 22 (.slice (some ⟨H + 1 + 1, 0, none⟩) (n / 2) (n / 2))) ∧ (Below H W W' ∧ KeepsFrom W0.heap.size W W'))
      (fun _ _ _ => False)
      (OwnFrom.and (OwnFrom.and (OwnFrom.and (OwnFrom.and (OwnFrom.and (Own.from (row_own _ _ _) _) (Own.from (boxed_own _ _ _) _)) (Own.from (boxed_own _ _ _) _)) (Own.from (boxed_own _ _ _) _)) (Own.from (boxed_own _ _ _) _)) (OwnFrom.and (ownFrom_below (by omega) (by simp; omega)) (ownFrom_keepsFrom (by simp))))
      (fun _ _ _ _ _ hs _ _ => hs)
      ⟨⟨⟨⟨⟨r2.alloc _, bX.alloc _⟩, b0.alloc _⟩, b1.alloc _⟩, b3.alloc _⟩, (Below.refl _ W).alloc (by omega) _, (KeepsOthers.alloc _ _).from _⟩
      (fun y a'' _ => a'' = { tmps := #[.int .i64 n, .int .i64 c, .pointer (some ⟨H, 0, none⟩), .pointer (some ⟨H + 1, 0, none⟩), .slice none 0 0, .pointer (some ⟨H + 1 + 1 + 1, 0, none⟩), .pointer (some ⟨Bx, 0, none⟩), .int .i64 y.val, .int .i64 n, .int .i64 ((n : Int) / 2), .slice (some ⟨H + 1 + 1, 0, none⟩) (n / 2) (n / 2), .int .i64 c, .func (.func 34) #[] #[.pointer (some ⟨H + 1 + 1 + 1 + 1, 0, none⟩)], .int .i64 x.val, .int .i64 c, .func (.func 34) #[] #[.pointer (some ⟨W.heap.size, 0, none⟩)], .int .i64 y.val, undef, undef, undef, undef, undef, undef, undef, undef, undef, undef, undef, undef, undef, undef, undef, undef, undef, undef, undef], defers := [] })
      (fun _ _ _ _ _ _ hs _ _ => hs)
      ?assign2 ?body2 ?done2 ?stop2
    case assign2 =>
      rintro l2 pre' y W' K hi hK
      gi_wp2
      exact hK _ _ (KeepsFrom.refl _ _) (KeptOn.refl _ _) hi rfl
    case body2 =>
      rintro l2 pre' y a'' W' _ _ ⟨⟨⟨⟨⟨r2', bX'⟩, b0'⟩, b1'⟩, b3'⟩, hBW, hKF⟩ rfl hlt2
      clear r2 bX b0 b1 b3 c1 bN hr' hr
      have cX := bX'.cell
      have c0 := b0'.cell
      have c3 := b3'.cell
      by_cases hxy : x.val < y.val
      · have hyl := y.isLt
        have hidx := dI_lt hxy hyl
        have hlen : (innerV n x.val (pre'.map Fin.val) (outerV n (tonesL c) (pre.map Fin.val) (List.replicate (n / 2) 0))).length = n / 2 := by rw [innerV_length, outerV_length]; simp
        have hbd : (innerV n x.val (pre'.map Fin.val) (outerV n (tonesL c) (pre.map Fin.val) (List.replicate (n / 2) 0)))[dI n x.val y.val]?.getD 0 ≤ 4160 := by
          have h8 := innerV_le (n := n) (l := x.val) (pre'.map Fin.val) (outerV_le (n := n) (tonesL c) (pre.map Fin.val) (replicate_le (n / 2))) (dI n x.val y.val)
          have h9 : pre.length * (tonesL c).length ≤ 64 * 64 := Nat.mul_le_mul (by omega) HL.out
          simp only [List.length_map] at h8
          omega
        have hstep := Lib.hid (show stepV n (innerV n x.val (pre'.map Fin.val) (outerV n (tonesL c) (pre.map Fin.val) (List.replicate (n / 2) 0))) x.val y.val = _ from if_pos hxy)
        have hall := Lib.hid (innerV_snoc n x.val (pre'.map Fin.val) (outerV n (tonesL c) (pre.map Fin.val) (List.replicate (n / 2) 0)) y.val)
        generalize innerV n x.val (pre'.map Fin.val) (outerV n (tonesL c) (pre.map Fin.val) (List.replicate (n / 2) 0)) = cs at r2' hlen hbd hstep hall
        have hcl := ints_at (xs := cs) (i := dI n x.val y.val) (by omega)
        obtain ⟨v, hv⟩ : ∃ v, cs[dI n x.val y.val]?.getD 0 = v := ⟨_, rfl⟩
        rw [hv] at hcl hbd hstep
        have hset := Lib.hid (ints_set cs (dI n x.val y.val) (v + 1))
        have hcl' := Lib.hid ((r2'.cell (dI n x.val y.val)).trans hcl)
        have hfr' := Lib.hid (r2'.frozen (dI n x.val y.val))
        have HR := Lib.hid r2'
        clear hcl hv r2'
        have hmn : min ((y.val : Int) - (x.val : Int)) ((n : Int) - ((y.val : Int) - (x.val : Int))) = (dI n x.val y.val : Int) + 1 := by unfold dI; omega
        have hd24 : dI n x.val y.val < n / 2 := hidx
        obtain ⟨d, hd⟩ : ∃ d, dI n x.val y.val = d := ⟨_, rfl⟩
        rw [hd] at hmn hcl' hfr' hset hstep hd24
        have hc1 : W'.cell? ⟨H + 1 + 1, d, none⟩ = some (.int .i64 v) := hcl'.out
        have hf1 : W'.frozen? ⟨H + 1 + 1, d, none⟩ = false := hfr'.out
        clear hidx hd
        gi_wp2
        refine ⟨(KeepsOthers.setCell _ _ _).from _, (KeptOn.refl _ W').setCell (p := ⟨H + 1 + 1, _, none⟩) (show ¬ H + 1 + 1 < H by omega) _,
          ⟨⟨⟨⟨?_, bX'.other2 (by omega) _ _⟩, b0'.other2 (by omega) _ _⟩, b1'.other2 (by omega) _ _⟩, b3'.other2 (by omega) _ _⟩, hBW.setCell (p := ⟨H + 1 + 1, _, none⟩) (show H ≤ H + 1 + 1 by omega) _, hKF.trans ((KeepsOthers.setCell _ _ _).from _)⟩
        rw [List.map_append, List.map_singleton, hall.out, hstep.out, ← hset.out]
        exact HR.out.set _ _
      · have hstep := Lib.hid (show stepV n (innerV n x.val (pre'.map Fin.val) (outerV n (tonesL c) (pre.map Fin.val) (List.replicate (n / 2) 0))) x.val y.val = _ from if_neg hxy)
        gi_wp2
        refine ⟨KeepsFrom.refl _ _, KeptOn.refl _ _, ⟨⟨⟨⟨?_, bX'⟩, b0'⟩, b1'⟩, b3'⟩, hBW, hKF⟩
        rw [List.map_append, List.map_singleton, innerV_snoc, hstep.out]
        exact r2'
    case done2 =>
      rintro ys' W' hys ⟨⟨⟨⟨⟨r2', bX'⟩, b0'⟩, b1'⟩, b3'⟩, hBW, hKF⟩
      have hys' := Lib.hid hys
      clear hys
      gi_wp2
      exact ⟨hKF, (KeptOn.refl _ W).below hBW (fun k hk => hk), ⟨⟨⟨by rw [List.map_append, List.map_singleton, outerV_snoc]; rw [hys'.out] at r2'; exact r2', b0'⟩, b1'⟩, b3'⟩, hB.trans hBW⟩
    case stop2 =>
      rintro c pre' W' _ h
      exact h.elim
  case done =>
    rintro D ys W hD hys ⟨⟨⟨⟨r2, b0⟩, b1⟩, b3⟩, hB⟩ hK
    have hys' := Lib.hid hys
    clear hys
    have c3 := b3.cell
    gi_wp2
    refine ⟨by simp, .inl ⟨_, _, rfl, run_takeDeferred hK, ?_⟩⟩
    refine ⟨_, results_tmp rfl _ _ _, H + 1 + 1, rfl, by rw [hH'.out]; omega, ?_, by rw [hH'.out]; exact hB.trans (belowK_b (w := W0) (by omega) W D _ _ (by omega) hK rfl rfl)⟩
    unfold vecN
    rw [hys'.out] at r2
    exact r2.kept (grownBy_putObj' W D _) (fun q e => by cases e; exact ⟨_, hK, rfl⟩)
  case stop =>
    rintro D c pre W _ _ h _
    exact h.elim
end Go.Proofs.YtaldfaecpcnomaaDoor.Zc
