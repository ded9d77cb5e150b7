/-
  slices.AppendSeq, Collect at the images.
-/
import Derived.Test.YtibkhjbcagihbaaDoorChLeafA
import Derived.Test.YtibkhjbcagihbaaDoorChPrime
namespace Go.Proofs.YtibkhjbcagihbaaDoor.Ch
open Go.RowKit Go.Shelf
attribute [local go_sem] Oper.semAt_some
set_option maxRecDepth 100000

theorem imgs_length (n c : Nat) : (imgs n c).length = n + n := by simp [imgs, imgOf]

theorem appendSeq_any (n c Bc Bn : Nat) (hn : 2 ≤ n) (hn2 : n ≤ 16) (hc : c < 2 ^ n) (w : World) (hT : Tab w) (hBc : w.cell? ⟨Bc, 0, none⟩ = some (.int .i64 c)) (hBn : w.cell? ⟨Bn, 0, none⟩ = some (.int .i64 n)) :
    Calls Tryd.prog 50 #[.slice none 0 0, .func (.func 43) #[] #[.pointer (some ⟨Bc, 0, none⟩), .pointer (some ⟨Bn, 0, none⟩)]] w fun e w' => ∃ v, e = .returned v ∧ w'.ownsRow w.heap.size 3 1 v (imgs n c).length (ints (imgs n c)) ∧ Below w.heap.size w w' := by
  have hTs := hT.size
  have hBlt := World.block_lt_of_cell? w _ hBn
  dsimp only at hBlt
  obtain ⟨i0, hi, hz0, hz1, hz2⟩ := info_parts info_int
  refine (callsIn_wide (n := 9)).1 ?_
  refine callsIn_of_wp_marks Tryd.func50 rfl trivial ?_ rfl
  simp only [Tryd.ntmps50, List.size_toArray, List.length_cons, List.length_nil, Nat.reduceAdd, Nat.reduceSub, Array.replicate_succ, Array.replicate_zero, List.push_toArray, List.append_toArray, List.nil_append, List.cons_append]
  gi_wp2
  obtain ⟨H, hH⟩ : ∃ H, w.heap.size = H := ⟨_, rfl⟩
  have hH' := Lib.hid hH
  have hHle : H ≤ w.heap.size := by omega
  have hHge : w.heap.size ≤ H := by omega
  have hHl1 : 1 < H := by omega
  have b0 : Boxed (w.alloc (Obj.cells #[.slice none 0 0] 36)) H 36 (.slice none 0 0) := by rw [← hH]; exact Boxed.new w _ _
  have hB0 : Below H w (w.alloc (Obj.cells #[.slice none 0 0] 36)) := by rw [← hH]; exact (Below.refl _ w).alloc (Nat.le_refl _) _
  have hS0 : (w.alloc (Obj.cells #[.slice none 0 0] 36)).heap.size = H + 1 := by rw [← hH]; simp
  rw [hH]
  generalize w.alloc (Obj.cells #[.slice none 0 0] 36) = W0 at b0 hB0 hS0 ⊢
  have hT0 : Tab W0 := hT.below hB0 (by omega)
  have hBw : Below w.heap.size w W0 := by rw [hH]; exact hB0
  have c1 := cell_later hBw hBc
  have c2 := cell_later hBw hBn
  have hSS : ∀ i, i < H → i < W0.heap.size := fun i h => by omega
  clear hH
  refine wpIn_rangeFunc_ownF rfl (by omega) (gf := 43) (lb := #[.pointer (some ⟨Bc, 0, none⟩), .pointer (some ⟨Bn, 0, none⟩)]) rfl trivial (enters_of Tryd.func43 (by kernel_rfl) rfl)
    (images1_stops (fun i => i < H) (9 - 1) n c Bc Bn (by omega) hn hn2 hc W0 hT0 (show 1 < H by omega) hSS (show Bn < H by omega) c1 c2) keptOn_t (keptOn_b hSS) (Below.refl _ _) (fun _ => rfl)
    (fun pre W => (∃ v, Boxed W H 36 v ∧ W.ownsRow H 3 1 v pre.length (ints (pre.map Fin.val)) ∧ True) ∧ Below H w W)
    (fun _ _ _ => False)
    (OwnFrom.and (Own.from (holdsRow_own H H 36 3 1 (fun (pre : List (Fin (2 ^ n))) => pre.length) (fun (pre : List (Fin (2 ^ n))) => ints (pre.map Fin.val)) (fun _ _ => True)) _) (ownFrom_below hHle (by omega)))
    (fun _ _ _ _ _ hs _ _ => hs)
    ⟨⟨_, b0, World.ownsRow_nil _ _ _ _, trivial⟩, hB0⟩
    (fun x => { tmps := #[.slice none 0 0, .func (.func 43) #[] #[.pointer (some ⟨Bc, 0, none⟩), .pointer (some ⟨Bn, 0, none⟩)], .pointer (some ⟨H, 0, none⟩), undef, .slice none 0 0, .int .i64 x.val, .func (.func 43) #[] #[.pointer (some ⟨Bc, 0, none⟩), .pointer (some ⟨Bn, 0, none⟩)], .int .i64 x.val, undef, undef, undef, undef, undef], defers := [] }) ?assign ?body ?done ?stop
  case assign =>
    intro l x W K hK
    gi_wp2
    exact hK
  case body =>
    rintro l pre x W ⟨⟨v, hv, hrow, _⟩, hB⟩ hlt
    have hc0 := hv.cell
    have hBs := hB.size
    have hw0 := Lib.hid hv
    have hr0 := Lib.hid hrow
    have hb0 := Lib.hid hB
    clear hv hrow hB
    gi_wp2_with (gi_at_builtin; refine wpListIn_append_own _ rfl _ _ 36 rfl H 3 i0 (.int .i64 0) 1 8 Tryd.underlying36 hi hz0 hz1 hz2 rfl (by decide) _ _ _ rfl (hr0.out.alloc _) ⟨W.heap.size, 0, none⟩ 1 1 [.int .i64 x.val] rfl rfl (cell_one_new _ _ _) (by simp [Value.oneCell']) (by unfold maxLen; omega) (by omega) (by simp; omega) ?_; intro v' w1 hown' hgrow _; obtain ⟨g', cap', rfl⟩ := ownsRow_succ hown'; obtain ⟨hv1, hv2, hr2, hk2, hb2⟩ := hw0.out.appended (by decide) hr0.out (by omega) (Nat.le_refl _) hown' hgrow; have hc1 := hv1.cell; have hf1 := hv1.frozen)
    refine ⟨hk2, ⟨hb2.size, fun i hi => hb2.block i hi⟩, ⟨_, hv2, ?_, trivial⟩, hb0.out.trans hb2⟩
    rw [List.length_append, List.map_append]
    unfold ints at hr2 ⊢
    rw [List.map_append]
    exact hr2
  case done =>
    rintro D ys W hD hys ⟨⟨v, hv, hrow, _⟩, hB⟩ hK
    have hys' := Lib.hid hys; clear hys
    have hc1 := hv.cell
    have hrow' := Lib.hid hrow
    clear hrow
    gi_wp2
    refine ⟨by simp, .inl ⟨_, _, rfl, run_takeDeferred hK, ?_⟩⟩
    refine ⟨_, results_tmp rfl _ _ _, _, rfl, ?_, by rw [hH'.out]; exact hB.trans (belowK_b (w := W0) (by omega) W D _ _ (by omega) hK rfl rfl)⟩
    have h := ownsRow_putObj hrow'.out (.deferred none) hK rfl
    rw [hH'.out, ← hys'.out, List.length_map]
    exact h
  case stop =>
    rintro D c pre W _ _ h _
    exact h.elim

end Go.Proofs.YtibkhjbcagihbaaDoor.Ch
