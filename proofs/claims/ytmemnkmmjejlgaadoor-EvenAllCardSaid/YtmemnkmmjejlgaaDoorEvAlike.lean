/-
  Whether the sizes of the spans are alike: the method alike; isEven and Even.
-/
import Derived.Test.YtmemnkmmjejlgaaDoorEvSizes
import Derived.Test.YtmemnkmmjejlgaaDoorEvSumsLaw
import Derived.Test.YtmemnkmmjejlgaaDoorRoundT
namespace Go.Proofs.YtmemnkmmjejlgaaDoor
open Go.RowKit Go.Shelf
attribute [local go_sem] Oper.semAt_some
set_option maxRecDepth 100000

/-- What is gathered: the least and the greatest, in boxes. -/
def TwoI (H n : Nat) (w : World) (pre : List Nat) (Z : Nat → Prop) (W : World) : Prop :=
  (Boxed W (H + 1) 3 (.int .i64 ((pre.foldl min n : Nat) : Int)) ∧ Boxed W (H + 1 + 1) 3 (.int .i64 ((pre.foldl max 0 : Nat) : Int))) ∧ (∀ k, Z k → H + 1 + 1 < k) ∧ Below H w W

theorem TwoI.sep {H n B : Nat} {w : World} (hH : H ≤ w.heap.size) (hB : H + 1 + 1 < B) : Sep B (TwoI H n w) :=
  { grow := fun s Z W W' row ⟨⟨h1, h2⟩, hz, hb⟩ hg hr =>
      ⟨⟨h1.kept hg (fun e => by have := (hr _ e.symm).1; omega), h2.kept hg (fun e => by have := (hr _ e.symm).1; omega)⟩, hz, hb.grown hg (Nat.le_trans hH hb.size) (fun k e => by have := (hr k e).1; omega)⟩
    priv := fun s Z W r i u ⟨⟨h1, h2⟩, hz, hb⟩ hr => by
      have := hz r hr
      exact ⟨⟨h1.other2 (by omega) i u, h2.other2 (by omega) i u⟩, hz, hb.setCell (p := ⟨r, i, none⟩) (show H ≤ r by omega) u⟩
    take := fun s Z W o ⟨⟨h1, h2⟩, hz, hb⟩ => by
      refine ⟨⟨h1.alloc o, h2.alloc o⟩, fun k hk => ?_, hb.alloc (Nat.le_trans hH hb.size) o⟩
      rcases hk with hk | rfl
      · exact hz k hk
      · exact h2.lt
    draw := fun s Z W ⟨⟨h1, h2⟩, hz, hb⟩ => ⟨⟨h1, h2⟩, hz, hb.drew⟩ }

theorem sizes_enters : ∀ args w, (callFunc 52 args).run Tryd.prog w = .ok (.enter 52 args) w := fun args w => enters_of Tryd.func52 (by kernel_rfl) rfl args w

theorem fold_bd {n : Nat} {pre : List Nat} (h : ∀ x ∈ pre, x ≤ 64) (hn : n ≤ 16) : pre.foldl min n ≤ 64 ∧ pre.foldl max 0 ≤ 64 := by
  constructor
  · have := (foldl_min_le pre n).1; omega
  · rcases foldl_max_mem pre 0 with e | e
    · omega
    · exact h _ e

set_option maxHeartbeats 2000000 in
theorem alike_any (n K j g cap : Nat) (ts : List Nat) (hp : Spn n K j ts) (hbd : ∀ x ∈ spansL n ts j, x ≤ n) (w : World) (hg : g < w.heap.size)
    (hc : ∀ i, i < K → w.cell? ⟨g, i, none⟩ = some (.int .i64 ((ts[i]?.getD 0 : Nat) : Int))) :
    Calls Tryd.prog 71 #[.agg #[.int .i64 n, .slice (some ⟨g, 0, none⟩) K cap, .int .i64 j]] w fun e w' => e = .returned (.bool (aliL (spansL n ts j))) ∧ Below w.heap.size w w' := by
  have hn16 := hp.n16
  have HA := Lib.hid (ali_prog (n := n) (xs := spansL n ts j) (by rw [spansL_length, hp.len]; exact hp.pos) hbd)
  refine (callsIn_wide (n := 9)).1 ?_
  refine callsIn_of_wp_marks Tryd.func71 rfl trivial ?_ rfl
  simp only [Tryd.ntmps71, List.size_toArray, List.length_cons, List.length_nil, Nat.reduceAdd, Nat.reduceSub, Array.replicate_succ, Array.replicate_zero, List.push_toArray, List.append_toArray, List.nil_append, List.cons_append]
  gi_wp2
  obtain ⟨H, hH⟩ : ∃ H, w.heap.size = H := ⟨_, rfl⟩
  have hH' := Lib.hid hH
  have hHle : H ≤ w.heap.size := by omega
  obtain ⟨W0, hW0⟩ : ∃ W0, ((w.alloc (Obj.cells #[Value.int .i64 n, .slice (some ⟨g, 0, none⟩) K cap, Value.int .i64 j] 50)).alloc (Obj.cells #[Value.int .i64 n] 3)).alloc (Obj.cells #[Value.int .i64 0] 3) = W0 := ⟨_, rfl⟩
  have b1 : Boxed W0 (H + 1) 3 (.int .i64 n) := by
    rw [← hW0, ← hH]; have := Boxed.new (w.alloc (Obj.cells #[Value.int .i64 n, .slice (some ⟨g, 0, none⟩) K cap, Value.int .i64 j] 50)) 3 (.int .i64 n); rw [World.size_alloc] at this; exact this.alloc _
  have b2 : Boxed W0 (H + 1 + 1) 3 (.int .i64 ((([] : List Nat).foldl max 0 : Nat) : Int)) := by
    rw [← hW0, ← hH]; have := Boxed.new ((w.alloc (Obj.cells #[Value.int .i64 n, .slice (some ⟨g, 0, none⟩) K cap, Value.int .i64 j] 50)).alloc (Obj.cells #[Value.int .i64 n] 3)) 3 (.int .i64 0); simp only [World.size_alloc] at this; exact this
  have hB0 : Below H w W0 := by rw [← hW0, ← hH]; exact (((Below.refl _ w).alloc (Nat.le_refl _) _).alloc (by simp) _).alloc (by simp; omega) _
  have hS0 : H + 1 + 1 < W0.heap.size := by rw [← hW0, ← hH]; simp
  have hBw : Below w.heap.size w W0 := by rw [hH]; exact hB0
  have hc0 : ∀ i, i < K → W0.cell? ⟨g, i, none⟩ = some (.int .i64 ((ts[i]?.getD 0 : Nat) : Int)) := fun i hi => cell_later hBw (hc i hi)
  have hSS : ∀ k, k < H → k < W0.heap.size := fun k h => by omega
  have hbd2 : Hid ((spansL n ts j).foldl min n ≤ 64 ∧ (spansL n ts j).foldl max 0 ≤ 64) := Lib.hid (fold_bd (fun x hx => by have := hbd x hx; omega) hn16)
  rw [hW0, hH]
  rw [hH] at hg
  clear hW0 hH hc hbd
  refine wpIn_rangeFunc_sep1 (by omega) (gf := 52) (fst := #[.agg #[.int .i64 n, .slice (some ⟨g, 0, none⟩) K cap, .int .i64 j]]) (lb := #[]) rfl sizes_enters
    (sizes_seq n K j g cap ts (fun k => k < H) hp W0 hg hSS hc0) keptOn_t (keptOn_b hSS) (Below.refl _ _) (fun _ => rfl)
    (TwoI H n w) (fun _ _ _ _ => False) (TwoI.sep hHle hS0) (fun _ => ⟨fun _ _ _ _ _ h _ _ => h, fun _ _ _ _ _ _ h _ => h, fun _ _ _ _ h => h, fun _ _ _ h => h⟩)
    ⟨⟨b1, b2⟩, fun k h => h.elim, hB0⟩
    (fun x => { tmps := #[.agg #[.int .i64 n, .slice (some ⟨g, 0, none⟩) K cap, .int .i64 j], .pointer (some ⟨H, 0, none⟩), .bool false, .pointer (some ⟨H + 1, 0, none⟩), .pointer (some ⟨H + 1 + 1, 0, none⟩), .int .i64 x, .pointer (some ⟨H, 0, none⟩), .int .i64 n,
        .agg #[.int .i64 n, .slice (some ⟨g, 0, none⟩) K cap, .int .i64 j], .func (.func 52) #[.agg #[.int .i64 n, .slice (some ⟨g, 0, none⟩) K cap, .int .i64 j]] #[], .int .i64 x, undef, undef, undef, undef, undef, undef, undef, undef, undef, undef], defers := [] }) ?assign ?body ?done ?stop
  case assign =>
    intro l x W K hK
    gi_wp2
    exact hK
  case body =>
    rintro l pre x Z W ⟨⟨h1, h2⟩, hz, hB⟩ hzb hlt
    obtain ⟨m, hm⟩ : ∃ m, pre.foldl min n = m := ⟨_, rfl⟩
    obtain ⟨M, hM⟩ : ∃ M, pre.foldl max 0 = M := ⟨_, rfl⟩
    rw [hm] at h1
    rw [hM] at h2
    have c1 := h1.cell
    have c2 := h2.cell
    have f1 := h1.frozen
    have f2 := h2.frozen
    have hmx : Tryd.prog.follows .mixedOrders = true := by kernel_rfl
    have HP : Hid (∀ a', sepPost (KeptOn fun k => k < H) (TwoI H n w) (fun _ _ _ _ => False) (pre ++ [x]) Z W .normal a' ((W.setCell ⟨H + 1, 0, none⟩ (.int .i64 (if x < m then (x : Int) else m))).setCell ⟨H + 1 + 1, 0, none⟩ (.int .i64 (if M < x then (x : Int) else M))).drew) := Lib.hid (fun a' => by
      have e1 : (if x < m then (x : Int) else m) = ((min m x : Nat) : Int) := by rw [Nat.min_def]; split <;> split <;> omega
      have e2 : (if M < x then (x : Int) else M) = ((max M x : Nat) : Int) := by rw [Nat.max_def]; split <;> split <;> omega
      rw [e1, e2]
      refine ⟨?_, ⟨?_, fun k hk => ?_⟩, ⟨?_, fun k hk => ?_⟩, ⟨⟨?_, ?_⟩, hz, ?_⟩⟩
      · exact (KeepsOthers.drew _).trans ((KeepsOthers.setCell _ _ _).trans (KeepsOthers.setCell _ _ _))
      · simp [World.setCell]
      · have := hz k hk
        exact (Below.heap_setCell _ ⟨H + 1 + 1, 0, none⟩ _ k (show k ≠ H + 1 + 1 by omega)).trans (Below.heap_setCell _ ⟨H + 1, 0, none⟩ _ k (show k ≠ H + 1 by omega))
      · simp [World.setCell]
      · have hk' : k < H := hk
        exact (Below.heap_setCell _ ⟨H + 1 + 1, 0, none⟩ _ k (show k ≠ H + 1 + 1 by omega)).trans (Below.heap_setCell _ ⟨H + 1, 0, none⟩ _ k (show k ≠ H + 1 by omega))
      · rw [List.foldl_append, hm]
        exact ((Row.ofBox h1).set 0 (.int .i64 ((min m x : Nat) : Int))).box.other2 (by omega) 0 _
      · rw [List.foldl_append, hM]
        exact (((Row.ofBox h2).other (show H + 1 + 1 ≠ H + 1 by omega) _).set 0 (.int .i64 ((max M x : Nat) : Int))).box
      · exact ((hB.setCell (p := ⟨H + 1, 0, none⟩) (show H ≤ H + 1 by omega) _).setCell (p := ⟨H + 1 + 1, 0, none⟩) (show H ≤ H + 1 + 1 by omega) _).drew)
    have HH1 := Lib.hid h1
    have HH2 := Lib.hid h2
    clear hm hM h1 h2 hzb hlt
    gi_wp2
    refine region_ro hmx (by kernel_rfl) ?_
    refine wpAnyIn_take (i := 1) (v := .int .i64 x) rfl rfl (by kernel_rfl) (by kernel_rfl) (by kernel_rfl) (fun _ _ _ h => h) ⟨Or.inl ⟨rfl, fun _ => rfl⟩, fun _ => rfl⟩ ?_
    refine wpAnyIn_take (i := 4) (v := .int .i64 x) rfl rfl (by kernel_rfl) (by kernel_rfl) (by kernel_rfl) (fun _ _ _ h => h) ⟨Or.inl ⟨rfl, fun _ => rfl⟩, fun _ => rfl⟩ ?_
    simp only [Act.put, List.setIfInBounds_toArray, List.size_toArray, List.length_cons, List.length_nil, Nat.reduceAdd, Array.replicate_succ, Array.replicate_zero, List.push_toArray]
    refine wpAnyIn_ready (rs := [0, 3]) (by kernel_rfl) (by simp) ?_
    refine BigFrame.allReadyIn_want rfl rfl (fun K' hK' => ?_) (BigFrame.allReadyIn_want rfl rfl (fun K' hK' => ?_) AllReadyIn.nil)
    · simp only [List.getElem_toArray, List.getElem_cons_zero, List.getElem_cons_succ, List.setIfInBounds_toArray, List.set_cons_succ, List.set_cons_zero]
      gi_big_op
      refine hK' _ _ ?_
      clear hK' K'
      refine wpAnyIn_ready (rs := [2, 3]) (by kernel_rfl) (by simp) ?_
      refine BigFrame.allReadyIn_want rfl rfl (fun K' hK' => ?_) (BigFrame.allReadyIn_want rfl rfl (fun K' hK' => ?_) AllReadyIn.nil)
      · simp only [List.getElem_toArray, List.getElem_cons_zero, List.getElem_cons_succ]
        gi_big_op
        refine hK' _ _ ?_
        clear hK' K'
        refine wpAnyIn_ready (rs := [3, 6]) (by kernel_rfl) (by simp) ?_
        refine BigFrame.allReadyIn_want rfl rfl (fun K' hK' => ?_) (BigFrame.allReadyIn_want rfl rfl (fun K' hK' => ?_) AllReadyIn.nil)
        · simp only [List.getElem_toArray, List.getElem_cons_zero, List.getElem_cons_succ]
          gi_big_op
          refine hK' _ _ ?_
          clear hK' K'
          refine wpAnyIn_ready (rs := [5, 6]) (by kernel_rfl) (by simp) ?_
          refine BigFrame.allReadyIn_want rfl rfl (fun K' hK' => ?_) (BigFrame.allReadyIn_want rfl rfl (fun K' hK' => ?_) AllReadyIn.nil)
          · simp only [List.getElem_toArray, List.getElem_cons_zero, List.getElem_cons_succ]
            gi_big_op
            refine hK' _ _ ?_
            clear hK' K'
            refine wpAnyIn_ready (rs := [6]) (by kernel_rfl) (by simp) ?_
            refine BigFrame.allReadyIn_want rfl rfl (fun K' hK' => ?_) AllReadyIn.nil
            · simp only [List.getElem_toArray, List.getElem_cons_zero, List.getElem_cons_succ]
              gi_big_op
              refine hK' _ _ ?_
              clear hK' K'
              refine wpAnyIn_ready (rs := [7]) (by kernel_rfl) (by simp) ?_
              refine BigFrame.allReadyIn_want rfl rfl (fun K' hK' => ?_) AllReadyIn.nil
              · simp only [List.getElem_toArray, List.getElem_cons_zero, List.getElem_cons_succ]
                gi_big_op
                refine hK' _ _ ?_
                clear hK' K'
                refine wpAnyIn_done (by kernel_rfl) ?_ _
                exact HP.out { tmps := #[], defers := [] }
          · simp only [List.getElem_toArray, List.getElem_cons_zero, List.getElem_cons_succ]
            gi_big_op
            refine hK' _ _ ?_
            clear hK' K'
            refine wpAnyIn_ready (rs := [5]) (by kernel_rfl) (by simp) ?_
            refine BigFrame.allReadyIn_want rfl rfl (fun K' hK' => ?_) AllReadyIn.nil
            · simp only [List.getElem_toArray, List.getElem_cons_zero, List.getElem_cons_succ]
              gi_big_op
              refine hK' _ _ ?_
              clear hK' K'
              refine wpAnyIn_ready (rs := [7]) (by kernel_rfl) (by simp) ?_
              refine BigFrame.allReadyIn_want rfl rfl (fun K' hK' => ?_) AllReadyIn.nil
              · simp only [List.getElem_toArray, List.getElem_cons_zero, List.getElem_cons_succ]
                gi_big_op
                refine hK' _ _ ?_
                clear hK' K'
                refine wpAnyIn_done (by kernel_rfl) ?_ _
                exact HP.out { tmps := #[], defers := [] }
        · simp only [List.getElem_toArray, List.getElem_cons_zero, List.getElem_cons_succ]
          gi_big_op
          refine hK' _ _ ?_
          clear hK' K'
          refine wpAnyIn_ready (rs := [3]) (by kernel_rfl) (by simp) ?_
          refine BigFrame.allReadyIn_want rfl rfl (fun K' hK' => ?_) AllReadyIn.nil
          · simp only [List.getElem_toArray, List.getElem_cons_zero, List.getElem_cons_succ]
            gi_big_op
            refine hK' _ _ ?_
            clear hK' K'
            refine wpAnyIn_ready (rs := [5]) (by kernel_rfl) (by simp) ?_
            refine BigFrame.allReadyIn_want rfl rfl (fun K' hK' => ?_) AllReadyIn.nil
            · simp only [List.getElem_toArray, List.getElem_cons_zero, List.getElem_cons_succ]
              gi_big_op
              refine hK' _ _ ?_
              clear hK' K'
              refine wpAnyIn_ready (rs := [7]) (by kernel_rfl) (by simp) ?_
              refine BigFrame.allReadyIn_want rfl rfl (fun K' hK' => ?_) AllReadyIn.nil
              · simp only [List.getElem_toArray, List.getElem_cons_zero, List.getElem_cons_succ]
                gi_big_op
                refine hK' _ _ ?_
                clear hK' K'
                refine wpAnyIn_done (by kernel_rfl) ?_ _
                exact HP.out { tmps := #[], defers := [] }
      · simp only [List.getElem_toArray, List.getElem_cons_zero, List.getElem_cons_succ]
        gi_big_op
        refine hK' _ _ ?_
        clear hK' K'
        refine wpAnyIn_ready (rs := [2, 5]) (by kernel_rfl) (by simp) ?_
        refine BigFrame.allReadyIn_want rfl rfl (fun K' hK' => ?_) (BigFrame.allReadyIn_want rfl rfl (fun K' hK' => ?_) AllReadyIn.nil)
        · simp only [List.getElem_toArray, List.getElem_cons_zero, List.getElem_cons_succ]
          gi_big_op
          refine hK' _ _ ?_
          clear hK' K'
          refine wpAnyIn_ready (rs := [5, 6]) (by kernel_rfl) (by simp) ?_
          refine BigFrame.allReadyIn_want rfl rfl (fun K' hK' => ?_) (BigFrame.allReadyIn_want rfl rfl (fun K' hK' => ?_) AllReadyIn.nil)
          · simp only [List.getElem_toArray, List.getElem_cons_zero, List.getElem_cons_succ]
            gi_big_op
            refine hK' _ _ ?_
            clear hK' K'
            refine wpAnyIn_ready (rs := [6]) (by kernel_rfl) (by simp) ?_
            refine BigFrame.allReadyIn_want rfl rfl (fun K' hK' => ?_) AllReadyIn.nil
            · simp only [List.getElem_toArray, List.getElem_cons_zero, List.getElem_cons_succ]
              gi_big_op
              refine hK' _ _ ?_
              clear hK' K'
              refine wpAnyIn_ready (rs := [7]) (by kernel_rfl) (by simp) ?_
              refine BigFrame.allReadyIn_want rfl rfl (fun K' hK' => ?_) AllReadyIn.nil
              · simp only [List.getElem_toArray, List.getElem_cons_zero, List.getElem_cons_succ]
                gi_big_op
                refine hK' _ _ ?_
                clear hK' K'
                refine wpAnyIn_done (by kernel_rfl) ?_ _
                exact HP.out { tmps := #[], defers := [] }
          · simp only [List.getElem_toArray, List.getElem_cons_zero, List.getElem_cons_succ]
            gi_big_op
            refine hK' _ _ ?_
            clear hK' K'
            refine wpAnyIn_ready (rs := [5]) (by kernel_rfl) (by simp) ?_
            refine BigFrame.allReadyIn_want rfl rfl (fun K' hK' => ?_) AllReadyIn.nil
            · simp only [List.getElem_toArray, List.getElem_cons_zero, List.getElem_cons_succ]
              gi_big_op
              refine hK' _ _ ?_
              clear hK' K'
              refine wpAnyIn_ready (rs := [7]) (by kernel_rfl) (by simp) ?_
              refine BigFrame.allReadyIn_want rfl rfl (fun K' hK' => ?_) AllReadyIn.nil
              · simp only [List.getElem_toArray, List.getElem_cons_zero, List.getElem_cons_succ]
                gi_big_op
                refine hK' _ _ ?_
                clear hK' K'
                refine wpAnyIn_done (by kernel_rfl) ?_ _
                exact HP.out { tmps := #[], defers := [] }
        · simp only [List.getElem_toArray, List.getElem_cons_zero, List.getElem_cons_succ]
          gi_big_op
          refine hK' _ _ ?_
          clear hK' K'
          refine wpAnyIn_ready (rs := [2]) (by kernel_rfl) (by simp) ?_
          refine BigFrame.allReadyIn_want rfl rfl (fun K' hK' => ?_) AllReadyIn.nil
          · simp only [List.getElem_toArray, List.getElem_cons_zero, List.getElem_cons_succ]
            gi_big_op
            refine hK' _ _ ?_
            clear hK' K'
            refine wpAnyIn_ready (rs := [6]) (by kernel_rfl) (by simp) ?_
            refine BigFrame.allReadyIn_want rfl rfl (fun K' hK' => ?_) AllReadyIn.nil
            · simp only [List.getElem_toArray, List.getElem_cons_zero, List.getElem_cons_succ]
              gi_big_op
              refine hK' _ _ ?_
              clear hK' K'
              refine wpAnyIn_ready (rs := [7]) (by kernel_rfl) (by simp) ?_
              refine BigFrame.allReadyIn_want rfl rfl (fun K' hK' => ?_) AllReadyIn.nil
              · simp only [List.getElem_toArray, List.getElem_cons_zero, List.getElem_cons_succ]
                gi_big_op
                refine hK' _ _ ?_
                clear hK' K'
                refine wpAnyIn_done (by kernel_rfl) ?_ _
                exact HP.out { tmps := #[], defers := [] }
    · simp only [List.getElem_toArray, List.getElem_cons_zero, List.getElem_cons_succ, List.setIfInBounds_toArray, List.set_cons_succ, List.set_cons_zero]
      gi_big_op
      refine hK' _ _ ?_
      clear hK' K'
      refine wpAnyIn_ready (rs := [0, 5]) (by kernel_rfl) (by simp) ?_
      refine BigFrame.allReadyIn_want rfl rfl (fun K' hK' => ?_) (BigFrame.allReadyIn_want rfl rfl (fun K' hK' => ?_) AllReadyIn.nil)
      · simp only [List.getElem_toArray, List.getElem_cons_zero]
        gi_big_op
        refine hK' _ _ ?_
        clear hK' K'
        refine wpAnyIn_ready (rs := [2, 5]) (by kernel_rfl) (by simp) ?_
        refine BigFrame.allReadyIn_want rfl rfl (fun K' hK' => ?_) (BigFrame.allReadyIn_want rfl rfl (fun K' hK' => ?_) AllReadyIn.nil)
        · simp only [List.getElem_toArray, List.getElem_cons_zero, List.getElem_cons_succ]
          gi_big_op
          refine hK' _ _ ?_
          clear hK' K'
          refine wpAnyIn_ready (rs := [5, 6]) (by kernel_rfl) (by simp) ?_
          refine BigFrame.allReadyIn_want rfl rfl (fun K' hK' => ?_) (BigFrame.allReadyIn_want rfl rfl (fun K' hK' => ?_) AllReadyIn.nil)
          · simp only [List.getElem_toArray, List.getElem_cons_zero, List.getElem_cons_succ]
            gi_big_op
            refine hK' _ _ ?_
            clear hK' K'
            refine wpAnyIn_ready (rs := [6]) (by kernel_rfl) (by simp) ?_
            refine BigFrame.allReadyIn_want rfl rfl (fun K' hK' => ?_) AllReadyIn.nil
            · simp only [List.getElem_toArray, List.getElem_cons_zero, List.getElem_cons_succ]
              gi_big_op
              refine hK' _ _ ?_
              clear hK' K'
              refine wpAnyIn_ready (rs := [7]) (by kernel_rfl) (by simp) ?_
              refine BigFrame.allReadyIn_want rfl rfl (fun K' hK' => ?_) AllReadyIn.nil
              · simp only [List.getElem_toArray, List.getElem_cons_zero, List.getElem_cons_succ]
                gi_big_op
                refine hK' _ _ ?_
                clear hK' K'
                refine wpAnyIn_done (by kernel_rfl) ?_ _
                exact HP.out { tmps := #[], defers := [] }
          · simp only [List.getElem_toArray, List.getElem_cons_zero, List.getElem_cons_succ]
            gi_big_op
            refine hK' _ _ ?_
            clear hK' K'
            refine wpAnyIn_ready (rs := [5]) (by kernel_rfl) (by simp) ?_
            refine BigFrame.allReadyIn_want rfl rfl (fun K' hK' => ?_) AllReadyIn.nil
            · simp only [List.getElem_toArray, List.getElem_cons_zero, List.getElem_cons_succ]
              gi_big_op
              refine hK' _ _ ?_
              clear hK' K'
              refine wpAnyIn_ready (rs := [7]) (by kernel_rfl) (by simp) ?_
              refine BigFrame.allReadyIn_want rfl rfl (fun K' hK' => ?_) AllReadyIn.nil
              · simp only [List.getElem_toArray, List.getElem_cons_zero, List.getElem_cons_succ]
                gi_big_op
                refine hK' _ _ ?_
                clear hK' K'
                refine wpAnyIn_done (by kernel_rfl) ?_ _
                exact HP.out { tmps := #[], defers := [] }
        · simp only [List.getElem_toArray, List.getElem_cons_zero, List.getElem_cons_succ]
          gi_big_op
          refine hK' _ _ ?_
          clear hK' K'
          refine wpAnyIn_ready (rs := [2]) (by kernel_rfl) (by simp) ?_
          refine BigFrame.allReadyIn_want rfl rfl (fun K' hK' => ?_) AllReadyIn.nil
          · simp only [List.getElem_toArray, List.getElem_cons_zero, List.getElem_cons_succ]
            gi_big_op
            refine hK' _ _ ?_
            clear hK' K'
            refine wpAnyIn_ready (rs := [6]) (by kernel_rfl) (by simp) ?_
            refine BigFrame.allReadyIn_want rfl rfl (fun K' hK' => ?_) AllReadyIn.nil
            · simp only [List.getElem_toArray, List.getElem_cons_zero, List.getElem_cons_succ]
              gi_big_op
              refine hK' _ _ ?_
              clear hK' K'
              refine wpAnyIn_ready (rs := [7]) (by kernel_rfl) (by simp) ?_
              refine BigFrame.allReadyIn_want rfl rfl (fun K' hK' => ?_) AllReadyIn.nil
              · simp only [List.getElem_toArray, List.getElem_cons_zero, List.getElem_cons_succ]
                gi_big_op
                refine hK' _ _ ?_
                clear hK' K'
                refine wpAnyIn_done (by kernel_rfl) ?_ _
                exact HP.out { tmps := #[], defers := [] }
      · simp only [List.getElem_toArray, List.getElem_cons_zero, List.getElem_cons_succ]
        gi_big_op
        refine hK' _ _ ?_
        clear hK' K'
        refine wpAnyIn_ready (rs := [0]) (by kernel_rfl) (by simp) ?_
        refine BigFrame.allReadyIn_want rfl rfl (fun K' hK' => ?_) AllReadyIn.nil
        · simp only [List.getElem_toArray, List.getElem_cons_zero]
          gi_big_op
          refine hK' _ _ ?_
          clear hK' K'
          refine wpAnyIn_ready (rs := [2]) (by kernel_rfl) (by simp) ?_
          refine BigFrame.allReadyIn_want rfl rfl (fun K' hK' => ?_) AllReadyIn.nil
          · simp only [List.getElem_toArray, List.getElem_cons_zero, List.getElem_cons_succ]
            gi_big_op
            refine hK' _ _ ?_
            clear hK' K'
            refine wpAnyIn_ready (rs := [6]) (by kernel_rfl) (by simp) ?_
            refine BigFrame.allReadyIn_want rfl rfl (fun K' hK' => ?_) AllReadyIn.nil
            · simp only [List.getElem_toArray, List.getElem_cons_zero, List.getElem_cons_succ]
              gi_big_op
              refine hK' _ _ ?_
              clear hK' K'
              refine wpAnyIn_ready (rs := [7]) (by kernel_rfl) (by simp) ?_
              refine BigFrame.allReadyIn_want rfl rfl (fun K' hK' => ?_) AllReadyIn.nil
              · simp only [List.getElem_toArray, List.getElem_cons_zero, List.getElem_cons_succ]
                gi_big_op
                refine hK' _ _ ?_
                clear hK' K'
                refine wpAnyIn_done (by kernel_rfl) ?_ _
                exact HP.out { tmps := #[], defers := [] }
  case done =>
    rintro D ys Z W hD hys ⟨⟨h1, h2⟩, _, hB⟩ hK
    rw [hys] at h1 h2
    have hfb := hbd2.out
    have hA := HA.out
    clear hys
    generalize (spansL n ts j).foldl min n = m at h1 hfb hA
    generalize (spansL n ts j).foldl max 0 = M at h2 hfb hA
    have HA2 := Lib.hid hA
    have c1 := h1.cell
    have c2 := h2.cell
    clear hA
    gi_wp2
    refine ⟨by simp, .inl ⟨_, _, rfl, run_takeDeferred hK, ?_⟩⟩
    refine ⟨_, results_tmp rfl _ _ _, ?_, by rw [hH'.out]; exact hB.trans (belowK_b (n₀ := H) (w := W0) (by omega) W D _ _ (by omega) hK rfl rfl)⟩
    refine ret_bool ?_
    rw [← HA2.out, Bool.eq_iff_iff, decide_eq_true_eq, decide_eq_true_eq]
    omega
  case stop =>
    rintro D c pre Z W _ _ h _
    exact h.elim

end Go.Proofs.YtmemnkmmjejlgaaDoor
