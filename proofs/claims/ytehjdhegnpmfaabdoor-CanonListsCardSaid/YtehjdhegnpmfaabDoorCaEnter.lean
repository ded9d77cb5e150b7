/-
  Tiles, Enter: their contracts.
-/
import Derived.Test.YtehjdhegnpmfaabDoorCaTile
namespace Go.Proofs.YtehjdhegnpmfaabDoor
open Go.RowKit Go.Shelf
attribute [local go_sem] Oper.semAt_some
set_option maxRecDepth 100000

theorem below_two (w : World) (o : Obj) : Below w.heap.size w (w.alloc o) := (Below.refl _ w).alloc (Nat.le_refl _) _

theorem Tiles_bad (n a b : Int) (h : (vldB n a && vldB n b) = false) (w : World) :
    Calls Tryd.prog 14 #[.int .i64 n, .int .i64 a, .int .i64 b] w fun e w' => e = .returned (.tuple #[.bool false, .int .i64 2]) ∧ Below w.heap.size w w' := by
  have HV := Lib.hid (valid2 n a b _ h)
  clear h
  go_enter Tryd.func14, Tryd.ntmps14
  go_wp2_with (go_at_call 46; refine (HV.out _ _ _ (cell_two rfl).1 (cell_two rfl).2).mono ?_; rintro e w' ⟨rfl, rfl⟩)
  go_ret2
  exact ⟨rfl, below_two _ _⟩

theorem Tiles_ok (n a b : Nat) (hn : 2 ≤ n) (hn2 : n ≤ 24) (ha : a < 2 ^ n) (hb : b < 2 ^ n) (ha1 : a % 2 = 1) (hb1 : b % 2 = 1) (w : World) (hT : Tab w) :
    Calls Tryd.prog 14 #[.int .i64 n, .int .i64 a, .int .i64 b] w fun e w' => e = .returned (.tuple #[.bool (tileB n a b), .int .i64 0]) ∧ Below w.heap.size w w' := by
  have HV := Lib.hid (valid2 n a b true (by rw [vldB_of_nat hn hn2 ha ha1, vldB_of_nat hn hn2 hb hb1]; rfl))
  have hB := below_two w (.cells #[.int .i64 a, .int .i64 b] 3)
  have HM := Lib.hid (tile_any n a b hn hn2 ha hb (w.alloc (.cells #[.int .i64 a, .int .i64 b] 3)) (hT.same hB))
  clear hT
  generalize tileB n a b = q at HM
  go_enter Tryd.func14, Tryd.ntmps14
  go_wp2_with (first | (go_at_call 46; refine (HV.out _ _ _ (cell_two rfl).1 (cell_two rfl).2).mono ?_; rintro e w' ⟨rfl, rfl⟩) | (go_at_call 47; refine HM.out.mono ?_; rintro e w' ⟨rfl, hb⟩))
  go_ret2
  exact ⟨rfl, hB.trans ((by assumption : Below _ _ _).mono (by simp))⟩

/-- The last of a list that a beat comes from. -/
def lastE (n a beat : Nat) (l : List Nat) : Nat := l.foldl (fun e y => if a.testBit ((beat + n - y) % n) then y else e) 0
theorem lastE_snoc (n a beat : Nat) (l : List Nat) (y : Nat) : lastE n a beat (l ++ [y]) = if a.testBit ((beat + n - y) % n) then y else lastE n a beat l := by
  unfold lastE; rw [List.foldl_append]; rfl
theorem lastE_le (n a beat B : Nat) (l : List Nat) (h : ∀ y ∈ l, y ≤ B) : lastE n a beat l ≤ B := by
  unfold lastE
  have : ∀ (l : List Nat) (e : Nat), (∀ y ∈ l, y ≤ B) → e ≤ B → l.foldl (fun e y => if a.testBit ((beat + n - y) % n) then y else e) e ≤ B := by
    intro l
    induction l with
    | nil => intro e _ h; exact h
    | cons x l ih =>
      intro e hl he
      rw [List.foldl_cons]
      refine ih _ (fun y hy => hl y (List.mem_cons_of_mem _ hy)) ?_
      split
      · exact hl x (List.mem_cons_self ..)
      · exact he
  exact this l 0 h (Nat.zero_le _)
theorem lastE_only (n a beat y0 : Nat) (l : List Nat) (hm : y0 ∈ l) (h0 : a.testBit ((beat + n - y0) % n) = true) (h : ∀ z ∈ l, a.testBit ((beat + n - z) % n) = true → z = y0) : lastE n a beat l = y0 := by
  unfold lastE
  have : ∀ (l : List Nat) (e : Nat), (∀ z ∈ l, a.testBit ((beat + n - z) % n) = true → z = y0) → (e = y0 ∨ y0 ∈ l) → l.foldl (fun e y => if a.testBit ((beat + n - y) % n) then y else e) e = y0 := by
    intro l
    induction l with
    | nil => intro e _ h; rcases h with h | h; exact h; cases h
    | cons x l ih =>
      intro e hl he
      rw [List.foldl_cons]
      refine ih _ (fun y hy => hl y (List.mem_cons_of_mem _ hy)) ?_
      by_cases hx : a.testBit ((beat + n - x) % n) = true
      · rw [if_pos hx]; left; exact hl x (List.mem_cons_self ..) hx
      · rw [if_neg hx]
        rcases he with he | he
        · left; exact he
        · rcases List.mem_cons.1 he with e2 | e2
          · subst e2; exact absurd h0 hx
          · right; exact e2
  exact this l 0 h (Or.inr hm)

/-- What Enter takes. -/
def entOk (n a b beat : Int) : Prop := (vldB n a && vldB n b) = true ∧ 0 ≤ beat ∧ beat < n

theorem cells3 (w : World) (x y z : Value) (t : TypeId) : ((((w.alloc (.cells #[x] t)).alloc (.cells #[y] t)).alloc (.cells #[z] t))).cell? ⟨w.heap.size, 0, none⟩ = some x ∧
    ((((w.alloc (.cells #[x] t)).alloc (.cells #[y] t)).alloc (.cells #[z] t))).cell? ⟨w.heap.size + 1, 0, none⟩ = some y ∧
    ((((w.alloc (.cells #[x] t)).alloc (.cells #[y] t)).alloc (.cells #[z] t))).cell? ⟨w.heap.size + 1 + 1, 0, none⟩ = some z :=
  ⟨cell_up (cell_up (cell_at rfl)), cell_up (cell_at (by simp)), cell_at (by simp)⟩

theorem Enter_bad (n a b beat : Int) (h : ¬ entOk n a b beat) (w : World) :
    Calls Tryd.prog 15 #[.int .i64 n, .int .i64 a, .int .i64 b, .int .i64 beat] w fun e w' => e = .returned (.tuple #[.int .i64 0, .int .i64 2]) ∧ Below w.heap.size w w' := by
  have hB : Below w.heap.size w ((((w.alloc (.cells #[.int .i64 n] 3)).alloc (.cells #[.int .i64 a] 3)).alloc (.cells #[.int .i64 beat] 3)).alloc (.cells #[.int .i64 a, .int .i64 b] 3)) :=
    ((((Below.refl _ w).alloc (Nat.le_refl _) _).alloc (by simp) _).alloc (by simp; omega) _).alloc (by simp; omega) _
  unfold entOk at h
  cases hv : (vldB n a && vldB n b)
  · have HV := Lib.hid (valid2 n a b _ hv)
    clear h hv
    go_enter Tryd.func15, Tryd.ntmps15
    go_wp2_with (go_at_call 46; refine (HV.out _ _ _ (cell_two (by simp)).1 (cell_two (by simp)).2).mono ?_; rintro e w' ⟨rfl, rfl⟩)
    go_ret2
    exact ⟨rfl, hB⟩
  · have HV := Lib.hid (valid2 n a b _ hv)
    by_cases h1 : 0 ≤ beat
    · have h2 : ¬ beat < n := fun x => h ⟨hv, h1, x⟩
      clear h hv
      go_enter Tryd.func15, Tryd.ntmps15
      go_wp2_with (go_at_call 46; refine (HV.out _ _ _ (cell_two (by simp)).1 (cell_two (by simp)).2).mono ?_; rintro e w' ⟨rfl, rfl⟩)
      go_ret2
      exact ⟨rfl, hB⟩
    · clear h hv
      go_enter Tryd.func15, Tryd.ntmps15
      go_wp2_with (go_at_call 46; refine (HV.out _ _ _ (cell_two (by simp)).1 (cell_two (by simp)).2).mono ?_; rintro e w' ⟨rfl, rfl⟩)
      go_ret2
      exact ⟨rfl, hB⟩

theorem Enter_none (n a b beat : Nat) (hn : 2 ≤ n) (hn2 : n ≤ 24) (ha : a < 2 ^ n) (hb : b < 2 ^ n) (ha1 : a % 2 = 1) (hb1 : b % 2 = 1) (hbt : beat < n) (ht : tileB n a b = false) (w : World) (hT : Tab w) :
    Calls Tryd.prog 15 #[.int .i64 n, .int .i64 a, .int .i64 b, .int .i64 beat] w fun e w' => e = .returned (.tuple #[.int .i64 0, .int .i64 4]) ∧ Below w.heap.size w w' := by
  have hB : Below w.heap.size w ((((w.alloc (.cells #[.int .i64 n] 3)).alloc (.cells #[.int .i64 a] 3)).alloc (.cells #[.int .i64 beat] 3)).alloc (.cells #[.int .i64 a, .int .i64 b] 3)) :=
    ((((Below.refl _ w).alloc (Nat.le_refl _) _).alloc (by simp) _).alloc (by simp; omega) _).alloc (by simp; omega) _
  have HV := Lib.hid (valid2 n a b true (by rw [vldB_of_nat hn hn2 ha ha1, vldB_of_nat hn hn2 hb hb1]; rfl))
  have HM := Lib.hid (tile_any n a b hn hn2 ha hb _ (hT.same hB))
  rw [ht] at HM
  clear hT ht
  go_enter Tryd.func15, Tryd.ntmps15
  go_wp2_with (first | (go_at_call 46; refine (HV.out _ _ _ (cell_two (by simp)).1 (cell_two (by simp)).2).mono ?_; rintro e w' ⟨rfl, rfl⟩) | (go_at_call 47; refine HM.out.mono ?_; rintro e w' ⟨rfl, hb⟩))
  go_ret2
  exact ⟨rfl, hB.trans ((by assumption : Below _ _ _).mono (by simp; omega))⟩

set_option maxHeartbeats 1000000 in
theorem Enter_ok (n a b beat y0 : Nat) (hn : 2 ≤ n) (hn2 : n ≤ 24) (ha : a < 2 ^ n) (hb : b < 2 ^ n) (ha1 : a % 2 = 1) (hb1 : b % 2 = 1) (hbt : beat < n) (ht : tileB n a b = true)
    (hy : lastE n a beat (tonesB n b) = y0) (w : World) (hT : Tab w) :
    Calls Tryd.prog 15 #[.int .i64 n, .int .i64 a, .int .i64 b, .int .i64 beat] w fun e w' => e = .returned (.tuple #[.int .i64 y0, .int .i64 0]) ∧ Below w.heap.size w w' := by
  have hTs := hT.size
  have hB : Below w.heap.size w ((((w.alloc (.cells #[.int .i64 n] 3)).alloc (.cells #[.int .i64 a] 3)).alloc (.cells #[.int .i64 beat] 3)).alloc (.cells #[.int .i64 a, .int .i64 b] 3)) :=
    ((((Below.refl _ w).alloc (Nat.le_refl _) _).alloc (by simp) _).alloc (by simp; omega) _).alloc (by simp; omega) _
  have HV := Lib.hid (valid2 n a b true (by rw [vldB_of_nat hn hn2 ha ha1, vldB_of_nat hn hn2 hb hb1]; rfl))
  have HM := Lib.hid (tile_any n a b hn hn2 ha hb _ (hT.same hB))
  rw [ht] at HM
  rw [← tonesL_eq b (by omega) hb] at hy
  have HY := Lib.hid hy
  have HT := Lib.hid hT
  have HB := Lib.hid hB
  have hneg : decide ((beat : Int) < 0) = false := by rw [decide_eq_false_iff_not]; omega
  clear hT ht hy hB
  refine (callsIn_wide (n := 9)).1 ?_
  refine callsIn_of_wp_marks Tryd.func15 rfl trivial ?_ rfl
  simp only [Tryd.ntmps15, List.size_toArray, List.length_cons, List.length_nil, Nat.reduceAdd, Nat.reduceSub, Array.replicate_succ, Array.replicate_zero, List.push_toArray, List.append_toArray, List.nil_append, List.cons_append]
  gi_wp2_with (refine ⟨trivial, ?_⟩; gi_at_call 46; refine (callsIn_wide.2 (HV.out _ _ _ (cell_two (by simp)).1 (cell_two (by simp)).2)).mono ?_; rintro e w' ⟨rfl, rfl⟩)
  refine ⟨trivial, ?_⟩
  refine (callsIn_wide.2 HM.out).mono ?_
  rintro e w1 ⟨rfl, b1⟩
  obtain ⟨H, hH⟩ : ∃ H, w.heap.size = H := ⟨_, rfl⟩
  have hHle : H ≤ w.heap.size := by omega
  have hb01 := HB.out.trans (b1.mono (by simp; omega))
  have k0 := cell_later b1 (cell_up (o := .cells #[.int .i64 a, .int .i64 b] 3) (cells3 w (.int .i64 n) (.int .i64 a) (.int .i64 beat) 3).1)
  have k1 := cell_later b1 (cell_up (o := .cells #[.int .i64 a, .int .i64 b] 3) (cells3 w (.int .i64 n) (.int .i64 a) (.int .i64 beat) 3).2.1)
  have k2 := cell_later b1 (cell_up (o := .cells #[.int .i64 a, .int .i64 b] 3) (cells3 w (.int .i64 n) (.int .i64 a) (.int .i64 beat) 3).2.2)
  have hs1 : w.heap.size + 4 ≤ w1.heap.size := by have := b1.size; simp at this; omega
  have hT1 : Tab w1 := HT.out.same hb01
  rw [hH] at k0 k1 k2 hs1 hb01 ⊢
  clear b1
  gi_wp2_with (refine ⟨trivial, ?_⟩; gi_at_call 48; refine (callsIn_wide.2 (beats_any _ _)).mono ?_; rintro e w' ⟨rfl, rfl⟩)
  clear hneg
  obtain ⟨E, hE⟩ : ∃ E, w1.heap.size = E := ⟨_, rfl⟩
  obtain ⟨W0, hW0⟩ : ∃ W0, ((w1.alloc (Obj.cells #[Value.int IntKind.i64 0] 3)).alloc (Obj.cells #[Value.int IntKind.i64 ↑b] 3)) = W0 := ⟨_, rfl⟩
  have c0 : W0.cell? ⟨H, 0, none⟩ = some (.int .i64 n) := by rw [← hW0]; exact cell_up (cell_up k0)
  have c1 : W0.cell? ⟨H + 1, 0, none⟩ = some (.int .i64 a) := by rw [← hW0]; exact cell_up (cell_up k1)
  have c2 : W0.cell? ⟨H + 1 + 1, 0, none⟩ = some (.int .i64 beat) := by rw [← hW0]; exact cell_up (cell_up k2)
  have c3 : W0.cell? ⟨E, 0, none⟩ = some (.int .i64 0) := by rw [← hW0]; exact cell_up (cell_at (by omega))
  have c4 : W0.cell? ⟨E + 1, 0, none⟩ = some (.int .i64 b) := by rw [← hW0]; exact cell_at (by simp; omega)
  have f3 : W0.frozen? ⟨E, 0, none⟩ = false := by rw [← hW0]; exact frozen_up (cell_at (by omega)) (frozen_at (by omega))
  have hB0 : Below H w W0 := by rw [← hW0]; exact (hb01.alloc (by omega) _).alloc (by simp; omega) _
  have hS0 : W0.heap.size = E + 2 := by rw [← hW0, ← hE]; simp
  have hT0 : Tab W0 := HT.out.below hB0 (by omega)
  rw [hW0, hE]
  have hH' := Lib.hid hH
  have hEs : H + 4 ≤ E := by omega
  have hHl1 : 1 < H := by omega
  clear hW0 hE hH k0 k1 k2 hT1 hb01 hs1
  refine wpIn_rangeFunc_ownF rfl (by omega) (gf := 70) (lb := #[.pointer (some ⟨E + 1, 0, none⟩)]) rfl trivial (enters_of Tryd.func70 (by kernel_rfl) rfl)
    (tones1_stops (· < E) (9 - 1) n b (E + 1) (by omega) (by omega) hb W0 hT0 (show 1 < E by omega) c4) keptOn_t (keptOn_b (fun k (hk : k < E) => by omega)) (Below.refl _ _) (fun _ => rfl)
    (fun pre W => (W.cell? ⟨E, 0, none⟩ = some (.int .i64 (lastE n a beat (pre.map Fin.val) : Nat)) ∧ W.frozen? ⟨E, 0, none⟩ = false ∧ W.cell? ⟨H + 1 + 1, 0, none⟩ = some (.int .i64 beat) ∧ W.cell? ⟨H + 1, 0, none⟩ = some (.int .i64 a) ∧ W.cell? ⟨H, 0, none⟩ = some (.int .i64 n)) ∧ Below H w W)
    (fun _ _ _ => False)
    (OwnFrom.and (Own.from (fun s A B row hs hg hr => ⟨cell_kept hs.1 hg hr, (frozen_kept hs.1 hg hr).trans hs.2.1, cell_kept hs.2.2.1 hg hr, cell_kept hs.2.2.2.1 hg hr, cell_kept hs.2.2.2.2 hg hr⟩) _) (ownFrom_below hHle (by omega)))
    (fun _ _ _ _ _ hs _ _ => hs)
    ⟨⟨c3, f3, c2, c1, c0⟩, hB0⟩
    (fun x => { tmps := #[.int .i64 n, .int .i64 a, .int .i64 b, .int .i64 beat, .pointer (some ⟨H, 0, none⟩), .pointer (some ⟨H + 1, 0, none⟩), undef, .pointer (some ⟨H + 1 + 1, 0, none⟩), .int .i64 0, .int .i64 0, .pointer (some ⟨E, 0, none⟩), .int .i64 x.val, .int .i64 n, .int .i64 a, .int .i64 b,
      .slice (some ⟨H + 1 + 1 + 1, 0, none⟩) 2 2, .bool true, .bool false, .bool false, .int .i64 beat, .bool false, .bool false, .bool false, .int .i64 beat, .int .i64 n, .bool false, .bool false, .int .i64 n, .int .i64 a, .int .i64 b, .bool true, .bool false, .int .i64 b, .func (.func 70) #[] #[.pointer (some ⟨E + 1, 0, none⟩)], .int .i64 x.val,
      undef, undef, undef, undef, undef, undef, undef, undef, undef], defers := [] }) ?assign ?body ?done ?stop
  case assign =>
    intro l x W K hK
    gi_wp2
    exact hK
  case body =>
    rintro l pre x W ⟨⟨hc1, hc2, hc3, hc4, hc5⟩, hB⟩ _
    have hd : 1 ≤ 9 - 1 - 1 := by omega
    have hxl := x.isLt
    have hw0 : IntKind.i64.wrap ((beat : Int) - (x.val : Int)) = beat - x.val := IntWalk.i64_in _ (by omega)
    have hu : ((beat : Int) - (x.val : Int)) % n = (((beat + n - x.val) % n : Nat) : Int) := by
      rw [← Int.add_emod_right]
      have e : (beat : Int) - x.val + n = ((beat + n - x.val : Nat) : Int) := by omega
      rw [e]; simp
    have hul : (beat + n - x.val) % n < n := Nat.mod_lt _ (by omega)
    have hmod : ∀ V : World, Calls Tryd.prog 50 #[.int .i64 ((beat : Int) - (x.val : Int)), .int .i64 n] V fun e w' => e = .returned (.int .i64 (((beat + n - x.val) % n : Nat) : Int)) ∧ V = w' := fun V => by
      have h9 := modulo_any ((beat : Int) - (x.val : Int)) n (by omega) (by omega) V
      rwa [hu] at h9
    have HMod := Lib.hid hmod
    have hp24 : 2 ^ n ≤ 2 ^ 24 := Nat.pow_le_pow_right (by omega) hn2
    have HA := Lib.hid (fun V => has_any a ((beat + n - x.val) % n) (by omega) (by omega) V)
    have hsn := Lib.hid (show lastE n a beat ((pre ++ [x]).map Fin.val) = if a.testBit ((beat + n - x.val) % n) then x.val else lastE n a beat (pre.map Fin.val) by rw [List.map_append, List.map_singleton, lastE_snoc])
    have hmx : Tryd.prog.follows .mixedOrders = true := by kernel_rfl
    have HB1 := Lib.hid hB
    generalize lastE n a beat (pre.map Fin.val) = o at hc1 hsn
    generalize (beat + n - x.val) % n = u at HMod HA hsn hul
    clear hB hu hmod
    cases hq : a.testBit u
    · rw [hq] at HA hsn
      clear hq
      gi_wp2
      refine region_quiet_tail 6 hmx (by kernel_rfl) (by kernel_rfl) ?_
      simp only [List.take_succ_cons, List.take_zero, List.drop_succ_cons, List.drop_zero]
      repeat (go_big_quiet_step ((go_at_call 50; exact Calls.quiet_of_same ((HMod.out _).mono fun e w' h => ⟨h.1, h.2.symm⟩))))
      refine wpQuiet_nil ?_
      rintro _ ⟨nq, rfl⟩
      gi_wp2_with (refine ⟨trivial, ?_⟩; gi_at_call 49; refine (CallsIn.inRound l (callsIn_wide.2 (HA.out _))).mono ?_; rintro e w' ⟨rfl, rfl⟩)
      refine ⟨keeps_drewN W nq, (KeptOn.refl _ W).drewN nq, ⟨?_, hc2, hc3, hc4, hc5⟩, below_drewN HB1.out nq⟩
      rw [hsn.out, if_neg (by decide)]
      exact hc1
    · rw [hq] at HA hsn
      clear hq
      gi_wp2
      refine region_quiet_tail 6 hmx (by kernel_rfl) (by kernel_rfl) ?_
      simp only [List.take_succ_cons, List.take_zero, List.drop_succ_cons, List.drop_zero]
      repeat (go_big_quiet_step ((go_at_call 50; exact Calls.quiet_of_same ((HMod.out _).mono fun e w' h => ⟨h.1, h.2.symm⟩))))
      refine wpQuiet_nil ?_
      rintro _ ⟨nq, rfl⟩
      gi_wp2_with (refine ⟨trivial, ?_⟩; gi_at_call 49; refine (CallsIn.inRound l (callsIn_wide.2 (HA.out _))).mono ?_; rintro e w' ⟨rfl, rfl⟩)
      refine ⟨(keeps_drewN W nq).trans (KeepsOthers.setCell _ _ _), ((KeptOn.refl (fun x => x < E) W).drewN nq).setCell (p := ⟨E, 0, none⟩) (show ¬ E < E by omega) _,
        ⟨(cell_set_same (W := W.drewN nq) hc1).trans ?_, frozen_set (W := W.drewN nq) hc2, cell_set_other (W := W.drewN nq) hc3 (show H + 1 + 1 ≠ E by omega), cell_set_other (W := W.drewN nq) hc4 (show H + 1 ≠ E by omega), cell_set_other (W := W.drewN nq) hc5 (show H ≠ E by omega)⟩, (below_drewN HB1.out nq).setCell (p := ⟨E, 0, none⟩) (show H ≤ E by omega) _⟩
      rw [hsn.out]
      simp
  case done =>
    rintro D ys W hD hys ⟨⟨hc1, hc2, hc3, hc4, hc5⟩, hB⟩ hK
    rw [hys, HY.out] at hc1
    have hys' := Lib.hid hys; clear hys
    have HB1 := Lib.hid hB
    clear hB
    gi_wp2
    refine ⟨by simp, .inl ⟨_, _, rfl, run_takeDeferred hK, ?_⟩⟩
    refine ⟨.tuple #[.int .i64 y0, .int .i64 0], by simp [results, Tryd.f15, go_sem], rfl, by rw [hH'.out]; exact HB1.out.trans (belowK_b (n₀ := H) (w := W0) (by omega) W D _ _ (by omega) hK rfl rfl)⟩
  case stop =>
    rintro D c pre W _ _ h _
    exact h.elim

end Go.Proofs.YtehjdhegnpmfaabDoor
