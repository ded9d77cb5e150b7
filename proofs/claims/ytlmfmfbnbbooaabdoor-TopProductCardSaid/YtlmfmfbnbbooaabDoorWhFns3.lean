/-
  Contracts of the product of wheels, and of flat chords; refusals.
-/
import Derived.Test.YtlmfmfbnbbooaabDoorWhFns2
namespace Go.Proofs.YtlmfmfbnbbooaabDoor
open Go.ChangeShapes Go.WideShapes Go.ChangeAt Go.RowKit
set_option maxRecDepth 100000

set_option maxHeartbeats 1000000 in
theorem Times_ok (n : Nat) (hc : Circ n) (l m : List Nat) (hw : WhL n l) (hx : WhL n m) (v u : Value) (w : World) (h : IntsV w v (natI l)) (k : IntsV w u (natI m)) :
    Calls Tryd.prog 9 #[.int .i64 (n : Int), v, u] w fun e w' => ∃ v', e = .returned (.tuple #[v', .int .i64 0]) ∧ IntsV w' v' (natI (tabN n (tiF n (ofL l) (ofL m)))) ∧ Below w.heap.size w w' := by
  have hmx : Tryd.prog.follows .mixedOrders = true := by kernel_rfl
  have HFo := Lib.hid (fun W => by have := fieldOf_any (n : Int) W; rwa [(fN_nat hc).1, (fN_nat hc).2.1, (fN_nat hc).2.2] at this)
  have HHas := Lib.hid (show ∀ W b, ListsAt W b [v, u] [natI l, natI m] → Calls Tryd.prog 30 #[fV n (qN n) (wN n), .slice (some ⟨b, 0, none⟩) 2 2] W (fun e w' => e = .returned (.bool true) ∧ Below W.heap.size W w') from fun W b h => by have := hasWheels_any (n : Int) [v, u] [natI l, natI m] b W (by simp) h; rw [(fN_nat hc).1, (fN_nat hc).2.1, (fN_nat hc).2.2, circB_nat hc, Int.toNat_natCast, show ([natI l, natI m].all (wheelB n)) = true by simp [hw.b, hx.b]] at this; exact this)
  have HV := Lib.hid h
  have HVl := Lib.hid (hw.max hc)
  have HU := Lib.hid k
  have HUl := Lib.hid (hx.max hc)
  have HWh := Lib.hid (fun W (h : IntsV W v (natI l)) => wheel_any n hc l hw.len v W h)
  have HWu := Lib.hid (fun W (h : IntsV W u (natI m)) => wheel_any n hc m hx.len u W h)
  have HLi := Lib.hid (fun f W => list_wh n (by have := hc.2; omega) f W)
  have HTi := Lib.hid (fun W => times_any n hc (ofL l) (ofL m) (hw.wh hc) (hx.wh hc) W)
  obtain ⟨ao, cap, rfl, _, _⟩ := h
  obtain ⟨bo, cap2, rfl, _, _⟩ := k
  clear hw hx hc
  generalize tiF n (ofL l) (ofL m) = rf at *
  generalize ofL l = lf at *
  generalize ofL m = mf at *
  unfold fV at *
  generalize natI l = xs at *
  generalize natI m = ys at *
  go_enter Tryd.func9, Tryd.ntmps9
  go_wp2_with fail
  refine (HFo.out _).mono ?_
  rintro e w1 ⟨rfl, b1⟩
  obtain ⟨G, hG⟩ : ∃ G, w1.heap.size = G := ⟨_, rfl⟩
  have HF1 := Lib.hid (FAt.next b1 (n) (qN n) (wN n) G hG)
  clear b1
  have hs1 : (w1.alloc (.cells #[.int .i64 ((n : Nat) : Int), .int .i64 ((qN n : Nat) : Int), .int .i64 ((wN n : Nat) : Int)] 41)).heap.size = G + 1 := by rw [World.size_alloc, hG]
  have LA := Lib.hid (ListsAt.two hs1 (HV.out.later HF1.out.hb) HVl.out (HU.out.later HF1.out.hb) HUl.out)
  have HF2 := Lib.hid (HF1.out.take (.cells #[.slice ao xs.length cap, .slice bo ys.length cap2] 24))
  clear hs1
  go_wp2_with fail
  refine (HHas.out _ _ LA.out).mono ?_
  rintro e w2 ⟨rfl, b2⟩
  have HF3 := Lib.hid (HF2.out.later b2)
  clear b2 HF1 HF2 LA
  obtain ⟨k0, k1, k2⟩ := HF3.out.cell
  go_upto_region 4 with fail
  refine region_calm_tail 7 hmx (by kernel_rfl) ?_
  simp only [List.take_succ_cons, List.take_zero, List.drop_succ_cons, List.drop_zero]
  intro S hSn fw hS1 hS2
  have l0 := fun z => cell_later (hS1 z) k0
  have l1 := fun z => cell_later (hS1 z) k1
  have l2 := fun z => cell_later (hS1 z) k2
  have hC0 := Lib.hid (calm_call hS1 hS2 (fun z => HWh.out (fw z) ((HV.out.later HF3.out.hb).later (hS1 z))))
  have hC1 := Lib.hid (calm_call hS1 hS2 (fun z => HWu.out (fw z) ((HU.out.later HF3.out.hb).later (hS1 z))))
  have hC2 := Lib.hid (calm_call hS1 hS2 (fun z => HTi.out (fw z)))
  go_big_quiet_step (fail)
  go_big_quiet_step (fail)
  go_big_quiet_step (exact hC0.out _)
  go_big_quiet_step (fail)
  go_big_quiet_step (fail)
  go_big_quiet_step (exact hC1.out _)
  go_big_quiet_step (exact hC2.out _)
  refine wpQuiet_nil ?_
  rintro _ ⟨z, rfl⟩
  have HB4 := Lib.hid (HF3.out.hb.trans ((hS1 z).mono HF3.out.hb.size))
  generalize fw z = w4 at *
  clear l0 l1 l2 hC0 hC1 hC2 hS1 hS2 k0 k1 k2
  try dsimp only [Exit.then]
  go_wp2_with fail
  refine (HLi.out _ _).mono ?_
  rintro e w9 ⟨v', rfl, i5, b5⟩
  have HI5 := Lib.hid i5
  have HB5 := Lib.hid (HB4.out.trans (b5.mono HB4.out.size))
  clear i5 b5
  go_wp2
  go_ret2
  exact ⟨v', rfl, HI5.out, HB5.out⟩

theorem Times_bad (n : Int) (xs ys : List Int) (v u : Value) (w : World) (hl : xs.length ≤ maxLen) (h : IntsV w v xs) (hm : ys.length ≤ maxLen) (k : IntsV w u ys) (hb : (circB n && [xs, ys].all (wheelB n.toNat)) = false) :
    Calls Tryd.prog 9 #[.int .i64 n, v, u] w fun e w' => e = .returned (.tuple #[.slice none 0 0, .int .i64 2]) ∧ Below w.heap.size w w' := by
  have HFo := Lib.hid (fun W => fieldOf_any n W)
  have HHas := Lib.hid (show ∀ W b, ListsAt W b [v, u] [xs, ys] → Calls Tryd.prog 30 #[fV (fN n) (fQ n) (fW n), .slice (some ⟨b, 0, none⟩) 2 2] W (fun e w' => e = .returned (.bool false) ∧ Below W.heap.size W w') from fun W b h => by have := hasWheels_any n [v, u] [xs, ys] b W (by simp) h; rw [hb] at this; exact this)
  have HV := Lib.hid h
  have HVl := Lib.hid hl
  have HU := Lib.hid k
  have HUl := Lib.hid hm
  clear hb
  obtain ⟨ao, cap, rfl, _, _⟩ := h
  obtain ⟨bo, cap2, rfl, _, _⟩ := k
  unfold fV at *
  go_enter Tryd.func9, Tryd.ntmps9
  go_wp2_with fail
  refine (HFo.out _).mono ?_
  rintro e w1 ⟨rfl, b1⟩
  obtain ⟨G, hG⟩ : ∃ G, w1.heap.size = G := ⟨_, rfl⟩
  have HF1 := Lib.hid (FAt.next b1 (fN n) (fQ n) (fW n) G hG)
  clear b1
  have hs1 : (w1.alloc (.cells #[.int .i64 ((fN n : Nat) : Int), .int .i64 ((fQ n : Nat) : Int), .int .i64 ((fW n : Nat) : Int)] 41)).heap.size = G + 1 := by rw [World.size_alloc, hG]
  have LA := Lib.hid (ListsAt.two hs1 (HV.out.later HF1.out.hb) HVl.out (HU.out.later HF1.out.hb) HUl.out)
  have HF2 := Lib.hid (HF1.out.take (.cells #[.slice ao xs.length cap, .slice bo ys.length cap2] 24))
  clear hs1
  go_wp2_with fail
  refine (HHas.out _ _ LA.out).mono ?_
  rintro e w2 ⟨rfl, b2⟩
  have HF3 := Lib.hid (HF2.out.later b2)
  clear b2 HF1 HF2 LA
  go_wp2
  go_ret2
  exact ⟨rfl, HF3.out.hb⟩

theorem Alike_bad (n a b : Int) (hb : (circB n && chordsB n.toNat [a, b]) = false) (w : World) :
    Calls Tryd.prog 23 #[.int .i64 n, .int .i64 a, .int .i64 b] w fun e w' => e = .returned (.tuple #[.bool false, .int .i64 2]) ∧ Below w.heap.size w w' := by
  have HFo := Lib.hid (fun W => fieldOf_any n W)
  have HHas := Lib.hid (show ∀ W v, IntsV W v [a, b] → Calls Tryd.prog 27 #[fV (fN n) (fQ n) (fW n), v] W (fun e w' => e = .returned (.bool false) ∧ Below W.heap.size W w') from fun W v h => by have := hasChords_any n [a, b] v W (by simp [maxLen]) h; rw [hb] at this; exact this)
  clear hb
  unfold fV at *
  go_enter Tryd.func23, Tryd.ntmps23
  go_wp2_with fail
  refine (HFo.out _).mono ?_
  rintro e w1 ⟨rfl, b1⟩
  obtain ⟨G, hG⟩ : ∃ G, w1.heap.size = G := ⟨_, rfl⟩
  have HF1 := Lib.hid (FAt.next b1 (fN n) (fQ n) (fW n) G hG)
  clear b1
  have hs1 : (w1.alloc (.cells #[.int .i64 ((fN n : Nat) : Int), .int .i64 ((fQ n : Nat) : Int), .int .i64 ((fW n : Nat) : Int)] 41)).heap.size = G + 1 := by rw [World.size_alloc, hG]
  have LA := Lib.hid (IntsV.twoW hs1 a b)
  have HF2 := Lib.hid (HF1.out.take (.cells #[.int .i64 a, .int .i64 b] 3))
  clear hs1
  go_wp2_with fail
  refine (HHas.out _ _ LA.out).mono ?_
  rintro e w2 ⟨rfl, b2⟩
  have HF3 := Lib.hid (HF2.out.later b2)
  clear b2 HF1 HF2 LA
  go_wp2
  go_ret2
  exact ⟨rfl, HF3.out.hb⟩

/-- Whether all numbers but the first one are the same. -/
def flatB (n : Nat) (p : Nat → Nat) : Bool := (List.range (n - 1)).all fun i => p (i + 1) == p 1
theorem run_arr_from1 (b n : Nat) (h1 : 1 ≤ n) (hn : n ≤ 16) (W : World) : (Instr.sliceAt 44 (.pointer (some ⟨b, 3, none⟩)) (some (.int .i64 1)) (some (.int .i64 (n : Int))) none).run Tryd.prog W = .ok (.slice (some ⟨b, 4, none⟩) (n - 1) 15) W := by
  rw [run_sliceAt_array_lh (ht := arr_ht) (h0 := by omega) (h1 := by omega) (h2 := by rw [arr_len]; omega), arr_elem, arr_len]
  rfl

end Go.Proofs.YtlmfmfbnbbooaabDoor
