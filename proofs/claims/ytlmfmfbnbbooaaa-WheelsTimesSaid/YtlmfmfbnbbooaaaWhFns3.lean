/-
  Contracts of the product of wheels, and of flat chords; refusals.
-/
import Derived.Test.YtlmfmfbnbbooaaaWhFns2
namespace Go.Proofs.Ytlmfmfbnbbooaaa
open Go.ChangeShapes Go.WideShapes Go.ChangeAt Go.RowKit
set_option maxRecDepth 100000

set_option maxHeartbeats 1000000 in
theorem Times_ok (n : Nat) (hc : Circ n) (l m : List Nat) (hw : WhL n l) (hx : WhL n m) (v u : Value) (w : World) (h : IntsV w v (natI l)) (k : IntsV w u (natI m)) :
    Calls Try.prog 16 #[.int .i64 (n : Int), v, u] w fun e w' => ∃ v', e = .returned (.tuple #[v', .int .i64 0]) ∧ IntsV w' v' (natI (tabN n (tiF n (ofL l) (ofL m)))) ∧ Below w.heap.size w w' := by
  have hmx : Try.prog.follows .mixedOrders = true := by kernel_rfl
  have HFo := Lib.hid (fun W => by have := fieldOf_any (n : Int) W; rwa [(fN_nat hc).1, (fN_nat hc).2.1, (fN_nat hc).2.2] at this)
  have HHas := Lib.hid (show ∀ W b, ListsAt W b [v, u] [natI l, natI m] → Calls Try.prog 63 #[fV n (qN n) (wN n), .slice (some ⟨b, 0, none⟩) 2 2] W (fun e w' => e = .returned (.bool true) ∧ Below W.heap.size W w') from fun W b h => by have := hasWheels_any (n : Int) [v, u] [natI l, natI m] b W (by simp) h; rw [(fN_nat hc).1, (fN_nat hc).2.1, (fN_nat hc).2.2, circB_nat hc, Int.toNat_natCast, show ([natI l, natI m].all (wheelB n)) = true by simp [hw.b, hx.b]] at this; exact this)
  have HV := Lib.hid h
  have HVl := Lib.hid (hw.max hc)
  have HU := Lib.hid k
  have HUl := Lib.hid (hx.max hc)
  have HWh := Lib.hid (fun W (h : IntsV W v (natI l)) => wheel_any n hc l hw.len v W h)
  have HWu := Lib.hid (fun W (h : IntsV W u (natI m)) => wheel_any n hc m hx.len u W h)
  have HLi := Lib.hid (fun f W => list_wh n (by have := hc.2; omega) f W)
  have HTi := Lib.hid (fun W => times_any n hc (ofL l) (ofL m) (hw.wh hc) (hx.wh hc) W)
  obtain ⟨ao, cap, rfl, _, _⟩ := h
  obtain ⟨bo, cap2, rfl, _, _⟩ := k
  clear hw hx hc
  generalize tiF n (ofL l) (ofL m) = rf at *
  generalize ofL l = lf at *
  generalize ofL m = mf at *
  unfold fV at *
  generalize natI l = xs at *
  generalize natI m = ys at *
  go_enter Try.func16, Try.ntmps16
  go_wp2_with fail
  refine (HFo.out _).mono ?_
  rintro e w1 ⟨rfl, b1⟩
  obtain ⟨G, hG⟩ : ∃ G, w1.heap.size = G := ⟨_, rfl⟩
  have HF1 := Lib.hid (FAt.next b1 (n) (qN n) (wN n) G hG)
  clear b1
  have hs1 : (w1.alloc (.cells #[.int .i64 ((n : Nat) : Int), .int .i64 ((qN n : Nat) : Int), .int .i64 ((wN n : Nat) : Int)] 60)).heap.size = G + 1 := by rw [World.size_alloc, hG]
  have LA := Lib.hid (ListsAt.two hs1 (HV.out.later HF1.out.hb) HVl.out (HU.out.later HF1.out.hb) HUl.out)
  have HF2 := Lib.hid (HF1.out.take (.cells #[.slice ao xs.length cap, .slice bo ys.length cap2] 22))
  clear hs1
  go_wp2_with fail
  refine (HHas.out _ _ LA.out).mono ?_
  rintro e w2 ⟨rfl, b2⟩
  have HF3 := Lib.hid (HF2.out.later b2)
  clear b2 HF1 HF2 LA
  obtain ⟨k0, k1, k2⟩ := HF3.out.cell
  go_upto_region 4 with fail
  refine region_calm_tail 7 hmx (by kernel_rfl) ?_
  simp only [List.take_succ_cons, List.take_zero, List.drop_succ_cons, List.drop_zero]
  intro S hSn fw hS1 hS2
  have l0 := fun z => cell_later (hS1 z) k0
  have l1 := fun z => cell_later (hS1 z) k1
  have l2 := fun z => cell_later (hS1 z) k2
  have hC0 := Lib.hid (calm_call hS1 hS2 (fun z => HWh.out (fw z) ((HV.out.later HF3.out.hb).later (hS1 z))))
  have hC1 := Lib.hid (calm_call hS1 hS2 (fun z => HWu.out (fw z) ((HU.out.later HF3.out.hb).later (hS1 z))))
  have hC2 := Lib.hid (calm_call hS1 hS2 (fun z => HTi.out (fw z)))
  go_big_quiet_step (fail)
  go_big_quiet_step (fail)
  go_big_quiet_step (exact hC0.out _)
  go_big_quiet_step (fail)
  go_big_quiet_step (fail)
  go_big_quiet_step (exact hC1.out _)
  go_big_quiet_step (exact hC2.out _)
  refine wpQuiet_nil ?_
  rintro _ ⟨z, rfl⟩
  have HB4 := Lib.hid (HF3.out.hb.trans ((hS1 z).mono HF3.out.hb.size))
  generalize fw z = w4 at *
  clear l0 l1 l2 hC0 hC1 hC2 hS1 hS2 k0 k1 k2
  try dsimp only [Exit.then]
  go_wp2_with fail
  refine (HLi.out _ _).mono ?_
  rintro e w9 ⟨v', rfl, i5, b5⟩
  have HI5 := Lib.hid i5
  have HB5 := Lib.hid (HB4.out.trans (b5.mono HB4.out.size))
  clear i5 b5
  go_wp2
  go_ret2
  exact ⟨v', rfl, HI5.out, HB5.out⟩

theorem Times_bad (n : Int) (xs ys : List Int) (v u : Value) (w : World) (hl : xs.length ≤ maxLen) (h : IntsV w v xs) (hm : ys.length ≤ maxLen) (k : IntsV w u ys) (hb : (circB n && [xs, ys].all (wheelB n.toNat)) = false) :
    Calls Try.prog 16 #[.int .i64 n, v, u] w fun e w' => e = .returned (.tuple #[.slice none 0 0, .int .i64 2]) ∧ Below w.heap.size w w' := by
  have HFo := Lib.hid (fun W => fieldOf_any n W)
  have HHas := Lib.hid (show ∀ W b, ListsAt W b [v, u] [xs, ys] → Calls Try.prog 63 #[fV (fN n) (fQ n) (fW n), .slice (some ⟨b, 0, none⟩) 2 2] W (fun e w' => e = .returned (.bool false) ∧ Below W.heap.size W w') from fun W b h => by have := hasWheels_any n [v, u] [xs, ys] b W (by simp) h; rw [hb] at this; exact this)
  have HV := Lib.hid h
  have HVl := Lib.hid hl
  have HU := Lib.hid k
  have HUl := Lib.hid hm
  clear hb
  obtain ⟨ao, cap, rfl, _, _⟩ := h
  obtain ⟨bo, cap2, rfl, _, _⟩ := k
  unfold fV at *
  go_enter Try.func16, Try.ntmps16
  go_wp2_with fail
  refine (HFo.out _).mono ?_
  rintro e w1 ⟨rfl, b1⟩
  obtain ⟨G, hG⟩ : ∃ G, w1.heap.size = G := ⟨_, rfl⟩
  have HF1 := Lib.hid (FAt.next b1 (fN n) (fQ n) (fW n) G hG)
  clear b1
  have hs1 : (w1.alloc (.cells #[.int .i64 ((fN n : Nat) : Int), .int .i64 ((fQ n : Nat) : Int), .int .i64 ((fW n : Nat) : Int)] 60)).heap.size = G + 1 := by rw [World.size_alloc, hG]
  have LA := Lib.hid (ListsAt.two hs1 (HV.out.later HF1.out.hb) HVl.out (HU.out.later HF1.out.hb) HUl.out)
  have HF2 := Lib.hid (HF1.out.take (.cells #[.slice ao xs.length cap, .slice bo ys.length cap2] 22))
  clear hs1
  go_wp2_with fail
  refine (HHas.out _ _ LA.out).mono ?_
  rintro e w2 ⟨rfl, b2⟩
  have HF3 := Lib.hid (HF2.out.later b2)
  clear b2 HF1 HF2 LA
  go_wp2
  go_ret2
  exact ⟨rfl, HF3.out.hb⟩

theorem Alike_bad (n a b : Int) (hb : (circB n && chordsB n.toNat [a, b]) = false) (w : World) :
    Calls Try.prog 28 #[.int .i64 n, .int .i64 a, .int .i64 b] w fun e w' => e = .returned (.tuple #[.bool false, .int .i64 2]) ∧ Below w.heap.size w w' := by
  have HFo := Lib.hid (fun W => fieldOf_any n W)
  have HHas := Lib.hid (show ∀ W v, IntsV W v [a, b] → Calls Try.prog 77 #[fV (fN n) (fQ n) (fW n), v] W (fun e w' => e = .returned (.bool false) ∧ Below W.heap.size W w') from fun W v h => by have := hasChords_any n [a, b] v W (by simp [maxLen]) h; rw [hb] at this; exact this)
  clear hb
  unfold fV at *
  go_enter Try.func28, Try.ntmps28
  go_wp2_with fail
  refine (HFo.out _).mono ?_
  rintro e w1 ⟨rfl, b1⟩
  obtain ⟨G, hG⟩ : ∃ G, w1.heap.size = G := ⟨_, rfl⟩
  have HF1 := Lib.hid (FAt.next b1 (fN n) (fQ n) (fW n) G hG)
  clear b1
  have hs1 : (w1.alloc (.cells #[.int .i64 ((fN n : Nat) : Int), .int .i64 ((fQ n : Nat) : Int), .int .i64 ((fW n : Nat) : Int)] 60)).heap.size = G + 1 := by rw [World.size_alloc, hG]
  have LA := Lib.hid (IntsV.twoW hs1 a b)
  have HF2 := Lib.hid (HF1.out.take (.cells #[.int .i64 a, .int .i64 b] 3))
  clear hs1
  go_wp2_with fail
  refine (HHas.out _ _ LA.out).mono ?_
  rintro e w2 ⟨rfl, b2⟩
  have HF3 := Lib.hid (HF2.out.later b2)
  clear b2 HF1 HF2 LA
  go_wp2
  go_ret2
  exact ⟨rfl, HF3.out.hb⟩

/-- Whether all numbers but the first one are the same. -/
def flatB (n : Nat) (p : Nat → Nat) : Bool := (List.range (n - 1)).all fun i => p (i + 1) == p 1
theorem run_arr_from1 (b n : Nat) (h1 : 1 ≤ n) (hn : n ≤ 16) (W : World) : (Instr.sliceAt 63 (.pointer (some ⟨b, 3, none⟩)) (some (.int .i64 1)) (some (.int .i64 (n : Int))) none).run Try.prog W = .ok (.slice (some ⟨b, 4, none⟩) (n - 1) 15) W := by
  rw [run_sliceAt_array_lh (ht := arr_ht) (h0 := by omega) (h1 := by omega) (h2 := by rw [arr_len]; omega), arr_elem, arr_len]
  rfl

set_option maxHeartbeats 1000000 in
theorem Flat_ok (n : Nat) (hc : Circ n) (c : Nat) (hcc : c < 2 ^ n) (w : World) :
    Calls Try.prog 29 #[.int .i64 (n : Int), .int .i64 (c : Int)] w fun e w' => e = .returned (.tuple #[.bool (flatB n (poF n (chF n c))), .int .i64 0]) ∧ Below w.heap.size w w' := by
  have HFo := Lib.hid (fun W => by have := fieldOf_any (n : Int) W; rwa [(fN_nat hc).1, (fN_nat hc).2.1, (fN_nat hc).2.2] at this)
  have HHas := Lib.hid (show ∀ W v, IntsV W v [(c : Int)] → Calls Try.prog 77 #[fV n (qN n) (wN n), v] W (fun e w' => e = .returned (.bool true) ∧ Below W.heap.size W w') from fun W v h => by have := hasChords_any (n : Int) [(c : Int)] v W (by simp [maxLen]) h; rw [(fN_nat hc).1, (fN_nat hc).2.1, (fN_nat hc).2.2, circB_nat hc, Int.toNat_natCast, chB_nat hcc] at this; exact this)
  have HCh := Lib.hid (fun W => chord_any n hc c hcc W)
  have HLi := Lib.hid (fun f W => list_wh n (by have := hc.2; omega) f W)
  have HPo := Lib.hid (fun W => power_any n hc (chF n c) (ch_wh hc c) W)
  have hn := hc.2
  have hn2 := hc.1
  have HFl := Lib.hid (show flatB n (poF n (chF n c)) = (List.range (n - 1)).all (fun i => poF n (chF n c) (i + 1) == poF n (chF n c) 1) from rfl)
  generalize poF n (chF n c) = pf at *
  clear hcc hc
  unfold fV at *
  go_enter Try.func29, Try.ntmps29
  go_wp2_with fail
  refine (HFo.out _).mono ?_
  rintro e w1 ⟨rfl, b1⟩
  obtain ⟨G, hG⟩ : ∃ G, w1.heap.size = G := ⟨_, rfl⟩
  have HF1 := Lib.hid (FAt.next b1 (n) (qN n) (wN n) G hG)
  clear b1
  have hs1 : (w1.alloc (.cells #[.int .i64 ((n : Nat) : Int), .int .i64 ((qN n : Nat) : Int), .int .i64 ((wN n : Nat) : Int)] 60)).heap.size = G + 1 := by rw [World.size_alloc, hG]
  have LA := Lib.hid (IntsV.oneW hs1 (c : Int))
  have HF2 := Lib.hid (HF1.out.take (.cells #[.int .i64 (c : Int)] 3))
  clear hs1
  go_wp2_with fail
  refine (HHas.out _ _ LA.out).mono ?_
  rintro e w2 ⟨rfl, b2⟩
  have HF3 := Lib.hid (HF2.out.later b2)
  clear b2 HF1 HF2 LA
  obtain ⟨k0, k1, k2⟩ := HF3.out.cell
  go_wp2_with fail
  refine (HCh.out _).mono ?_
  rintro e w3 ⟨rfl, b3⟩
  have HB3 := Lib.hid (HF3.out.hb.trans (b3.mono HF3.out.hb.size))
  clear b3 k0 k1 k2
  go_wp2_with fail
  refine (HPo.out _).mono ?_
  rintro e w4 ⟨rfl, b4⟩
  have HB4 := Lib.hid (HB3.out.trans (b4.mono HB3.out.size))
  clear b4
  dsimp only
  rename_i hK
  refine hK _ _ ?_
  clear hK
  obtain ⟨H, hH⟩ : ∃ H, w4.heap.size = H := ⟨_, rfl⟩
  refine wpList_keepW n pf 20 7 rfl rfl rfl rfl rfl rfl (fun _ => rfl) (fun _ => rfl) H hH ?_
  intro W5 hs5 hr5 hb5
  go_frame
  have HW5 := Lib.hid (⟨HB4.out.trans (hb5.mono (by have := HB4.out.size; omega)), hr5⟩ : WAt w H n pf W5)
  clear hs5 hr5 hb5 hH
  have hsl := run_arr_from1 H n (by omega) (by omega)
  generalize Value.agg (whC n (chF n c)).toArray = v1
  generalize Value.agg (whC n pf).toArray = v2
  unfold whV
  generalize (whC n pf).toArray = v4
  generalize (whC n (chF n c)).toArray = v3
  go_wp2_with fail
  go_loopw [25] (fun i wr => ∃ k : Nat, k ≤ n - 1 ∧ i = .int .i64 (k : Int) ∧ (∀ j, j < k → pf (j + 1) = pf 1) ∧ WAt w H n pf wr) (fun i _ => n - 1 - (intOf i).toNat)
  case atStart => exact ⟨0, by omega, rfl, by intros; omega, HW5.out⟩
  case round =>
    obtain ⟨k, hk, rfl, ha, hT⟩ := hrel
    have HT := Lib.hid hT
    have HA := Lib.hid ha
    clear hT ha
    by_cases hlt : k < n - 1
    · have e1 := HT.out.at (show k + 1 < 16 by omega)
      have e2 := HT.out.at (show 1 < 16 by omega)
      rw [show 3 + (k + 1) = 4 + k by omega] at e1
      by_cases heq : pf (k + 1) = pf 1
      · have HA2 := Lib.hid (show ∀ j, j < k + 1 → pf (j + 1) = pf 1 from fun j hj => by
          by_cases e : j = k
          · rw [e]; exact heq
          · exact HA.out j (by omega))
        rw [heq] at e1
        have hbq : (((pf 1 : Nat) : Int) == ((pf 1 : Nat) : Int)) = true := beq_self_eq_true _
        clear heq
        generalize pf 1 = y at *
        go_wp2
        go_roundw
        case rel => exact ⟨k + 1, by omega, by go_num, HA2.out, HT.out⟩
        case measure => simp only [intOf]; omega
      · have HV := Lib.hid (show flatB n pf = false by
          rw [HFl.out, List.all_eq_false]
          exact ⟨k, List.mem_range.2 hlt, by simp [heq]⟩)
        have hbq : (((pf (k + 1) : Nat) : Int) == ((pf 1 : Nat) : Int)) = false := by rw [beq_eq_false_iff_ne]; omega
        generalize pf (k + 1) = y at *
        generalize pf 1 = x at *
        go_wp2
        go_ret2
        exact ⟨by rw [HV.out]; rfl, HT.out.hb⟩
    · obtain rfl : k = n - 1 := by omega
      have HV := Lib.hid (show flatB n pf = true by
        rw [HFl.out, List.all_eq_true]
        intro j hj
        rw [HA.out j (List.mem_range.1 hj)]; exact beq_self_eq_true _)
      have hcast : (((n - 1 : Nat) : Nat) : Int) = ((n - 1 : Nat) : Int) := rfl
      go_wp2
      go_ret2
      exact ⟨by rw [HV.out]; rfl, HT.out.hb⟩

theorem Flat_bad (n c : Int) (hb : (circB n && chordsB n.toNat [c]) = false) (w : World) :
    Calls Try.prog 29 #[.int .i64 n, .int .i64 c] w fun e w' => e = .returned (.tuple #[.bool false, .int .i64 2]) ∧ Below w.heap.size w w' := by
  have HFo := Lib.hid (fun W => fieldOf_any n W)
  have HHas := Lib.hid (show ∀ W v, IntsV W v [c] → Calls Try.prog 77 #[fV (fN n) (fQ n) (fW n), v] W (fun e w' => e = .returned (.bool false) ∧ Below W.heap.size W w') from fun W v h => by have := hasChords_any n [c] v W (by simp [maxLen]) h; rw [hb] at this; exact this)
  clear hb
  unfold fV at *
  go_enter Try.func29, Try.ntmps29
  go_wp2_with fail
  refine (HFo.out _).mono ?_
  rintro e w1 ⟨rfl, b1⟩
  obtain ⟨G, hG⟩ : ∃ G, w1.heap.size = G := ⟨_, rfl⟩
  have HF1 := Lib.hid (FAt.next b1 (fN n) (fQ n) (fW n) G hG)
  clear b1
  have hs1 : (w1.alloc (.cells #[.int .i64 ((fN n : Nat) : Int), .int .i64 ((fQ n : Nat) : Int), .int .i64 ((fW n : Nat) : Int)] 60)).heap.size = G + 1 := by rw [World.size_alloc, hG]
  have LA := Lib.hid (IntsV.oneW hs1 c)
  have HF2 := Lib.hid (HF1.out.take (.cells #[.int .i64 c] 3))
  clear hs1
  go_wp2_with fail
  refine (HHas.out _ _ LA.out).mono ?_
  rintro e w2 ⟨rfl, b2⟩
  have HF3 := Lib.hid (HF2.out.later b2)
  clear b2 HF1 HF2 LA
  go_wp2
  go_ret2
  exact ⟨rfl, HF3.out.hb⟩
end Go.Proofs.Ytlmfmfbnbbooaaa
