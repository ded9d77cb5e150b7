/-
  Dividing wheels.
-/
import Derived.Test.YtlmfmfbnbbooaaaWhFns3
import Derived.Deep.RegionHeld3
namespace Go.Proofs.Ytlmfmfbnbbooaaa
open Go.ChangeShapes Go.WideShapes Go.ChangeAt Go.RowKit
set_option linter.unusedVariables false
set_option maxRecDepth 100000

section
variable {P : Program} {ops : Array Oper} {md : Region.Mode} {Q : Exit → Act → World → Prop} {S : World → Prop}
theorem step_heldW {i : Nat} {oi : Oper} {fuel : Nat} {listed : Array Bool} {a : Act} {w : World} (hi : ops[i]? = some oi) (hr : Region.ready md ops listed = [i]) (hw : Region.wanted oi (yielded ops a.tmps) = true)
    (h : ∀ K' : Act → World → Prop, Shut (∀ a' w', S w' → (S w' → wpAnyH P md ops Q S fuel (listed.setIfInBounds i true) a' w') → K' a' w') → oi.wp P a w K' Q) : wpAnyH P md ops Q S (fuel + 1) listed a w :=
  wpAnyH_all hr (by simp) (fun j hj => by
    rw [List.mem_singleton] at hj
    subst hj
    unfold wpOp
    rw [hi]
    simp only [hw, if_true]
    exact .inl (h _ (fun a' w' h1 h2 => ⟨h1, h2 h1⟩)))
theorem two_heldW {i j : Nat} {oi oj : Oper} {fuel : Nat} {listed : Array Bool} {a : Act} {w : World} (hi : ops[i]? = some oi) (hj : ops[j]? = some oj) (hr : Region.ready md ops listed = [i, j]) (hwi : Region.wanted oi (yielded ops a.tmps) = true) (hwj : Region.wanted oj (yielded ops a.tmps) = true)
    (h1 : ∀ K' : Act → World → Prop, Shut (∀ a' w', S w' → (S w' → wpAnyH P md ops Q S fuel (listed.setIfInBounds i true) a' w') → K' a' w') → oi.wp P a w K' Q)
    (h2 : ∀ K' : Act → World → Prop, Shut (∀ a' w', S w' → (S w' → wpAnyH P md ops Q S fuel (listed.setIfInBounds j true) a' w') → K' a' w') → oj.wp P a w K' Q) : wpAnyH P md ops Q S (fuel + 1) listed a w :=
  wpAnyH_all hr (by simp) (fun k hk => by
    have hk : k = i ∨ k = j := by simpa using hk
    rcases hk with rfl | rfl
    · unfold wpOp
      rw [hi]
      simp only [hwi, if_true]
      exact .inl (h1 _ (fun a' w' h1 h2 => ⟨h1, h2 h1⟩))
    · unfold wpOp
      rw [hj]
      simp only [hwj, if_true]
      exact .inl (h2 _ (fun a' w' h1 h2 => ⟨h1, h2 h1⟩)))
end
theorem wp_alloc_wheel {o : Oper} {a : Act} {w : World} {K : Act → World → Prop} {Q : Exit → Act → World → Prop} (h : o.op = .alloc 65)
    (hK : K (a.put o.dst (.pointer (some ⟨w.heap.size, 0, none⟩))) (w.alloc (.cells zeroC 65))) : o.wp Try.prog a w K Q := by
  unfold Oper.wp
  have e : (execOp a.eval o).run Try.prog w = .ok (.value (.pointer (some ⟨w.heap.size, 0, none⟩))) (w.alloc (.cells zeroC 65)) := by
    simp only [execOp, h, Sem.run_bind, run_alloc_wheel, Result.andThen_ok]
    rfl
  rw [e]
  exact hK
theorem wp_store_wheel {o : Oper} {a : Act} {w : World} {K : Act → World → Prop} {Q : Exit → Act → World → Prop} (n : Nat) (f : Nat → Nat) (x y : Operand) (h : o.op = .store 65 x y)
    (g : Nat) (hx : a.eval x = .pointer (some ⟨g, 0, none⟩)) (hy : a.eval y = whV n f) (hg : w.heap[g]? = some (.cells zeroC 65 (0, 0)))
    (hK : ∀ W2, Row W2 g 65 (whC n f) → Below g w W2 → K (a.put o.dst undef) W2) : o.wp Try.prog a w K Q :=
  wp_store_row 65 x y h g (whC n f).toArray hx hy 65 zeroC hg (info_whC n f) (by rw [whC_size]; rfl) (whC_one n f)
    (hK _ (setRow_heap _ _ _ _ _ _ hg) (below_setRow (Below.refl _ _) (Nat.le_refl _) _))
theorem heap_laterV {W W' : World} {g : Nat} {o : Obj} (h : W.heap[g]? = some o) (hb : Below W.heap.size W W') : W'.heap[g]? = some o :=
  (hb.block g (Array.getElem?_eq_some_iff.1 h).1).trans h
theorem run_load_fieldO {W : World} {b n q r : Nat} (h0 : W.cell? ⟨b, 0, none⟩ = some (.int .i64 (n : Int))) (h1 : W.cell? ⟨b, 1, none⟩ = some (.int .i64 (q : Int))) (h2 : W.cell? ⟨b, 2, none⟩ = some (.int .i64 (r : Int))) (o : Oper) (x : Tmp) (ho : o.op = .load 60 (.tmp x)) (a : Act) (hx : a.eval (.tmp x) = .pointer (some ⟨b, 0, none⟩)) :
    (execOp a.eval o).run Try.prog W = .ok (.value (fV n q r)) W := by
  simp only [execOp, ho, hx, Sem.run_bind, run_load_head h0 h1 h2, Result.andThen_ok]
  rfl

theorem Divide_bad (n : Int) (xs ys : List Int) (v u : Value) (w : World) (hl : xs.length ≤ maxLen) (h : IntsV w v xs) (hm : ys.length ≤ maxLen) (k : IntsV w u ys) (hb : (circB n && [xs, ys].all (wheelB n.toNat)) = false) :
    Calls Try.prog 18 #[.int .i64 n, v, u] w fun e w' => e = .returned (.tuple #[.slice none 0 0, .int .i64 2]) ∧ Below w.heap.size w w' := by
  have HFo := Lib.hid (fun W => fieldOf_any n W)
  have HHas := Lib.hid (show ∀ W b, ListsAt W b [v, u] [xs, ys] → Calls Try.prog 63 #[fV (fN n) (fQ n) (fW n), .slice (some ⟨b, 0, none⟩) 2 2] W (fun e w' => e = .returned (.bool false) ∧ Below W.heap.size W w') from fun W b h => by have := hasWheels_any n [v, u] [xs, ys] b W (by simp) h; rw [hb] at this; exact this)
  have HV := Lib.hid h
  have HVl := Lib.hid hl
  have HU := Lib.hid k
  have HUl := Lib.hid hm
  clear hb
  obtain ⟨ao, cap, rfl, _, _⟩ := h
  obtain ⟨bo, cap2, rfl, _, _⟩ := k
  unfold fV at *
  go_enter Try.func18, Try.ntmps18
  go_wp2_with fail
  refine (HFo.out _).mono ?_
  rintro e w1 ⟨rfl, b1⟩
  obtain ⟨G, hG⟩ : ∃ G, w1.heap.size = G := ⟨_, rfl⟩
  have HF1 := Lib.hid (FAt.next b1 (fN n) (fQ n) (fW n) G hG)
  clear b1
  have hs1 : (w1.alloc (.cells #[.int .i64 ((fN n : Nat) : Int), .int .i64 ((fQ n : Nat) : Int), .int .i64 ((fW n : Nat) : Int)] 60)).heap.size = G + 1 := by rw [World.size_alloc, hG]
  have LA := Lib.hid (ListsAt.two hs1 (HV.out.later HF1.out.hb) HVl.out (HU.out.later HF1.out.hb) HUl.out)
  have HF2 := Lib.hid (HF1.out.take (.cells #[.slice ao xs.length cap, .slice bo ys.length cap2] 22))
  clear hs1
  go_wp2_with fail
  refine (HHas.out _ _ LA.out).mono ?_
  rintro e w2 ⟨rfl, b2⟩
  have HF3 := Lib.hid (HF2.out.later b2)
  clear b2 HF1 HF2 LA
  go_wp2
  go_ret2
  exact ⟨rfl, HF3.out.hb⟩

set_option maxHeartbeats 2000000 in
theorem Divide_state (n : Nat) (hc : Circ n) (l m : List Nat) (hw : WhL n l) (hx : WhL n m) (hz : zeN (spF n (ofL m)) n ≠ 0) (v u : Value) (w : World) (h : IntsV w v (natI l)) (k : IntsV w u (natI m)) :
    Calls Try.prog 18 #[.int .i64 (n : Int), v, u] w fun e w' => e = .returned (.tuple #[.slice none 0 0, .int .i64 5]) ∧ Below w.heap.size w w' := by
  have hmx : Try.prog.follows .mixedOrders = true := by kernel_rfl
  have HFo := Lib.hid (fun W => by have := fieldOf_any (n : Int) W; rwa [(fN_nat hc).1, (fN_nat hc).2.1, (fN_nat hc).2.2] at this)
  have HHas := Lib.hid (show ∀ W b, ListsAt W b [v, u] [natI l, natI m] → Calls Try.prog 63 #[fV n (qN n) (wN n), .slice (some ⟨b, 0, none⟩) 2 2] W (fun e w' => e = .returned (.bool true) ∧ Below W.heap.size W w') from fun W b h => by have := hasWheels_any (n : Int) [v, u] [natI l, natI m] b W (by simp) h; rw [(fN_nat hc).1, (fN_nat hc).2.1, (fN_nat hc).2.2, circB_nat hc, Int.toNat_natCast, show ([natI l, natI m].all (wheelB n)) = true by simp [hw.b, hx.b]] at this; exact this)
  have HV := Lib.hid h
  have HVl := Lib.hid (hw.max hc)
  have HU := Lib.hid k
  have HUl := Lib.hid (hx.max hc)
  have HWh := Lib.hid (fun W (h : IntsV W v (natI l)) => wheel_any n hc l hw.len v W h)
  have HWu := Lib.hid (fun W (h : IntsV W u (natI m)) => wheel_any n hc m hx.len u W h)
  have HLi := Lib.hid (fun f W => list_wh n (by have := hc.2; omega) f W)
  have HSl := Lib.hid (fun W => spectrum_any n hc (ofL l) (hw.wh hc) W)
  have HSm := Lib.hid (fun W => spectrum_any n hc (ofL m) (hx.wh hc) W)
  have HZe := Lib.hid (fun W => zeros_any n hc (spF n (ofL m)) W)
  have HIn := Lib.hid (fun W => inverses_any n hc (spF n (ofL m)) (sp_wh hc (ofL m)) W)
  have HPi := Lib.hid (fun W => pointwise_any n hc (spF n (ofL l)) (ivF n (spF n (ofL m))) (sp_wh hc (ofL l)) (iv_wh hc (spF n (ofL m))) W)
  have HBa := Lib.hid (fun W => back_any n hc (piF n (spF n (ofL l)) (ivF n (spF n (ofL m)))) (pi_wh hc (spF n (ofL l)) (iv_wh hc (spF n (ofL m)))) W)
  have hzl := zeN_lt (spF n (ofL m)) n
  have hn17 := hc.2
  have hpn : 2 ^ n ≤ 2 ^ 16 := Nat.pow_le_pow_right (by omega) (by omega)
  obtain ⟨ao, cap, rfl, _, _⟩ := h
  obtain ⟨bo, cap2, rfl, _, _⟩ := k
  clear hw hx hc
  generalize baF n (piF n (spF n (ofL l)) (ivF n (spF n (ofL m)))) = rf at *
  generalize piF n (spF n (ofL l)) (ivF n (spF n (ofL m))) = pf at *
  generalize ivF n (spF n (ofL m)) = iv at *
  generalize hZ : zeN (spF n (ofL m)) n = Z at *
  generalize spF n (ofL m) = sm at *
  generalize spF n (ofL l) = sl at *
  generalize ofL l = lf at *
  generalize ofL m = mf at *
  unfold fV at *
  generalize natI l = xs at *
  generalize natI m = ys at *
  go_enter Try.func18, Try.ntmps18
  go_wp2_with fail
  refine (HFo.out _).mono ?_
  rintro e w1 ⟨rfl, b1⟩
  obtain ⟨G, hG⟩ : ∃ G, w1.heap.size = G := ⟨_, rfl⟩
  have HF1 := Lib.hid (FAt.next b1 (n) (qN n) (wN n) G hG)
  clear b1
  have hs1 : (w1.alloc (.cells #[.int .i64 ((n : Nat) : Int), .int .i64 ((qN n : Nat) : Int), .int .i64 ((wN n : Nat) : Int)] 60)).heap.size = G + 1 := by rw [World.size_alloc, hG]
  have LA := Lib.hid (ListsAt.two hs1 (HV.out.later HF1.out.hb) HVl.out (HU.out.later HF1.out.hb) HUl.out)
  have HF2 := Lib.hid (HF1.out.take (.cells #[.slice ao xs.length cap, .slice bo ys.length cap2] 22))
  clear hs1
  go_wp2_with fail
  refine (HHas.out _ _ LA.out).mono ?_
  rintro e w2 ⟨rfl, b2⟩
  have HF3 := Lib.hid (HF2.out.later b2)
  clear b2 HF1 HF2 LA
  obtain ⟨k0, k1, k2⟩ := HF3.out.cell
  go_wp2_with fail
  refine (HWu.out _ (HU.out.later HF3.out.hb)).mono ?_
  rintro e w3 ⟨rfl, b3⟩
  have HF4 := Lib.hid (HF3.out.later b3)
  clear b3 k0 k1 k2 HF3
  go_wp2_with fail
  refine (HSm.out _).mono ?_
  rintro e w4 ⟨rfl, b4⟩
  have HF5 := Lib.hid (HF4.out.later b4)
  clear b4 HF4
  dsimp only
  rename_i hK
  refine hK _ _ ?_
  clear hK
  obtain ⟨H, hH⟩ : ∃ H, w4.heap.size = H := ⟨_, rfl⟩
  refine wpList_keepW n sm 22 9 rfl rfl rfl rfl rfl rfl (fun _ => rfl) (fun _ => rfl) H hH ?_
  intro W5 hs5 hr5 hb5
  go_frame
  have HF6 := Lib.hid (HF5.out.later (show Below w4.heap.size w4 W5 by rw [hH]; exact hb5))
  have HR5 := Lib.hid hr5
  clear hs5 hr5 hb5 hH HF5
  go_upto_region 5 with fail
  go_step
  refine wpList_load_row rfl 65 (.tmp 9) rfl H rfl 65 (whC n sm).toArray (0, 0) _ HR5.out Try.underlying65 rfl (info_whC n sm) ?_
  go_frame
  go_wp2_with fail
  refine (HZe.out _).mono ?_
  rintro e w6 ⟨rfl, b6⟩
  have HF7 := Lib.hid (HF6.out.later b6)
  have HR6 := Lib.hid (HR5.out.later b6)
  clear b6 HF6 HR5
  have q1 : ((Z : Int) == 0) = false := by rw [beq_eq_false_iff_ne]; omega
  go_wp2
  go_ret2
  exact ⟨rfl, HF7.out.hb⟩

set_option maxHeartbeats 4000000 in
theorem Divide_ok (n : Nat) (hc : Circ n) (l m : List Nat) (hw : WhL n l) (hx : WhL n m) (hz : zeN (spF n (ofL m)) n = 0) (v u : Value) (w : World) (h : IntsV w v (natI l)) (k : IntsV w u (natI m)) :
    Calls Try.prog 18 #[.int .i64 (n : Int), v, u] w fun e w' => ∃ v', e = .returned (.tuple #[v', .int .i64 0]) ∧ IntsV w' v' (natI (tabN n (baF n (piF n (spF n (ofL l)) (ivF n (spF n (ofL m))))))) ∧ Below w.heap.size w w' := by
  have hmx : Try.prog.follows .mixedOrders = true := by kernel_rfl
  have HFo := Lib.hid (fun W => by have := fieldOf_any (n : Int) W; rwa [(fN_nat hc).1, (fN_nat hc).2.1, (fN_nat hc).2.2] at this)
  have HHas := Lib.hid (show ∀ W b, ListsAt W b [v, u] [natI l, natI m] → Calls Try.prog 63 #[fV n (qN n) (wN n), .slice (some ⟨b, 0, none⟩) 2 2] W (fun e w' => e = .returned (.bool true) ∧ Below W.heap.size W w') from fun W b h => by have := hasWheels_any (n : Int) [v, u] [natI l, natI m] b W (by simp) h; rw [(fN_nat hc).1, (fN_nat hc).2.1, (fN_nat hc).2.2, circB_nat hc, Int.toNat_natCast, show ([natI l, natI m].all (wheelB n)) = true by simp [hw.b, hx.b]] at this; exact this)
  have HV := Lib.hid h
  have HVl := Lib.hid (hw.max hc)
  have HU := Lib.hid k
  have HUl := Lib.hid (hx.max hc)
  have HWh := Lib.hid (fun W (h : IntsV W v (natI l)) => wheel_any n hc l hw.len v W h)
  have HWu := Lib.hid (fun W (h : IntsV W u (natI m)) => wheel_any n hc m hx.len u W h)
  have HLi := Lib.hid (fun f W => list_wh n (by have := hc.2; omega) f W)
  have HSl := Lib.hid (fun W => spectrum_any n hc (ofL l) (hw.wh hc) W)
  have HSm := Lib.hid (fun W => spectrum_any n hc (ofL m) (hx.wh hc) W)
  have HZe := Lib.hid (fun W => zeros_any n hc (spF n (ofL m)) W)
  have HIn := Lib.hid (fun W => inverses_any n hc (spF n (ofL m)) (sp_wh hc (ofL m)) W)
  have HPi := Lib.hid (fun W => pointwise_any n hc (spF n (ofL l)) (ivF n (spF n (ofL m))) (sp_wh hc (ofL l)) (iv_wh hc (spF n (ofL m))) W)
  have HBa := Lib.hid (fun W => back_any n hc (piF n (spF n (ofL l)) (ivF n (spF n (ofL m)))) (pi_wh hc (spF n (ofL l)) (iv_wh hc (spF n (ofL m)))) W)
  have hzl := zeN_lt (spF n (ofL m)) n
  have hn17 := hc.2
  have hpn : 2 ^ n ≤ 2 ^ 16 := Nat.pow_le_pow_right (by omega) (by omega)
  obtain ⟨ao, cap, rfl, _, _⟩ := h
  obtain ⟨bo, cap2, rfl, _, _⟩ := k
  clear hw hx hc
  generalize baF n (piF n (spF n (ofL l)) (ivF n (spF n (ofL m)))) = rf at *
  generalize piF n (spF n (ofL l)) (ivF n (spF n (ofL m))) = pf at *
  generalize ivF n (spF n (ofL m)) = iv at *
  generalize hZ : zeN (spF n (ofL m)) n = Z at *
  generalize spF n (ofL m) = sm at *
  generalize spF n (ofL l) = sl at *
  generalize ofL l = lf at *
  generalize ofL m = mf at *
  unfold fV at *
  generalize natI l = xs at *
  generalize natI m = ys at *
  go_enter Try.func18, Try.ntmps18
  go_wp2_with fail
  refine (HFo.out _).mono ?_
  rintro e w1 ⟨rfl, b1⟩
  obtain ⟨G, hG⟩ : ∃ G, w1.heap.size = G := ⟨_, rfl⟩
  have HF1 := Lib.hid (FAt.next b1 (n) (qN n) (wN n) G hG)
  clear b1
  have hs1 : (w1.alloc (.cells #[.int .i64 ((n : Nat) : Int), .int .i64 ((qN n : Nat) : Int), .int .i64 ((wN n : Nat) : Int)] 60)).heap.size = G + 1 := by rw [World.size_alloc, hG]
  have LA := Lib.hid (ListsAt.two hs1 (HV.out.later HF1.out.hb) HVl.out (HU.out.later HF1.out.hb) HUl.out)
  have HF2 := Lib.hid (HF1.out.take (.cells #[.slice ao xs.length cap, .slice bo ys.length cap2] 22))
  clear hs1
  go_wp2_with fail
  refine (HHas.out _ _ LA.out).mono ?_
  rintro e w2 ⟨rfl, b2⟩
  have HF3 := Lib.hid (HF2.out.later b2)
  clear b2 HF1 HF2 LA
  obtain ⟨k0, k1, k2⟩ := HF3.out.cell
  go_wp2_with fail
  refine (HWu.out _ (HU.out.later HF3.out.hb)).mono ?_
  rintro e w3 ⟨rfl, b3⟩
  have HF4 := Lib.hid (HF3.out.later b3)
  clear b3 k0 k1 k2 HF3
  go_wp2_with fail
  refine (HSm.out _).mono ?_
  rintro e w4 ⟨rfl, b4⟩
  have HF5 := Lib.hid (HF4.out.later b4)
  clear b4 HF4
  dsimp only
  rename_i hK
  refine hK _ _ ?_
  clear hK
  obtain ⟨H, hH⟩ : ∃ H, w4.heap.size = H := ⟨_, rfl⟩
  refine wpList_keepW n sm 22 9 rfl rfl rfl rfl rfl rfl (fun _ => rfl) (fun _ => rfl) H hH ?_
  intro W5 hs5 hr5 hb5
  go_frame
  have HF6 := Lib.hid (HF5.out.later (show Below w4.heap.size w4 W5 by rw [hH]; exact hb5))
  have HR5 := Lib.hid hr5
  clear hs5 hr5 hb5 hH HF5
  go_upto_region 5 with fail
  go_step
  refine wpList_load_row rfl 65 (.tmp 9) rfl H rfl 65 (whC n sm).toArray (0, 0) _ HR5.out Try.underlying65 rfl (info_whC n sm) ?_
  go_frame
  go_wp2_with fail
  refine (HZe.out _).mono ?_
  rintro e w6 ⟨rfl, b6⟩
  have HF7 := Lib.hid (HF6.out.later b6)
  have HR6 := Lib.hid (HR5.out.later b6)
  clear b6 HF6 HR5
  have q1 : ((Z : Int) == 0) = true := by rw [hz]; rfl
  go_upto_region 7 with fail
  have HFb := Lib.hid HF7.out.hb
  obtain ⟨k0, k1, k2⟩ := HF7.out.cell
  have HVb := Lib.hid (HV.out.later HF7.out.hb)
  have B0 := Lib.hid (Below.refl w6.heap.size w6).drew
  refine wp_region_held_drew (S := fun W => Below w6.heap.size w6 W) hmx B0.out (fun hS => ?_)
  refine wpAnyH_take (i := 0) (v := fV n (qN n) (wN n)) rfl (by kernel_rfl) (by kernel_rfl) (by kernel_rfl) (fun _ _ _ h => h) (.inl ⟨by rfl, fun W hW => run_load_fieldO (cell_later hW k0) (cell_later hW k1) (cell_later hW k2) _ 8 rfl _ rfl⟩) hS ?_
  simp only [Act.put, List.setIfInBounds_toArray, List.set_cons_zero, List.set_cons_succ]
  refine wpAnyH_take (i := 1) (v := .slice ao xs.length cap) rfl (by kernel_rfl) (by kernel_rfl) (by kernel_rfl) (fun _ _ _ h => h) (.inl ⟨by rfl, fun W hW => by go_simp⟩) hS ?_
  simp only [Act.put, List.setIfInBounds_toArray, List.set_cons_zero, List.set_cons_succ]
  refine wpAnyH_take (i := 4) (v := whV n sm) rfl (by kernel_rfl) (by kernel_rfl) (by kernel_rfl) (fun _ _ _ h => h) (.inl ⟨by rfl, fun W hW => run_load_wheel (HR6.out.later hW) _ 9 rfl _ rfl⟩) hS ?_
  simp only [Act.put, List.setIfInBounds_toArray, List.set_cons_zero, List.set_cons_succ]
  refine two_heldW (i := 2) (j := 7) rfl rfl (by kernel_rfl) (by rfl) (by rfl) (fun K' hK => ?_) (fun K' hK => ?_)
  · go_simp
    refine (HWh.out _ (HVb.out.later B0.out)).mono ?_
    rintro e u1 ⟨rfl, b1⟩
    have B1 := Lib.hid (B0.out.trans (b1.mono B0.out.size))
    refine hK.out _ _ B1.out (fun hS => ?_)
    clear hK K' b1
    try simp only [Act.put, List.setIfInBounds_toArray, List.set_cons_zero, List.set_cons_succ]
    refine two_heldW (i := 3) (j := 7) rfl rfl (by kernel_rfl) (by rfl) (by rfl) (fun K' hK => ?_) (fun K' hK => ?_)
    · go_simp
      refine (HSl.out _).mono ?_
      rintro e u2 ⟨rfl, b2⟩
      have B2 := Lib.hid (B1.out.trans (b2.mono B1.out.size))
      refine hK.out _ _ B2.out (fun hS => ?_)
      clear hK K' b2
      try simp only [Act.put, List.setIfInBounds_toArray, List.set_cons_zero, List.set_cons_succ]
      refine two_heldW (i := 5) (j := 7) rfl rfl (by kernel_rfl) (by rfl) (by rfl) (fun K' hK => ?_) (fun K' hK => ?_)
      · go_simp
        refine (HIn.out _).mono ?_
        rintro e u3 ⟨rfl, b3⟩
        have B3 := Lib.hid (B2.out.trans (b3.mono B2.out.size))
        refine hK.out _ _ B3.out (fun hS => ?_)
        clear hK K' b3
        try simp only [Act.put, List.setIfInBounds_toArray, List.set_cons_zero, List.set_cons_succ]
        refine two_heldW (i := 6) (j := 7) rfl rfl (by kernel_rfl) (by rfl) (by rfl) (fun K' hK => ?_) (fun K' hK => ?_)
        · go_simp
          refine (HPi.out _).mono ?_
          rintro e u4 ⟨rfl, b4⟩
          have B4 := Lib.hid (B3.out.trans (b4.mono B3.out.size))
          refine hK.out _ _ B4.out (fun hS => ?_)
          clear hK K' b4
          try simp only [Act.put, List.setIfInBounds_toArray, List.set_cons_zero, List.set_cons_succ]
          refine step_heldW (i := 7) rfl (by kernel_rfl) (by rfl) (fun K' hK => ?_)
          refine wp_alloc_wheel rfl ?_
          have R5 := Lib.hid (World.alloc_heap_new u4 (.cells zeroC 65))
          have B5 := Lib.hid (B4.out.alloc B4.out.size (.cells zeroC 65))
          have hg : w6.heap.size ≤ u4.heap.size := B4.out.size
          generalize hgg : u4.heap.size = g at *
          generalize hWW : u4.alloc (.cells zeroC 65) = u5 at *
          clear hWW hgg
          refine hK.out _ _ B5.out (fun hS => ?_)
          clear hK K'
          try simp only [Act.put, List.setIfInBounds_toArray, List.set_cons_zero, List.set_cons_succ]
          refine step_heldW (i := 8) rfl (by kernel_rfl) (by rfl) (fun K' hK => ?_)
          refine wp_store_wheel n pf (.tmp 10) (.tmp 32) rfl g rfl rfl R5.out ?_
          intro u6 r6 b6
          have B6 := Lib.hid (B5.out.trans (b6.mono hg))
          have Q6 := Lib.hid r6
          clear r6 b6
          refine hK.out _ _ B6.out (fun hS => ?_)
          clear hK K'
          try simp only [Act.put, List.setIfInBounds_toArray, List.set_cons_zero, List.set_cons_succ]
          refine wpAnyH_done (by kernel_rfl) ?_ _
          try dsimp only [Exit.then]
          go_upto_region 8 with fail
          go_step
          refine wpList_load_row rfl 65 (.tmp 10) rfl g rfl 65 (whC n pf).toArray (0, 0) _ Q6.out Try.underlying65 rfl (info_whC n pf) ?_
          go_frame
          go_wp2_with fail
          refine (HBa.out _).mono ?_
          rintro e x1 ⟨rfl, c1⟩
          have C1 := Lib.hid (B6.out.trans (c1.mono B6.out.size))
          clear c1
          go_wp2_with fail
          refine (HLi.out _ _).mono ?_
          rintro e x2 ⟨v', rfl, i2, c2⟩
          have I2 := Lib.hid i2
          have C2 := Lib.hid (C1.out.trans (c2.mono C1.out.size))
          clear i2 c2
          go_wp2
          go_ret2
          exact ⟨v', rfl, I2.out, HFb.out.trans (C2.out.mono HFb.out.size)⟩
        · refine wp_alloc_wheel rfl ?_
          have R7 := Lib.hid (World.alloc_heap_new u3 (.cells zeroC 65))
          have B7 := Lib.hid (B3.out.alloc B3.out.size (.cells zeroC 65))
          have hg : w6.heap.size ≤ u3.heap.size := B3.out.size
          generalize hgg : u3.heap.size = g at *
          generalize hWW : u3.alloc (.cells zeroC 65) = u7 at *
          clear hWW hgg
          refine hK.out _ _ B7.out (fun hS => ?_)
          clear hK K'
          try simp only [Act.put, List.setIfInBounds_toArray, List.set_cons_zero, List.set_cons_succ]
          refine step_heldW (i := 6) rfl (by kernel_rfl) (by rfl) (fun K' hK => ?_)
          go_simp
          refine (HPi.out _).mono ?_
          rintro e u8 ⟨rfl, b8⟩
          have B8 := Lib.hid (B7.out.trans (b8.mono B7.out.size))
          have R8 := Lib.hid (heap_laterV R7.out b8)
          refine hK.out _ _ B8.out (fun hS => ?_)
          clear hK K' b8
          try simp only [Act.put, List.setIfInBounds_toArray, List.set_cons_zero, List.set_cons_succ]
          refine step_heldW (i := 8) rfl (by kernel_rfl) (by rfl) (fun K' hK => ?_)
          refine wp_store_wheel n pf (.tmp 10) (.tmp 32) rfl g rfl rfl R8.out ?_
          intro u9 r9 b9
          have B9 := Lib.hid (B8.out.trans (b9.mono hg))
          have Q9 := Lib.hid r9
          clear r9 b9
          refine hK.out _ _ B9.out (fun hS => ?_)
          clear hK K'
          try simp only [Act.put, List.setIfInBounds_toArray, List.set_cons_zero, List.set_cons_succ]
          refine wpAnyH_done (by kernel_rfl) ?_ _
          try dsimp only [Exit.then]
          go_upto_region 8 with fail
          go_step
          refine wpList_load_row rfl 65 (.tmp 10) rfl g rfl 65 (whC n pf).toArray (0, 0) _ Q9.out Try.underlying65 rfl (info_whC n pf) ?_
          go_frame
          go_wp2_with fail
          refine (HBa.out _).mono ?_
          rintro e x1 ⟨rfl, c1⟩
          have C1 := Lib.hid (B9.out.trans (c1.mono B9.out.size))
          clear c1
          go_wp2_with fail
          refine (HLi.out _ _).mono ?_
          rintro e x2 ⟨v', rfl, i2, c2⟩
          have I2 := Lib.hid i2
          have C2 := Lib.hid (C1.out.trans (c2.mono C1.out.size))
          clear i2 c2
          go_wp2
          go_ret2
          exact ⟨v', rfl, I2.out, HFb.out.trans (C2.out.mono HFb.out.size)⟩
      · refine wp_alloc_wheel rfl ?_
        have R10 := Lib.hid (World.alloc_heap_new u2 (.cells zeroC 65))
        have B10 := Lib.hid (B2.out.alloc B2.out.size (.cells zeroC 65))
        have hg : w6.heap.size ≤ u2.heap.size := B2.out.size
        generalize hgg : u2.heap.size = g at *
        generalize hWW : u2.alloc (.cells zeroC 65) = u10 at *
        clear hWW hgg
        refine hK.out _ _ B10.out (fun hS => ?_)
        clear hK K'
        try simp only [Act.put, List.setIfInBounds_toArray, List.set_cons_zero, List.set_cons_succ]
        refine step_heldW (i := 5) rfl (by kernel_rfl) (by rfl) (fun K' hK => ?_)
        go_simp
        refine (HIn.out _).mono ?_
        rintro e u11 ⟨rfl, b11⟩
        have B11 := Lib.hid (B10.out.trans (b11.mono B10.out.size))
        have R11 := Lib.hid (heap_laterV R10.out b11)
        refine hK.out _ _ B11.out (fun hS => ?_)
        clear hK K' b11
        try simp only [Act.put, List.setIfInBounds_toArray, List.set_cons_zero, List.set_cons_succ]
        refine step_heldW (i := 6) rfl (by kernel_rfl) (by rfl) (fun K' hK => ?_)
        go_simp
        refine (HPi.out _).mono ?_
        rintro e u12 ⟨rfl, b12⟩
        have B12 := Lib.hid (B11.out.trans (b12.mono B11.out.size))
        have R12 := Lib.hid (heap_laterV R11.out b12)
        refine hK.out _ _ B12.out (fun hS => ?_)
        clear hK K' b12
        try simp only [Act.put, List.setIfInBounds_toArray, List.set_cons_zero, List.set_cons_succ]
        refine step_heldW (i := 8) rfl (by kernel_rfl) (by rfl) (fun K' hK => ?_)
        refine wp_store_wheel n pf (.tmp 10) (.tmp 32) rfl g rfl rfl R12.out ?_
        intro u13 r13 b13
        have B13 := Lib.hid (B12.out.trans (b13.mono hg))
        have Q13 := Lib.hid r13
        clear r13 b13
        refine hK.out _ _ B13.out (fun hS => ?_)
        clear hK K'
        try simp only [Act.put, List.setIfInBounds_toArray, List.set_cons_zero, List.set_cons_succ]
        refine wpAnyH_done (by kernel_rfl) ?_ _
        try dsimp only [Exit.then]
        go_upto_region 8 with fail
        go_step
        refine wpList_load_row rfl 65 (.tmp 10) rfl g rfl 65 (whC n pf).toArray (0, 0) _ Q13.out Try.underlying65 rfl (info_whC n pf) ?_
        go_frame
        go_wp2_with fail
        refine (HBa.out _).mono ?_
        rintro e x1 ⟨rfl, c1⟩
        have C1 := Lib.hid (B13.out.trans (c1.mono B13.out.size))
        clear c1
        go_wp2_with fail
        refine (HLi.out _ _).mono ?_
        rintro e x2 ⟨v', rfl, i2, c2⟩
        have I2 := Lib.hid i2
        have C2 := Lib.hid (C1.out.trans (c2.mono C1.out.size))
        clear i2 c2
        go_wp2
        go_ret2
        exact ⟨v', rfl, I2.out, HFb.out.trans (C2.out.mono HFb.out.size)⟩
    · refine wp_alloc_wheel rfl ?_
      have R14 := Lib.hid (World.alloc_heap_new u1 (.cells zeroC 65))
      have B14 := Lib.hid (B1.out.alloc B1.out.size (.cells zeroC 65))
      have hg : w6.heap.size ≤ u1.heap.size := B1.out.size
      generalize hgg : u1.heap.size = g at *
      generalize hWW : u1.alloc (.cells zeroC 65) = u14 at *
      clear hWW hgg
      refine hK.out _ _ B14.out (fun hS => ?_)
      clear hK K'
      try simp only [Act.put, List.setIfInBounds_toArray, List.set_cons_zero, List.set_cons_succ]
      refine step_heldW (i := 3) rfl (by kernel_rfl) (by rfl) (fun K' hK => ?_)
      go_simp
      refine (HSl.out _).mono ?_
      rintro e u15 ⟨rfl, b15⟩
      have B15 := Lib.hid (B14.out.trans (b15.mono B14.out.size))
      have R15 := Lib.hid (heap_laterV R14.out b15)
      refine hK.out _ _ B15.out (fun hS => ?_)
      clear hK K' b15
      try simp only [Act.put, List.setIfInBounds_toArray, List.set_cons_zero, List.set_cons_succ]
      refine step_heldW (i := 5) rfl (by kernel_rfl) (by rfl) (fun K' hK => ?_)
      go_simp
      refine (HIn.out _).mono ?_
      rintro e u16 ⟨rfl, b16⟩
      have B16 := Lib.hid (B15.out.trans (b16.mono B15.out.size))
      have R16 := Lib.hid (heap_laterV R15.out b16)
      refine hK.out _ _ B16.out (fun hS => ?_)
      clear hK K' b16
      try simp only [Act.put, List.setIfInBounds_toArray, List.set_cons_zero, List.set_cons_succ]
      refine step_heldW (i := 6) rfl (by kernel_rfl) (by rfl) (fun K' hK => ?_)
      go_simp
      refine (HPi.out _).mono ?_
      rintro e u17 ⟨rfl, b17⟩
      have B17 := Lib.hid (B16.out.trans (b17.mono B16.out.size))
      have R17 := Lib.hid (heap_laterV R16.out b17)
      refine hK.out _ _ B17.out (fun hS => ?_)
      clear hK K' b17
      try simp only [Act.put, List.setIfInBounds_toArray, List.set_cons_zero, List.set_cons_succ]
      refine step_heldW (i := 8) rfl (by kernel_rfl) (by rfl) (fun K' hK => ?_)
      refine wp_store_wheel n pf (.tmp 10) (.tmp 32) rfl g rfl rfl R17.out ?_
      intro u18 r18 b18
      have B18 := Lib.hid (B17.out.trans (b18.mono hg))
      have Q18 := Lib.hid r18
      clear r18 b18
      refine hK.out _ _ B18.out (fun hS => ?_)
      clear hK K'
      try simp only [Act.put, List.setIfInBounds_toArray, List.set_cons_zero, List.set_cons_succ]
      refine wpAnyH_done (by kernel_rfl) ?_ _
      try dsimp only [Exit.then]
      go_upto_region 8 with fail
      go_step
      refine wpList_load_row rfl 65 (.tmp 10) rfl g rfl 65 (whC n pf).toArray (0, 0) _ Q18.out Try.underlying65 rfl (info_whC n pf) ?_
      go_frame
      go_wp2_with fail
      refine (HBa.out _).mono ?_
      rintro e x1 ⟨rfl, c1⟩
      have C1 := Lib.hid (B18.out.trans (c1.mono B18.out.size))
      clear c1
      go_wp2_with fail
      refine (HLi.out _ _).mono ?_
      rintro e x2 ⟨v', rfl, i2, c2⟩
      have I2 := Lib.hid i2
      have C2 := Lib.hid (C1.out.trans (c2.mono C1.out.size))
      clear i2 c2
      go_wp2
      go_ret2
      exact ⟨v', rfl, I2.out, HFb.out.trans (C2.out.mono HFb.out.size)⟩
  · refine wp_alloc_wheel rfl ?_
    have R19 := Lib.hid (World.alloc_heap_new w6.drew (.cells zeroC 65))
    have B19 := Lib.hid (B0.out.alloc B0.out.size (.cells zeroC 65))
    have hg : w6.heap.size ≤ w6.drew.heap.size := B0.out.size
    generalize hgg : w6.drew.heap.size = g at *
    generalize hWW : w6.drew.alloc (.cells zeroC 65) = u19 at *
    clear hWW hgg
    refine hK.out _ _ B19.out (fun hS => ?_)
    clear hK K'
    try simp only [Act.put, List.setIfInBounds_toArray, List.set_cons_zero, List.set_cons_succ]
    refine step_heldW (i := 2) rfl (by kernel_rfl) (by rfl) (fun K' hK => ?_)
    go_simp
    refine (HWh.out _ (HVb.out.later B19.out)).mono ?_
    rintro e u20 ⟨rfl, b20⟩
    have B20 := Lib.hid (B19.out.trans (b20.mono B19.out.size))
    have R20 := Lib.hid (heap_laterV R19.out b20)
    refine hK.out _ _ B20.out (fun hS => ?_)
    clear hK K' b20
    try simp only [Act.put, List.setIfInBounds_toArray, List.set_cons_zero, List.set_cons_succ]
    refine step_heldW (i := 3) rfl (by kernel_rfl) (by rfl) (fun K' hK => ?_)
    go_simp
    refine (HSl.out _).mono ?_
    rintro e u21 ⟨rfl, b21⟩
    have B21 := Lib.hid (B20.out.trans (b21.mono B20.out.size))
    have R21 := Lib.hid (heap_laterV R20.out b21)
    refine hK.out _ _ B21.out (fun hS => ?_)
    clear hK K' b21
    try simp only [Act.put, List.setIfInBounds_toArray, List.set_cons_zero, List.set_cons_succ]
    refine step_heldW (i := 5) rfl (by kernel_rfl) (by rfl) (fun K' hK => ?_)
    go_simp
    refine (HIn.out _).mono ?_
    rintro e u22 ⟨rfl, b22⟩
    have B22 := Lib.hid (B21.out.trans (b22.mono B21.out.size))
    have R22 := Lib.hid (heap_laterV R21.out b22)
    refine hK.out _ _ B22.out (fun hS => ?_)
    clear hK K' b22
    try simp only [Act.put, List.setIfInBounds_toArray, List.set_cons_zero, List.set_cons_succ]
    refine step_heldW (i := 6) rfl (by kernel_rfl) (by rfl) (fun K' hK => ?_)
    go_simp
    refine (HPi.out _).mono ?_
    rintro e u23 ⟨rfl, b23⟩
    have B23 := Lib.hid (B22.out.trans (b23.mono B22.out.size))
    have R23 := Lib.hid (heap_laterV R22.out b23)
    refine hK.out _ _ B23.out (fun hS => ?_)
    clear hK K' b23
    try simp only [Act.put, List.setIfInBounds_toArray, List.set_cons_zero, List.set_cons_succ]
    refine step_heldW (i := 8) rfl (by kernel_rfl) (by rfl) (fun K' hK => ?_)
    refine wp_store_wheel n pf (.tmp 10) (.tmp 32) rfl g rfl rfl R23.out ?_
    intro u24 r24 b24
    have B24 := Lib.hid (B23.out.trans (b24.mono hg))
    have Q24 := Lib.hid r24
    clear r24 b24
    refine hK.out _ _ B24.out (fun hS => ?_)
    clear hK K'
    try simp only [Act.put, List.setIfInBounds_toArray, List.set_cons_zero, List.set_cons_succ]
    refine wpAnyH_done (by kernel_rfl) ?_ _
    try dsimp only [Exit.then]
    go_upto_region 8 with fail
    go_step
    refine wpList_load_row rfl 65 (.tmp 10) rfl g rfl 65 (whC n pf).toArray (0, 0) _ Q24.out Try.underlying65 rfl (info_whC n pf) ?_
    go_frame
    go_wp2_with fail
    refine (HBa.out _).mono ?_
    rintro e x1 ⟨rfl, c1⟩
    have C1 := Lib.hid (B24.out.trans (c1.mono B24.out.size))
    clear c1
    go_wp2_with fail
    refine (HLi.out _ _).mono ?_
    rintro e x2 ⟨v', rfl, i2, c2⟩
    have I2 := Lib.hid i2
    have C2 := Lib.hid (C1.out.trans (c2.mono C1.out.size))
    clear i2 c2
    go_wp2
    go_ret2
    exact ⟨v', rfl, I2.out, HFb.out.trans (C2.out.mono HFb.out.size)⟩
end Go.Proofs.Ytlmfmfbnbbooaaa
