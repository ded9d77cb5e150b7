/-
  Contracts of the functions of package wheels on chords, and of the product; what each statement asks first.
-/
import Derived.Test.YtlmfmfbnbbooaaaWhEq
namespace Go.Proofs.Ytlmfmfbnbbooaaa
open Go.ChangeShapes Go.WideShapes Go.ChangeAt Go.RowKit
set_option maxRecDepth 100000

theorem Chord_ok (n : Nat) (hc : Circ n) (c : Nat) (hcc : c < 2 ^ n) (w : World) :
    Calls Try.prog 37 #[.int .i64 (n : Int), .int .i64 (c : Int)] w fun e w' => ∃ v', e = .returned (.tuple #[v', .int .i64 0]) ∧ IntsV w' v' (natI (tabN n (chF n c))) ∧ Below w.heap.size w w' := by
  have HFo := Lib.hid (fun W => by have := fieldOf_any (n : Int) W; rwa [(fN_nat hc).1, (fN_nat hc).2.1, (fN_nat hc).2.2] at this)
  have HHas := Lib.hid (show ∀ W v, IntsV W v [(c : Int)] → Calls Try.prog 77 #[fV n (qN n) (wN n), v] W (fun e w' => e = .returned (.bool true) ∧ Below W.heap.size W w') from fun W v h => by have := hasChords_any (n : Int) [(c : Int)] v W (by simp [maxLen]) h; rw [(fN_nat hc).1, (fN_nat hc).2.1, (fN_nat hc).2.2, circB_nat hc, Int.toNat_natCast, chB_nat hcc] at this; exact this)
  have HCh := Lib.hid (fun W => chord_any n hc c hcc W)
  have HLi := Lib.hid (fun f W => list_wh n (by have := hc.2; omega) f W)
  clear hcc hc
  unfold fV at *
  go_enter Try.func37, Try.ntmps37
  go_wp2_with fail
  refine (HFo.out _).mono ?_
  rintro e w1 ⟨rfl, b1⟩
  obtain ⟨G, hG⟩ : ∃ G, w1.heap.size = G := ⟨_, rfl⟩
  have HF1 := Lib.hid (FAt.next b1 (n) (qN n) (wN n) G hG)
  clear b1
  have hs1 : (w1.alloc (.cells #[.int .i64 ((n : Nat) : Int), .int .i64 ((qN n : Nat) : Int), .int .i64 ((wN n : Nat) : Int)] 60)).heap.size = G + 1 := by rw [World.size_alloc, hG]
  have LA := Lib.hid (IntsV.oneW hs1 (c : Int))
  have HF2 := Lib.hid (HF1.out.take (.cells #[.int .i64 (c : Int)] 3))
  clear hs1
  go_wp2_with fail
  refine (HHas.out _ _ LA.out).mono ?_
  rintro e w2 ⟨rfl, b2⟩
  have HF3 := Lib.hid (HF2.out.later b2)
  clear b2 HF1 HF2 LA
  obtain ⟨k0, k1, k2⟩ := HF3.out.cell
  go_wp2_with fail
  refine (HCh.out _).mono ?_
  rintro e w3 ⟨rfl, b3⟩
  have HB3 := Lib.hid (HF3.out.hb.trans (b3.mono HF3.out.hb.size))
  clear b3 k0 k1 k2
  go_wp2_with fail
  refine (HLi.out _ _).mono ?_
  rintro e w9 ⟨v', rfl, i5, b5⟩
  have HI5 := Lib.hid i5
  have HB5 := Lib.hid (HB3.out.trans (b5.mono HB3.out.size))
  clear i5 b5
  go_wp2
  go_ret2
  exact ⟨v', rfl, HI5.out, HB5.out⟩

theorem Chord_bad (n c : Int) (hb : (circB n && chordsB n.toNat [c]) = false) (w : World) :
    Calls Try.prog 37 #[.int .i64 n, .int .i64 c] w fun e w' => e = .returned (.tuple #[.slice none 0 0, .int .i64 2]) ∧ Below w.heap.size w w' := by
  have HFo := Lib.hid (fun W => fieldOf_any n W)
  have HHas := Lib.hid (show ∀ W v, IntsV W v [c] → Calls Try.prog 77 #[fV (fN n) (fQ n) (fW n), v] W (fun e w' => e = .returned (.bool false) ∧ Below W.heap.size W w') from fun W v h => by have := hasChords_any n [c] v W (by simp [maxLen]) h; rw [hb] at this; exact this)
  clear hb
  unfold fV at *
  go_enter Try.func37, Try.ntmps37
  go_wp2_with fail
  refine (HFo.out _).mono ?_
  rintro e w1 ⟨rfl, b1⟩
  obtain ⟨G, hG⟩ : ∃ G, w1.heap.size = G := ⟨_, rfl⟩
  have HF1 := Lib.hid (FAt.next b1 (fN n) (fQ n) (fW n) G hG)
  clear b1
  have hs1 : (w1.alloc (.cells #[.int .i64 ((fN n : Nat) : Int), .int .i64 ((fQ n : Nat) : Int), .int .i64 ((fW n : Nat) : Int)] 60)).heap.size = G + 1 := by rw [World.size_alloc, hG]
  have LA := Lib.hid (IntsV.oneW hs1 c)
  have HF2 := Lib.hid (HF1.out.take (.cells #[.int .i64 c] 3))
  clear hs1
  go_wp2_with fail
  refine (HHas.out _ _ LA.out).mono ?_
  rintro e w2 ⟨rfl, b2⟩
  have HF3 := Lib.hid (HF2.out.later b2)
  clear b2 HF1 HF2 LA
  go_wp2
  go_ret2
  exact ⟨rfl, HF3.out.hb⟩

set_option maxHeartbeats 1000000 in
theorem Alike_ok (n : Nat) (hc : Circ n) (a b : Nat) (ha : a < 2 ^ n) (hb : b < 2 ^ n) (w : World) :
    Calls Try.prog 28 #[.int .i64 (n : Int), .int .i64 (a : Int), .int .i64 (b : Int)] w fun e w' => e = .returned (.tuple #[.bool ((List.range 16).all fun x => poF n (chF n a) x == poF n (chF n b) x), .int .i64 0]) ∧ Below w.heap.size w w' := by
  have hmx : Try.prog.follows .mixedOrders = true := by kernel_rfl
  have HFo := Lib.hid (fun W => by have := fieldOf_any (n : Int) W; rwa [(fN_nat hc).1, (fN_nat hc).2.1, (fN_nat hc).2.2] at this)
  have HHas := Lib.hid (show ∀ W v, IntsV W v [(a : Int), (b : Int)] → Calls Try.prog 77 #[fV n (qN n) (wN n), v] W (fun e w' => e = .returned (.bool true) ∧ Below W.heap.size W w') from fun W v h => by have := hasChords_any (n : Int) [(a : Int), (b : Int)] v W (by simp [maxLen]) h; rw [(fN_nat hc).1, (fN_nat hc).2.1, (fN_nat hc).2.2, circB_nat hc, Int.toNat_natCast, chB_nat2 ha hb] at this; exact this)
  have HCa := Lib.hid (fun W => chord_any n hc a ha W)
  have HCb := Lib.hid (fun W => chord_any n hc b hb W)
  have HPa := Lib.hid (fun W => power_any n hc (chF n a) (ch_wh hc a) W)
  have HPb := Lib.hid (fun W => power_any n hc (chF n b) (ch_wh hc b) W)
  generalize hB : ((List.range 16).all fun x => poF n (chF n a) x == poF n (chF n b) x) = bb at *
  have HBB := Lib.hid hB
  clear hc ha hb hB
  generalize poF n (chF n a) = pa at *
  generalize poF n (chF n b) = pb at *
  generalize chF n a = fa at *
  generalize chF n b = fb at *
  unfold fV at *
  go_enter Try.func28, Try.ntmps28
  go_wp2_with fail
  refine (HFo.out _).mono ?_
  rintro e w1 ⟨rfl, b1⟩
  obtain ⟨G, hG⟩ : ∃ G, w1.heap.size = G := ⟨_, rfl⟩
  have HF1 := Lib.hid (FAt.next b1 (n) (qN n) (wN n) G hG)
  clear b1
  have hs1 : (w1.alloc (.cells #[.int .i64 ((n : Nat) : Int), .int .i64 ((qN n : Nat) : Int), .int .i64 ((wN n : Nat) : Int)] 60)).heap.size = G + 1 := by rw [World.size_alloc, hG]
  have LA := Lib.hid (IntsV.twoW hs1 (a : Int) (b : Int))
  have HF2 := Lib.hid (HF1.out.take (.cells #[.int .i64 (a : Int), .int .i64 (b : Int)] 3))
  clear hs1
  go_wp2_with fail
  refine (HHas.out _ _ LA.out).mono ?_
  rintro e w2 ⟨rfl, b2⟩
  have HF3 := Lib.hid (HF2.out.later b2)
  clear b2 HF1 HF2 LA
  obtain ⟨k0, k1, k2⟩ := HF3.out.cell
  go_upto_region 4 with fail
  refine region_calm_tail 8 hmx (by kernel_rfl) ?_
  simp only [List.take_succ_cons, List.take_zero, List.drop_succ_cons, List.drop_zero]
  intro S hSn fw hS1 hS2
  have l0 := fun z => cell_later (hS1 z) k0
  have l1 := fun z => cell_later (hS1 z) k1
  have l2 := fun z => cell_later (hS1 z) k2
  have hC0 := Lib.hid (calm_call hS1 hS2 (fun z => HCa.out (fw z)))
  have hC1 := Lib.hid (calm_call hS1 hS2 (fun z => HPa.out (fw z)))
  have hC2 := Lib.hid (calm_call hS1 hS2 (fun z => HCb.out (fw z)))
  have hC3 := Lib.hid (calm_call hS1 hS2 (fun z => HPb.out (fw z)))
  go_big_quiet_step (fail)
  go_big_quiet_step (fail)
  go_big_quiet_step (exact hC0.out _)
  go_big_quiet_step (exact hC1.out _)
  go_big_quiet_step (fail)
  go_big_quiet_step (fail)
  go_big_quiet_step (exact hC2.out _)
  go_big_quiet_step (exact hC3.out _)
  refine wpQuiet_nil ?_
  rintro _ ⟨z, rfl⟩
  have HB4 := Lib.hid (HF3.out.hb.trans ((hS1 z).mono HF3.out.hb.size))
  generalize fw z = w4 at *
  clear l0 l1 l2 hC0 hC1 hC2 hC3 hS1 hS2 k0 k1 k2
  try dsimp only [Exit.then]
  refine Great.wpList_readTo rfl (some 25) rfl (.bool bb) (by rw [← HBB.out]; exact exec_eq n pa pb _ 20 24 rfl _ rfl rfl w4) ?_
  go_frame
  go_wp2
  go_ret2
  exact ⟨rfl, HB4.out⟩
end Go.Proofs.Ytlmfmfbnbbooaaa
