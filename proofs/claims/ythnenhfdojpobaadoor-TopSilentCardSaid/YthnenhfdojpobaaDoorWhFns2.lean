/-
  Contracts of the functions of package wheels on chords, and of the product; what each statement asks first.
-/
import Derived.Test.YthnenhfdojpobaaDoorWhEq
namespace Go.Proofs.YthnenhfdojpobaaDoor
open Go.ChangeShapes Go.WideShapes Go.ChangeAt Go.RowKit
set_option maxRecDepth 100000

theorem Silent_ok (n : Nat) (hc : Circ n) (c : Nat) (hcc : c < 2 ^ n) (w : World) :
    Calls Tryd.prog 7 #[.int .i64 (n : Int), .int .i64 (c : Int)] w fun e w' => e = .returned (.tuple #[.int .i64 ((zeN (spF n (chF n c)) n : Nat) : Int), .int .i64 0]) ∧ Below w.heap.size w w' := by
  have HFo := Lib.hid (fun W => by have := fieldOf_any (n : Int) W; rwa [(fN_nat hc).1, (fN_nat hc).2.1, (fN_nat hc).2.2] at this)
  have HHas := Lib.hid (show ∀ W v, IntsV W v [(c : Int)] → Calls Tryd.prog 15 #[fV n (qN n) (wN n), v] W (fun e w' => e = .returned (.bool true) ∧ Below W.heap.size W w') from fun W v h => by have := hasChords_any (n : Int) [(c : Int)] v W (by simp [maxLen]) h; rw [(fN_nat hc).1, (fN_nat hc).2.1, (fN_nat hc).2.2, circB_nat hc, Int.toNat_natCast, chB_nat hcc] at this; exact this)
  have HCh := Lib.hid (fun W => chord_any n hc c hcc W)
  have HLi := Lib.hid (fun f W => list_wh n (by have := hc.2; omega) f W)
  have HSp := Lib.hid (fun W => spectrum_any n hc (chF n c) (ch_wh hc c) W)
  have HZe := Lib.hid (fun W => zeros_any n hc (spF n (chF n c)) W)
  clear hcc hc
  unfold fV at *
  go_enter Tryd.func7, Tryd.ntmps7
  go_wp2_with fail
  refine (HFo.out _).mono ?_
  rintro e w1 ⟨rfl, b1⟩
  obtain ⟨G, hG⟩ : ∃ G, w1.heap.size = G := ⟨_, rfl⟩
  have HF1 := Lib.hid (FAt.next b1 (n) (qN n) (wN n) G hG)
  clear b1
  have hs1 : (w1.alloc (.cells #[.int .i64 ((n : Nat) : Int), .int .i64 ((qN n : Nat) : Int), .int .i64 ((wN n : Nat) : Int)] 38)).heap.size = G + 1 := by rw [World.size_alloc, hG]
  have LA := Lib.hid (IntsV.oneW hs1 (c : Int))
  have HF2 := Lib.hid (HF1.out.take (.cells #[.int .i64 (c : Int)] 3))
  clear hs1
  go_wp2_with fail
  refine (HHas.out _ _ LA.out).mono ?_
  rintro e w2 ⟨rfl, b2⟩
  have HF3 := Lib.hid (HF2.out.later b2)
  clear b2 HF1 HF2 LA
  obtain ⟨k0, k1, k2⟩ := HF3.out.cell
  go_wp2_with fail
  refine (HCh.out _).mono ?_
  rintro e w3 ⟨rfl, b3⟩
  have HB3 := Lib.hid (HF3.out.hb.trans (b3.mono HF3.out.hb.size))
  clear b3 k0 k1 k2
  go_wp2_with fail
  refine (HSp.out _).mono ?_
  rintro e w4 ⟨rfl, b4⟩
  have HB4 := Lib.hid (HB3.out.trans (b4.mono HB3.out.size))
  clear b4
  go_wp2_with fail
  refine (HZe.out _).mono ?_
  rintro e w5 ⟨rfl, b5⟩
  have HB5 := Lib.hid (HB4.out.trans (b5.mono HB4.out.size))
  clear b5
  go_wp2
  go_ret2
  exact ⟨rfl, HB5.out⟩

theorem Silent_bad (n c : Int) (hb : (circB n && chordsB n.toNat [c]) = false) (w : World) :
    Calls Tryd.prog 7 #[.int .i64 n, .int .i64 c] w fun e w' => e = .returned (.tuple #[.int .i64 0, .int .i64 2]) ∧ Below w.heap.size w w' := by
  have HFo := Lib.hid (fun W => fieldOf_any n W)
  have HHas := Lib.hid (show ∀ W v, IntsV W v [c] → Calls Tryd.prog 15 #[fV (fN n) (fQ n) (fW n), v] W (fun e w' => e = .returned (.bool false) ∧ Below W.heap.size W w') from fun W v h => by have := hasChords_any n [c] v W (by simp [maxLen]) h; rw [hb] at this; exact this)
  clear hb
  unfold fV at *
  go_enter Tryd.func7, Tryd.ntmps7
  go_wp2_with fail
  refine (HFo.out _).mono ?_
  rintro e w1 ⟨rfl, b1⟩
  obtain ⟨G, hG⟩ : ∃ G, w1.heap.size = G := ⟨_, rfl⟩
  have HF1 := Lib.hid (FAt.next b1 (fN n) (fQ n) (fW n) G hG)
  clear b1
  have hs1 : (w1.alloc (.cells #[.int .i64 ((fN n : Nat) : Int), .int .i64 ((fQ n : Nat) : Int), .int .i64 ((fW n : Nat) : Int)] 38)).heap.size = G + 1 := by rw [World.size_alloc, hG]
  have LA := Lib.hid (IntsV.oneW hs1 c)
  have HF2 := Lib.hid (HF1.out.take (.cells #[.int .i64 c] 3))
  clear hs1
  go_wp2_with fail
  refine (HHas.out _ _ LA.out).mono ?_
  rintro e w2 ⟨rfl, b2⟩
  have HF3 := Lib.hid (HF2.out.later b2)
  clear b2 HF1 HF2 LA
  go_wp2
  go_ret2
  exact ⟨rfl, HF3.out.hb⟩

end Go.Proofs.YthnenhfdojpobaaDoor
