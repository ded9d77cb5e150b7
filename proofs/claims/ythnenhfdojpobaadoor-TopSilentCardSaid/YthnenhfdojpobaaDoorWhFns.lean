/-
  Contracts of the functions of package wheels.
-/
import Derived.Test.YthnenhfdojpobaaDoorWhHas
namespace Go.Proofs.YthnenhfdojpobaaDoor
open Go.ChangeShapes Go.WideShapes Go.ChangeAt Go.RowKit
set_option maxRecDepth 100000

def fieldC (a b c : Nat) : Obj := .cells #[.int .i64 (a : Int), .int .i64 (b : Int), .int .i64 (c : Int)] 38
theorem FAt.next {w w1 : World} (b1 : Below w.heap.size w w1) (a b c g : Nat) (hg : w1.heap.size = g) : FAt w g a b c (w1.alloc (.cells #[.int .i64 (a : Int), .int .i64 (b : Int), .int .i64 (c : Int)] 38)) := by
  subst hg
  exact ⟨b1.alloc b1.size _, Row.new w1 _ _⟩
theorem FAt.take {w : World} {g a b c : Nat} {W : World} (h : FAt w g a b c W) (o : Obj) : FAt w g a b c (W.alloc o) := h.later ((Below.refl _ W).alloc (Nat.le_refl _) o)
theorem ListsAt.one {W : World} {g : Nat} (hg : W.heap.size = g) {v : Value} {xs : List Int} (h : IntsV W v xs) (hl : xs.length ≤ maxLen) : ListsAt (W.alloc (.cells #[v] 24)) g [v] [xs] := by
  subst hg
  refine ⟨rfl, fun i hi => ?_⟩
  obtain rfl : i = 0 := by simpa using hi
  exact ⟨(Row.new W 24 [v]).cell 0, h.later ((Below.refl _ W).alloc (Nat.le_refl _) _), hl⟩
theorem ListsAt.two {W : World} {g : Nat} (hg : W.heap.size = g) {v u : Value} {xs ys : List Int} (h : IntsV W v xs) (hl : xs.length ≤ maxLen) (k : IntsV W u ys) (hm : ys.length ≤ maxLen) : ListsAt (W.alloc (.cells #[v, u] 24)) g [v, u] [xs, ys] := by
  subst hg
  have b := (Below.refl _ W).alloc (Nat.le_refl W.heap.size) (.cells #[v, u] 24)
  refine ⟨rfl, fun i hi => ?_⟩
  rcases i with _ | _ | i
  · exact ⟨(Row.new W 24 [v, u]).cell 0, h.later b, hl⟩
  · exact ⟨(Row.new W 24 [v, u]).cell 1, k.later b, hm⟩
  · simp at hi
    omega
theorem IntsV.oneW {W : World} {g : Nat} (hg : W.heap.size = g) (x : Int) : IntsV (W.alloc (.cells #[.int .i64 x] 3)) (.slice (some ⟨g, 0, none⟩) 1 1) [x] := by
  subst hg
  exact ⟨_, 1, rfl, Nat.le_refl _, fun _ => ⟨_, 0, rfl, fun i hi => by
    have hr := Row.new W 3 [.int .i64 x]
    rw [Nat.zero_add, hr.cell i]
    rcases i with _ | i
    · rfl
    · simp at hi⟩⟩
theorem IntsV.twoW {W : World} {g : Nat} (hg : W.heap.size = g) (x y : Int) : IntsV (W.alloc (.cells #[.int .i64 x, .int .i64 y] 3)) (.slice (some ⟨g, 0, none⟩) 2 2) [x, y] := by
  subst hg
  exact ⟨_, 2, rfl, Nat.le_refl _, fun _ => ⟨_, 0, rfl, fun i hi => by
    have hr := Row.new W 3 [.int .i64 x, .int .i64 y]
    rw [Nat.zero_add, hr.cell i]
    rcases i with _ | _ | i
    · rfl
    · rfl
    · simp at hi
      omega⟩⟩
/-- A list of n numbers below the prime. -/
structure WhL (n : Nat) (l : List Nat) : Prop where
  len : l.length = n
  lt : ∀ x ∈ l, x < qN n
theorem WhL.wh {n : Nat} {l : List Nat} (h : WhL n l) (hc : Circ n) : IsWh n (ofL l) := ofL_wh hc h.len h.lt
theorem WhL.b {n : Nat} {l : List Nat} (h : WhL n l) : wheelB n (natI l) = true := wheelB_of h.len h.lt
theorem WhL.max {n : Nat} {l : List Nat} (h : WhL n l) (hc : Circ n) : (natI l).length ≤ maxLen := by rw [natI_len, h.len]; have := hc.2; unfold maxLen; omega
theorem WhL.tab {n : Nat} {f : Nat → Nat} (h : IsWh n f) : WhL n (tabN n f) := ⟨tabN_length n f, tab_lt h⟩
theorem chB_nat {n c : Nat} (h : c < 2 ^ n) : chordsB n [(c : Int)] = true := by unfold chordsB; simp; exact_mod_cast h
theorem chB_nat2 {n a b : Nat} (h : a < 2 ^ n) (k : b < 2 ^ n) : chordsB n [(a : Int), (b : Int)] = true := by unfold chordsB; simp; exact ⟨by exact_mod_cast h, by exact_mod_cast k⟩

theorem Spectrum_ok (n : Nat) (hc : Circ n) (l : List Nat) (hw : WhL n l)  (v : Value) (w : World) (h : IntsV w v (natI l)) :
    Calls Tryd.prog 10 #[.int .i64 (n : Int), v] w fun e w' => ∃ v', e = .returned (.tuple #[v', .int .i64 0]) ∧ IntsV w' v' (natI (tabN n (spF n (ofL l)))) ∧ Below w.heap.size w w' := by
  have HFo := Lib.hid (fun W => by have := fieldOf_any (n : Int) W; rwa [(fN_nat hc).1, (fN_nat hc).2.1, (fN_nat hc).2.2] at this)
  have HHas := Lib.hid (show ∀ W b, ListsAt W b [v] [natI l] → Calls Tryd.prog 20 #[fV n (qN n) (wN n), .slice (some ⟨b, 0, none⟩) 1 1] W (fun e w' => e = .returned (.bool true) ∧ Below W.heap.size W w') from fun W b h => by have := hasWheels_any (n : Int) [v] [natI l] b W (by simp) h; rw [(fN_nat hc).1, (fN_nat hc).2.1, (fN_nat hc).2.2, circB_nat hc, Int.toNat_natCast, show ([natI l].all (wheelB n)) = true by simp [hw.b]] at this; exact this)
  have HV := Lib.hid h
  have HVl := Lib.hid (hw.max hc)
  have HWh := Lib.hid (fun W (h : IntsV W v (natI l)) => wheel_any n hc l hw.len v W h)
  have HLi := Lib.hid (fun f W => list_wh n (by have := hc.2; omega) f W)
  have HC1 := Lib.hid (fun W => spectrum_any n hc (ofL l) (hw.wh hc) W)
  have hcn := hc.2
  obtain ⟨ao, cap, rfl, _, _⟩ := h
  clear hw hc
  unfold fV at *
  generalize natI l = xs at *
  go_enter Tryd.func10, Tryd.ntmps10
  go_wp2_with fail
  refine (HFo.out _).mono ?_
  rintro e w1 ⟨rfl, b1⟩
  obtain ⟨G, hG⟩ : ∃ G, w1.heap.size = G := ⟨_, rfl⟩
  have HF1 := Lib.hid (FAt.next b1 (n) (qN n) (wN n) G hG)
  clear b1
  have hs1 : (w1.alloc (.cells #[.int .i64 ((n : Nat) : Int), .int .i64 ((qN n : Nat) : Int), .int .i64 ((wN n : Nat) : Int)] 38)).heap.size = G + 1 := by rw [World.size_alloc, hG]
  have LA := Lib.hid (ListsAt.one hs1 (HV.out.later HF1.out.hb) HVl.out)
  have HF2 := Lib.hid (HF1.out.take (.cells #[.slice ao xs.length cap] 24))
  clear hs1
  go_wp2_with fail
  refine (HHas.out _ _ LA.out).mono ?_
  rintro e w2 ⟨rfl, b2⟩
  have HF3 := Lib.hid (HF2.out.later b2)
  clear b2 HF1 HF2 LA
  obtain ⟨k0, k1, k2⟩ := HF3.out.cell
  go_wp2_with fail
  refine (HWh.out _ (HV.out.later HF3.out.hb)).mono ?_
  rintro e w3 ⟨rfl, b3⟩
  have HB3 := Lib.hid (HF3.out.hb.trans (b3.mono HF3.out.hb.size))
  clear b3 k0 k1 k2
  go_wp2_with fail
  refine (HC1.out _).mono ?_
  rintro e w4 ⟨rfl, b4⟩
  have HB4 := Lib.hid (HB3.out.trans (b4.mono HB3.out.size))
  clear b4
  go_wp2_with fail
  refine (HLi.out _ _).mono ?_
  rintro e w5 ⟨v', rfl, i5, b5⟩
  have HI5 := Lib.hid i5
  have HB5 := Lib.hid (HB4.out.trans (b5.mono HB4.out.size))
  clear i5 b5
  go_wp2
  go_ret2
  exact ⟨v', rfl, HI5.out, HB5.out⟩

theorem Spectrum_bad (n : Int) (xs : List Int) (v : Value) (w : World) (hl : xs.length ≤ maxLen) (h : IntsV w v xs) (hb : (circB n && [xs].all (wheelB n.toNat)) = false) :
    Calls Tryd.prog 10 #[.int .i64 n, v] w fun e w' => e = .returned (.tuple #[.slice none 0 0, .int .i64 2]) ∧ Below w.heap.size w w' := by
  have HFo := Lib.hid (fun W => fieldOf_any n W)
  have HHas := Lib.hid (show ∀ W b, ListsAt W b [v] [xs] → Calls Tryd.prog 20 #[fV (fN n) (fQ n) (fW n), .slice (some ⟨b, 0, none⟩) 1 1] W (fun e w' => e = .returned (.bool false) ∧ Below W.heap.size W w') from fun W b h => by have := hasWheels_any n [v] [xs] b W (by simp) h; rw [hb] at this; exact this)
  have HV := Lib.hid h
  have HVl := Lib.hid hl
  clear hb
  obtain ⟨ao, cap, rfl, _, _⟩ := h
  unfold fV at *
  go_enter Tryd.func10, Tryd.ntmps10
  go_wp2_with fail
  refine (HFo.out _).mono ?_
  rintro e w1 ⟨rfl, b1⟩
  obtain ⟨G, hG⟩ : ∃ G, w1.heap.size = G := ⟨_, rfl⟩
  have HF1 := Lib.hid (FAt.next b1 (fN n) (fQ n) (fW n) G hG)
  clear b1
  have hs1 : (w1.alloc (.cells #[.int .i64 ((fN n : Nat) : Int), .int .i64 ((fQ n : Nat) : Int), .int .i64 ((fW n : Nat) : Int)] 38)).heap.size = G + 1 := by rw [World.size_alloc, hG]
  have LA := Lib.hid (ListsAt.one hs1 (HV.out.later HF1.out.hb) HVl.out)
  have HF2 := Lib.hid (HF1.out.take (.cells #[.slice ao xs.length cap] 24))
  clear hs1
  go_wp2_with fail
  refine (HHas.out _ _ LA.out).mono ?_
  rintro e w2 ⟨rfl, b2⟩
  have HF3 := Lib.hid (HF2.out.later b2)
  clear b2 HF1 HF2 LA
  go_wp2
  go_ret2
  exact ⟨rfl, HF3.out.hb⟩

end Go.Proofs.YthnenhfdojpobaaDoor
