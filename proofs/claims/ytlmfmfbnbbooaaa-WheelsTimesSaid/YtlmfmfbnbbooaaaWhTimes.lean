/-
  The product of two wheels; where a wheel has nothing; the wheel of a chord.
-/
import Derived.Test.YtlmfmfbnbbooaaaWhOps3
namespace Go.Proofs.Ytlmfmfbnbbooaaa
open Go.ChangeShapes Go.WideShapes Go.ChangeAt Go.RowKit
set_option maxRecDepth 100000

/-! ### the product, pair by pair -/
/-- What the pairs before (x, y) give at z. -/
def tpS (n : Nat) (f g : Nat → Nat) (x y z : Nat) : Nat := (sumN x fun a => sumN n fun b => if (a + b) % n = z then f a * g b else 0) + sumN y fun b => if (x + b) % n = z then f x * g b else 0
def tpF (n : Nat) (f g : Nat → Nat) (x y z : Nat) : Nat := if z < n then tpS n f g x y z % qN n else 0
theorem tpF_zero {n : Nat} (f g : Nat → Nat) : tpF n f g 0 0 = zeroF := by
  funext z; unfold tpF tpS zeroF; split <;> simp [sumN]
theorem tpF_next {n x y : Nat} (hn : 0 < n) (f g : Nat → Nat) : (fun z => if z = (x + y) % n then (tpF n f g x y ((x + y) % n) + f x * g y) % qN n else tpF n f g x y z) = tpF n f g x (y + 1) := by
  funext z
  have hl := Nat.mod_lt (x + y) hn
  by_cases e : z = (x + y) % n
  · rw [if_pos e, e]
    unfold tpF tpS
    rw [if_pos hl, if_pos hl, Nat.mod_add_mod]
    simp only [sumN, if_true]
    rw [Nat.add_assoc]
  · rw [if_neg e]
    unfold tpF tpS
    simp only [sumN]
    have e' : ¬ (x + y) % n = z := fun h => e h.symm
    simp only [e', if_false, Nat.add_zero]
theorem tpF_row (n x : Nat) (f g : Nat → Nat) : tpF n f g x n = tpF n f g (x + 1) 0 := by
  funext z; unfold tpF tpS; simp only [sumN, Nat.add_zero]
theorem tpF_all {n : Nat} (hn : 0 < n) (f g : Nat → Nat) : tpF n f g n 0 = tiF n f g := by
  funext z
  unfold tpF tiF tpS
  by_cases hz : z < n
  · rw [if_pos hz, if_pos hz]
    simp only [sumN, Nat.add_zero]
    congr 1
    refine sum_congr fun a ha => ?_
    have e : ∀ b, b < n → ((a + b) % n = z ↔ b = (z + n - a) % n) := fun b hb => by
      constructor
      · intro h
        rw [← h]
        by_cases h2 : a + b < n
        · rw [Nat.mod_eq_of_lt h2, show a + b + n - a = b + n from by omega, Nat.add_mod_right, Nat.mod_eq_of_lt hb]
        · have h3 : (a + b) % n = a + b - n := by rw [Nat.mod_eq_sub_mod (by omega), Nat.mod_eq_of_lt (by omega)]
          rw [h3, show a + b - n + n - a = b from by omega, Nat.mod_eq_of_lt hb]
      · intro h
        rw [h, Nat.add_mod_mod, show a + (z + n - a) = z + n from by omega, Nat.add_mod_right, Nat.mod_eq_of_lt hz]
    rw [sum_congr (g := fun b => if b = (z + n - a) % n then (fun b => f a * g b) b else 0) (fun b hb => by
      by_cases h : (a + b) % n = z
      · rw [if_pos h, if_pos ((e b hb).1 h)]
      · rw [if_neg h, if_neg (fun h2 => h ((e b hb).2 h2))]), sum_single, if_pos (Nat.mod_lt _ hn)]
  · rw [if_neg hz, if_neg hz]
theorem tpF_lt {n : Nat} (h : Circ n) (f g : Nat → Nat) (x y z : Nat) : tpF n f g x y z < qN n := by
  unfold tpF; split; exact Nat.mod_lt _ h.q_pos; exact h.q_pos

/-- Two wheels to read, one to write, the result's place. -/
def Three (w0 : World) (B n : Nat) (f g : Nat → Nat) (p : Nat → Nat) (W : World) : Prop :=
  WAt w0 B n f W ∧ WAt w0 (B + 1) n g W ∧ WAt w0 (B + 1 + 1 + 1) n p W ∧ W.heap[B + 1 + 1]? = some (.cells zeroC 65 (0, 0))
theorem Three.later {w0 : World} {B n : Nat} {f g p : Nat → Nat} {W W' : World} (h : Three w0 B n f g p W) (k : Below W.heap.size W W') : Three w0 B n f g p W' :=
  ⟨h.1.later k, h.2.1.later k, h.2.2.1.later k, heap_later h.2.2.2 k⟩
theorem Three.set {w0 : World} {B n : Nat} {f g p : Nat → Nat} {W : World} (h : Three w0 B n f g p W) (h1 : w0.heap.size = B) {x : Nat} (hx : x < 16) (v : Nat) :
    Three w0 B n f g (fun k => if k = x then v else p k) (W.setCell ⟨B + 1 + 1 + 1, 3 + x, none⟩ (.int .i64 (v : Int))) :=
  ⟨h.1.other (by omega) (by omega) _, h.2.1.other (by omega) (by omega) _, h.2.2.1.set (by omega) hx v, (heap_setCell_other W ⟨B + 1 + 1 + 1, 3 + x, none⟩ (B + 1 + 1) _ (show B + 1 + 1 ≠ B + 1 + 1 + 1 by omega)).trans h.2.2.2⟩

set_option maxHeartbeats 2000000 in
theorem times_any (n : Nat) (h : Circ n) (f g : Nat → Nat) (hf : IsWh n f) (hg : IsWh n g) (w : World) :
    Calls Try.prog 65 #[whV n f, whV n g] w fun e w' => e = .returned (whV n (tiF n f g)) ∧ Below w.heap.size w w' := by
  have HAll := Lib.hid (tpF_all h.pos f g)
  have HPl := Lib.hid (fun x y W => by have := place_any n (qN n) (wN n) h.pos (by have := h.2; omega) (((x : Nat) : Int) + ((y : Nat) : Int)) W; rwa [show (((x : Nat) : Int) + ((y : Nat) : Int)) % (n : Int) = (((x + y) % n : Nat) : Int) by simp] at this)
  have HNt := Lib.hid (fun x y => tpF_next (x := x) (y := y) h.pos f g)
  have HRo := Lib.hid (fun x => tpF_row n x f g)
  have HLt := Lib.hid (fun x y z => tpF_lt h f g x y z)
  have HFl := Lib.hid hf.lt
  have HGl := Lib.hid hg.lt
  have hmx : Try.prog.follows .mixedOrders = true := by kernel_rfl
  have hn := h.2
  have hn0 := h.pos
  have hq := h.q_le
  have hq0 := h.q_pos
  have HE := Lib.hid (headC_eq n)
  obtain ⟨B, hB⟩ : ∃ B, w.heap.size = B := ⟨_, rfl⟩
  obtain ⟨W0, hW0⟩ : ∃ W0, w.alloc (.cells (whC n f).toArray 65) = W0 := ⟨_, rfl⟩
  have hs0 : W0.heap.size = B + 1 := by rw [← hW0, World.size_alloc, hB]
  have hF0 : WAt w B n f W0 := by rw [← hW0, ← hB]; exact WAt.new n f w
  obtain ⟨W1, hW1⟩ : ∃ W1, W0.alloc (.cells (whC n g).toArray 65) = W1 := ⟨_, rfl⟩
  have hs1 : W1.heap.size = B + 1 + 1 := by rw [← hW1, World.size_alloc, hs0]
  have b01 : Below W0.heap.size W0 W1 := by rw [← hW1]; exact (Below.refl _ W0).alloc (Nat.le_refl _) _
  have hG1 : WAt w (B + 1) n g W1 := by
    have := WAt.new n g W0
    rw [hs0, hW1] at this
    exact ⟨hF0.hb.trans (b01.mono hF0.hb.size), this.row⟩
  have hF1 := hF0.later b01
  have b12 := (Below.refl _ W1).alloc (Nat.le_refl W1.heap.size) (.cells zeroC 65)
  have hz2 := zero_new W1
  have hs2 : (W1.alloc (.cells zeroC 65)).heap.size = B + 1 + 1 + 1 := by rw [World.size_alloc, hs1]
  have hF2 := hF1.later b12
  have hG2 := hG1.later b12
  rw [hs1, ← hW1, ← hW0] at hz2
  rw [← hW1, ← hW0] at hF2 hG2 hs2
  have HF1 := Lib.hid hF2
  have HG1 := Lib.hid hG2
  have HZ1 := Lib.hid hz2
  have HS1 := Lib.hid hs2
  clear hF0 hF1 hF2 hG1 hG2 hz2 hs2 hs1 hs0 hW0 hW1 b01 b12
  unfold whV at *
  have HSF := Lib.hid (info_whC n f)
  obtain ⟨cs, hcs⟩ : ∃ cs, (whC n f).toArray = cs := ⟨_, rfl⟩
  obtain ⟨ct, hct⟩ : ∃ ct, (whC n g).toArray = ct := ⟨_, rfl⟩
  rw [hcs, hct] at HF1 HG1 HZ1 HS1 ⊢
  rw [hcs] at HSF
  have HCS := Lib.hid hcs
  have HCT := Lib.hid hct
  obtain ⟨WX, hWX⟩ : ∃ WX, ((w.alloc (.cells cs 65)).alloc (.cells ct 65)).alloc (.cells zeroC 65) = WX := ⟨_, rfl⟩
  rw [hWX] at HF1 HG1 HZ1 HS1
  unfold zeroC at hWX
  have HWX := Lib.hid hWX
  clear hWX
  clear hcs hct
  go_enter Try.func65, Try.ntmps65
  go_upto_region 1 with fail
  rw [HWX.out]
  go_step
  refine wpList_infield n f 2 9 10 rfl rfl rfl rfl rfl rfl B rfl (fun _ => rfl) HF1.out.row ?_
  refine wpList_fresh n (qN n) (wN n) 10 11 5 rfl rfl rfl rfl rfl rfl rfl rfl rfl rfl (fun _ _ => rfl) (fun _ _ => rfl) (B + 1 + 1 + 1) HS1.out ?_
  intro W2 hcv hcs2 hs2 hr2 hb2
  go_frame
  have hF2 : WAt w B n f W2 := ⟨HF1.out.hb.trans (hb2.mono (by omega)), (hb2.block _ (by omega)).trans HF1.out.row⟩
  have HT2 := Lib.hid (show Three w B n f g (tpF n f g 0 0) W2 from ⟨hF2, ⟨hF2.hb, (hb2.block _ (by omega)).trans HG1.out.row⟩, ⟨hF2.hb, by rw [tpF_zero]; rw [hcs2, ← HE.out] at hr2; exact hr2⟩, (hb2.block (B + 1 + 1) (by omega)).trans HZ1.out⟩)
  obtain ⟨k0, k1, k2⟩ := hF2.head
  clear hcs2 hs2 hr2 hb2 hF2
  generalize Value.agg hcv = csv
  go_wp2_with fail
  clear k0 k1 k2
  go_loopw [15] (fun i wr => ∃ x : Nat, x ≤ n ∧ i = .int .i64 (x : Int) ∧ Three w B n f g (tpF n f g x 0) wr) (fun i _ => n - (intOf i).toNat)
  case atStart => exact ⟨0, Nat.zero_le _, rfl, HT2.out⟩
  case round =>
    obtain ⟨x, hx, rfl, hT⟩ := hrel
    have HT := Lib.hid hT
    clear hT
    by_cases hlt : x < n
    · obtain ⟨k0, k1, k2⟩ := HT.out.1.head
      go_wp2_with fail
      clear k0 k1 k2
      go_loopw [21] (fun i wr => ∃ y : Nat, y ≤ n ∧ i = .int .i64 (y : Int) ∧ Three w B n f g (tpF n f g x y) wr) (fun i _ => n - (intOf i).toNat)
      case atStart => exact ⟨0, Nat.zero_le _, rfl, HT.out⟩
      case round =>
        obtain ⟨y, hy, rfl, hT⟩ := hrel
        have HT := Lib.hid hT
        clear hT
        by_cases hlt2 : y < n
        · obtain ⟨k0, k1, k2⟩ := HT.out.1.head
          have HPk := Lib.hid (HPl.out x y)
          have hx16 : x < 16 := by omega
          have hy16 : y < 16 := by omega
          have hz16 : (x + y) % n < 16 := by have := Nat.mod_lt (x + y) hn0; omega
          have HU := Lib.hid (HNt.out x y)
          have b1 := HFl.out x
          have b2 := HGl.out y
          have b3 := HLt.out x y ((x + y) % n)
          have HV := Lib.hid (show (((tpF n f g x y ((x + y) % n) : Nat) : Int) + ((f x : Nat) : Int) * ((g y : Nat) : Int)) % ((qN n : Nat) : Int) = (((tpF n f g x y ((x + y) % n) + f x * g y) % qN n : Nat) : Int) by simp)
          have HNx := Lib.hid (fun W (hT : Three w B n f g (tpF n f g x y) W) => by have := hT.set hB hz16 ((tpF n f g x y ((x + y) % n) + f x * g y) % qN n); rw [HU.out, ← HV.out] at this; exact this)
          have HAt := Lib.hid (fun W (hT : Three w B n f g (tpF n f g x y) W) => hT.2.2.1.at hz16)
          have hm := mul_bd (show f x ≤ 100000 by omega) (show g y ≤ 100000 by omega)
          have m3 := fun W (hT : Three w B n f g (tpF n f g x y) W) => hT.1.at hx16
          have m4 := fun W (hT : Three w B n f g (tpF n f g x y) W) => hT.2.1.at hy16
          have M3 := Lib.hid m3
          have M4 := Lib.hid m4
          clear m3 m4
          generalize tpF n f g x y ((x + y) % n) = pz at *
          generalize f x = fx at *
          generalize g y = gy at *
          generalize (x + y) % n = z at *
          have hq0' : (((qN n : Nat) : Int) == 0) = false := by rw [beq_eq_false_iff_ne]; omega
          go_wp2_with fail
          refine (HPk.out _).mono ?_
          rintro e w1 ⟨rfl, b4⟩
          have HT4 := Lib.hid (HT.out.later b4)
          have HAt4 := HAt.out _ HT4.out
          have m3 := M3.out _ HT4.out
          have m4 := M4.out _ HT4.out
          clear b4 k0 k1 k2
          obtain ⟨k0, k1, k2⟩ := HT4.out.1.head
          go_wp2_with fail
          refine region_calm_tail 20 hmx (by kernel_rfl) ?_
          simp only [List.take_succ_cons, List.take_zero, List.drop_succ_cons, List.drop_zero]
          intro S hSn fw hS1 hS2
          have l0 := fun z => cell_later (hS1 z) k0
          have l1 := fun z => cell_later (hS1 z) k1
          have l2 := fun z => cell_later (hS1 z) k2
          have l3 := fun z => cell_later (hS1 z) m3
          have l4 := fun z => cell_later (hS1 z) m4
          have l5 := fun z => cell_later (hS1 z) HAt4
          repeat (go_big_quiet_step (fail))
          refine wpQuiet_nil ?_
          rintro _ ⟨z', rfl⟩
          have hT5 := HT4.out.later (hS1 z')
          generalize fw z' = w5 at hT5
          have HT6 := Lib.hid (HNx.out _ hT5)
          have e1 := HAt.out _ hT5
          have e2 := hT5.2.2.1.row.frozen (3 + z)
          clear l0 l1 l2 l3 l4 l5 hS1 hS2 hT5 k0 k1 k2 m3 m4 HAt4
          try dsimp only [Exit.then]
          go_wp2
          go_roundw
          case rel => exact ⟨y + 1, by omega, by go_num, HT6.out⟩
          case measure => simp only [intOf]; omega
        · obtain rfl : y = n := by omega
          rw [HRo.out x] at HT
          go_wp2
          go_roundw
          case rel => exact ⟨x + 1, by omega, by go_num, HT.out⟩
          case measure => simp only [intOf]; omega
    · obtain rfl : x = n := by omega
      rw [HAll.out] at HT
      go_upto_region 12 with fail
      go_step
      refine wpList_give x (tiF x f g) 5 4 53 rfl rfl rfl rfl rfl rfl (B + 1 + 1 + 1) (B + 1 + 1) rfl (fun _ => rfl) (fun _ => rfl) HT.out.2.2.1.row zeroC HT.out.2.2.2 rfl ?_
      intro W4 hr4 hb4
      have HB4 := Lib.hid (HT.out.1.hb.trans (hb4.mono (by omega)))
      go_frame
      go_wp2
      refine bodyPost_ret (results_cell_row rfl _ _ (B + 1 + 1) 65 (whC x (tiF x f g)).toArray (0, 0) _ rfl hr4 Try.underlying65 rfl (info_whC _ _)) rfl ?_
      exact ⟨rfl, HB4.out⟩

/-! ### where a wheel has nothing -/
def zeN (f : Nat → Nat) : Nat → Nat
  | 0 => 0
  | k + 1 => if f k = 0 then zeN f k ||| 1 <<< k else zeN f k
theorem zeN_lt (f : Nat → Nat) : ∀ k, zeN f k < 2 ^ k
  | 0 => by simp [zeN]
  | k + 1 => by
    have h := zeN_lt f k
    have h2 : 2 ^ k ≤ 2 ^ (k + 1) := Nat.pow_le_pow_right (by omega) (by omega)
    unfold zeN
    split
    · exact Nat.or_lt_two_pow (by omega) (by rw [Nat.one_shiftLeft]; exact Nat.pow_lt_pow_right (by omega) (by omega))
    · omega
theorem zeN_bit (f : Nat → Nat) (i : Nat) : ∀ k, (zeN f k).testBit i = (decide (i < k) && (f i == 0))
  | 0 => by simp [zeN]
  | k + 1 => by
    unfold zeN
    by_cases e : i = k
    · subst e
      have h1 : (zeN f i).testBit i = false := Nat.testBit_lt_two_pow (zeN_lt f i)
      by_cases h0 : f i = 0
      · rw [if_pos h0, Nat.testBit_or, h1, Nat.one_shiftLeft, Nat.testBit_two_pow_self]; simp [h0]
      · rw [if_neg h0, h1]; simp [h0]
    · have ih := zeN_bit f i k
      have h2 : decide (i < k + 1) = decide (i < k) := by by_cases h : i < k <;> simp [h] <;> omega
      rw [h2, ← ih]
      split
      · rw [Nat.testBit_or, Nat.one_shiftLeft, Nat.testBit_two_pow_of_ne (by omega), Bool.or_false]
      · rfl

set_option maxHeartbeats 1000000 in
theorem zeros_any (n : Nat) (h : Circ n) (f : Nat → Nat) (w : World) :
    Calls Try.prog 68 #[whV n f] w fun e w' => e = .returned (.int .i64 ((zeN f n : Nat) : Int)) ∧ Below w.heap.size w w' := by
  have hn := h.2
  have hn0 := h.pos
  have HW := Lib.hid (WAt.new n f w)
  have HL := Lib.hid (zeN_lt f)
  have HZ0 := Lib.hid (show zeN f 0 = 0 from rfl)
  have HZs := Lib.hid (fun k => show zeN f (k + 1) = if f k = 0 then zeN f k ||| 1 <<< k else zeN f k from rfl)
  unfold whV
  generalize (whC n f).toArray = cs at *
  obtain ⟨B, hB⟩ : ∃ B, w.heap.size = B := ⟨_, rfl⟩
  rw [hB] at HW
  obtain ⟨k0, k1, k2⟩ := HW.out.head
  go_enter Try.func68, Try.ntmps68
  go_wp2_with fail
  clear k0 k1 k2
  go_loopw [3, 8] (fun s i wr => ∃ k : Nat, k ≤ n ∧ s = .int .i64 ((zeN f k : Nat) : Int) ∧ i = .int .i64 (k : Int) ∧ WAt w B n f wr) (fun _ i _ => n - (intOf i).toNat)
  case atStart => exact ⟨0, Nat.zero_le _, by rw [HZ0.out]; rfl, rfl, HW.out⟩
  case round =>
    obtain ⟨k, hk, rfl, rfl, hT⟩ := hrel
    have HT := Lib.hid hT
    clear hT
    by_cases hlt : k < n
    · have hk16 : k < 16 := by omega
      have e1 := HT.out.at hk16
      have hs := HZs.out k
      have hl := HL.out k
      have hl2 : 2 ^ k ≤ 2 ^ 16 := Nat.pow_le_pow_right (by omega) (by omega)
      have hw2 := w64_pow (show k < 16 by omega)
      have he : 1 <<< k < 2 ^ 16 := by rw [Nat.one_shiftLeft]; exact Nat.pow_lt_pow_right (by omega) (by omega)
      have hor := or_nat (zeN f k) (1 <<< k) (by omega) (by omega)
      by_cases h0 : f k = 0
      · rw [if_pos h0] at hs
        rw [h0] at e1
        have HS := Lib.hid hs
        clear hs hl
        generalize (1 <<< k : Nat) = e at *
        generalize zeN f k = s at *
        go_wp2
        go_roundw
        case rel => exact ⟨k + 1, by omega, by rw [HS.out], by go_num, HT.out⟩
        case measure => simp only [intOf]; omega
      · rw [if_neg h0] at hs
        have HS := Lib.hid hs
        have h0' : (((f k : Nat) : Int) == 0) = false := by rw [beq_eq_false_iff_ne]; omega
        clear hs hl
        generalize f k = y at *
        go_wp2
        go_roundw
        case rel => exact ⟨k + 1, by omega, by rw [HS.out], by go_num, HT.out⟩
        case measure => simp only [intOf]; omega
    · obtain rfl : k = n := by omega
      go_wp2
      go_ret
      exact ⟨rfl, HT.out.hb⟩
end Go.Proofs.Ytlmfmfbnbbooaaa
