/-
  The triad with some tones: Find of package triads.
-/
import Derived.Test.YtibkhjbcagihbaaDoorTrFindMath
import Derived.Test.YtibkhjbcagihbaaDoorTrTones
import Derived.Test.YtibkhjbcagihbaaDoorTones
namespace Go.Proofs.YtibkhjbcagihbaaDoor
open Go.ChangeShapes Go.WideShapes Go.ChangeAt Go.RowKit Go.Shelf
set_option maxRecDepth 100000

theorem arrB_0 (W : World) : (Instr.index 62 (.agg #[.bool false, .bool true]) (.int .i64 0)).run Tryd.prog W = .ok (.bool false) W := by kernel_rfl
theorem arrB_1 (W : World) : (Instr.index 62 (.agg #[.bool false, .bool true]) (.int .i64 1)).run Tryd.prog W = .ok (.bool true) W := by kernel_rfl

set_option maxHeartbeats 2000000 in
theorem find_any (n a b s : Nat) (hk : KOk n a b) (hs : s < 2 ^ n) (w : World) (hT : Tab w) :
    Calls Tryd.prog 23 #[kv n a b, .int .i64 s] w fun e w' => (∃ r x : Nat, FindIs n a b s r x ∧ e = .returned (.tuple #[.int .i64 r, .int .i64 x])) ∧ Below w.heap.size w w' := by
  have h0 := hk.h6
  have h1 := hk.h16
  have hmx : Tryd.prog.follows .mixedOrders = true := by kernel_rfl
  have hp : 2 ^ n ≤ 2 ^ 16 := Nat.pow_le_pow_right (by omega) h1
  have hs16 : s < 65536 := by omega
  have hcw : IntKind.u64.wrap (s : Int) = s := wrap_natu s (by omega)
  have HN := Lib.hid (fun y d => numbered_any n a b ((y : Nat) : Int) d (by omega) h1)
  have HT := Lib.hid (fun t ht => tones_any n a b t hk ht)
  have HL := Lib.hid (fun d y => onT_lt (n := n) (y := y) (by omega) d)
  have HS := Lib.hid (fun d y => show setT n a b (onT n d y) 3 < 65536 by have := setT_lt hk (onT n d y) 3; omega)
  have HNo := Lib.hid (fun h => find_none (s := s) hk h)
  obtain ⟨W0, hW0⟩ : ∃ W0, w.alloc (kcells n a b) = W0 := ⟨_, rfl⟩
  have b0 : Below w.heap.size w W0 := by rw [← hW0]; exact (Below.refl _ w).alloc (Nat.le_refl _) _
  have s0 : w.heap.size < W0.heap.size := by rw [← hW0]; simp
  have k0 : W0.cell? ⟨w.heap.size, 0, none⟩ = some (.int .i64 n) := by rw [← hW0]; simp
  have k1 : W0.cell? ⟨w.heap.size, 1, none⟩ = some (.int .i64 a) := by rw [← hW0]; simp
  have k2 : W0.cell? ⟨w.heap.size, 2, none⟩ = some (.int .i64 b) := by rw [← hW0]; simp
  have HT0 := Lib.hid (hT.same b0)
  have HW := Lib.hid hW0
  clear hW0 hp hk hs hT
  go_enter Tryd.func23, Tryd.ntmps23
  go_wp2
  rw [HW.out]
  go_loopw [6] (fun p wr => ∃ (pre : List Nat) (r : Nat), p = .int .u64 r ∧ r < 65536 ∧ tonesL s = pre ++ tonesL r ∧ (∀ y ∈ pre, ∀ d, setT n a b (onT n d y) 3 ≠ s) ∧ Below W0.heap.size W0 wr) (fun p _ => (intOf p).toNat)
  case atStart => exact ⟨[], s, rfl, hs16, by simp, by simp, Below.refl _ _⟩
  case round =>
    obtain ⟨pre, r, rfl, hr, hx, hno, hB⟩ := hrel
    have d0 := (hB.cell (p := ⟨w.heap.size, 0, none⟩) s0).trans k0
    have d1 := (hB.cell (p := ⟨w.heap.size, 1, none⟩) s0).trans k1
    have d2 := (hB.cell (p := ⟨w.heap.size, 2, none⟩) s0).trans k2
    have HB := Lib.hid hB
    have HTr := Lib.hid (HT0.out.same hB)
    have HNp := Lib.hid hno
    clear hB k0 k1 k2 hno
    by_cases hr0 : r = 0
    · subst hr0
      have h' : ((0 : Nat) : Int) = 0 := rfl
      rw [h']
      have hfin := Lib.hid (show FindIs n a b s 0 4 from .inr ⟨HNo.out (fun y hy d => by
        have hy64 : y < 64 := by
          apply Nat.lt_of_not_le
          intro hle
          rw [Nat.testBit_lt_two_pow (Nat.lt_of_lt_of_le hs16 (Nat.le_trans (show 65536 ≤ 2 ^ 64 by omega) (Nat.pow_le_pow_right (by omega) hle)))] at hy
          cases hy
        have hm : y ∈ tonesL s := mem_tonesL.2 ⟨hy64, hy⟩
        rw [hx, tonesL_zero, List.append_nil] at hm
        exact HNp.out y hm d), rfl, rfl⟩)
      clear hx hcw hs16
      go_wp2
      go_ret2
      exact ⟨⟨_, _, hfin.out, rfl⟩, b0.trans (HB.out.mono b0.size)⟩
    · have h1' : ((r : Int) != 0) = true := by rw [bne_iff_ne]; omega
      have htz := Lib.hid (tz_any r (by omega) hr0 wr HTr.out)
      have hst := tonesL_step r hr0 (by omega)
      have hlt64 : Lib.ctz 64 r < 64 := (ctz_bits r hr0 (by omega)).1
      have hnext := Lib.hid (show tonesL s = (pre ++ [Lib.ctz 64 r]) ++ tonesL (r &&& (r - 1)) by
        rw [hx, hst]; simp)
      have hand : Hid (bits .and .u64 (r : Int) ((r : Int) - 1) = ((r &&& (r - 1) : Nat) : Int)) := by
        have e : (r : Int) - 1 = ((r - 1 : Nat) : Int) := by omega
        rw [e]; exact andu_nat r (r - 1) (by omega) (by omega)
      have hdec : r &&& (r - 1) < r := Nat.lt_of_le_of_lt Nat.and_le_right (by omega)
      clear hst hcw hx
      generalize Lib.ctz 64 r = y at *
      go_wp2_with fail
      refine htz.out.mono ?_
      rintro e wz ⟨rfl, rfl⟩
      go_wp2
      go_loopw [22] (fun q wv => ∃ j : Nat, j ≤ 2 ∧ q = .int .i64 j ∧ (0 < j → setT n a b (onT n false y) 3 ≠ s) ∧ (1 < j → setT n a b (onT n true y) 3 ≠ s) ∧ Below wr.heap.size wr wv) (fun q _ => 2 - (intOf q).toNat)
      case atStart => exact ⟨0, Nat.zero_le _, rfl, fun h => by omega, fun h => by omega, Below.refl _ _⟩
      case round =>
        obtain ⟨j, hj, rfl, hf, hd, hV⟩ := hrel
        have v0 := cell_later hV d0
        have v1 := cell_later hV d1
        have v2 := cell_later hV d2
        have HV := Lib.hid hV
        have Hf := Lib.hid hf
        have Hd := Lib.hid hd
        clear hV hf hd d0 d1 d2
        by_cases hjl : j < 2
        · rcases (show j = 0 ∨ j = 1 by omega) with rfl | rfl
          · have ha0 := arrB_0 wr
            have HN1 := Lib.hid (HN.out y false)
            obtain ⟨t, ht⟩ : ∃ t : Nat, onT n false y = t := ⟨_, rfl⟩
            have hl := HL.out false y
            have hsl := HS.out false y
            rw [show tri n false ((y : Nat) : Int) = onT n false y from rfl] at HN1
            rw [ht] at HN1 hl hsl
            have HT1 := Lib.hid (HT.out t hl)
            obtain ⟨x, hxe⟩ : ∃ x : Nat, setT n a b t 3 = x := ⟨_, rfl⟩
            rw [hxe] at HT1 hsl
            have Hx := Lib.hid hxe
            have Ht := Lib.hid ht
            clear hxe ht
            go_wp2_with fail
            refine (HN1.out _).mono ?_
            rintro e w1 ⟨rfl, b1⟩
            have HV1 := Lib.hid (HV.out.trans (b1.mono HV.out.size))
            have v0 := cell_later b1 v0
            have v1 := cell_later b1 v1
            have v2 := cell_later b1 v2
            clear b1
            go_wp2_with fail
            refine (HT1.out _).mono ?_
            rintro e w2 ⟨rfl, hbs⟩
            have HV2 := Lib.hid (HV1.out.trans (hbs.mono HV1.out.size))
            by_cases he : x = s
            · have hq : ((x : Int) == (s : Int)) = true := by rw [beq_iff_eq]; omega
              have hfin := Lib.hid (show FindIs n a b s t 0 from .inl ⟨hl, Hx.out.trans he, rfl⟩)
              clear he hbs
              go_wp2
              go_ret2
              exact ⟨⟨_, _, hfin.out, rfl⟩, b0.trans ((HB.out.trans (HV2.out.mono HB.out.size)).mono (by omega))⟩
            · have hq : ((x : Int) == (s : Int)) = false := by rw [beq_eq_false_iff_ne]; omega
              have Hne := Lib.hid he
              clear he hbs
              go_wp2
              go_roundw
              case rel => exact ⟨0 + 1, by omega, by go_num, fun _ => by rw [Ht.out, Hx.out]; exact Hne.out, fun h => by omega, HV2.out⟩
              case measure => simp only [intOf]; omega
          · have ha0 := arrB_1 wr
            have HN1 := Lib.hid (HN.out y true)
            obtain ⟨t, ht⟩ : ∃ t : Nat, onT n true y = t := ⟨_, rfl⟩
            have hl := HL.out true y
            have hsl := HS.out true y
            rw [show tri n true ((y : Nat) : Int) = onT n true y from rfl] at HN1
            rw [ht] at HN1 hl hsl
            have HT1 := Lib.hid (HT.out t hl)
            obtain ⟨x, hxe⟩ : ∃ x : Nat, setT n a b t 3 = x := ⟨_, rfl⟩
            rw [hxe] at HT1 hsl
            have Hx := Lib.hid hxe
            have Ht := Lib.hid ht
            clear hxe ht
            go_wp2_with fail
            refine (HN1.out _).mono ?_
            rintro e w1 ⟨rfl, b1⟩
            have HV1 := Lib.hid (HV.out.trans (b1.mono HV.out.size))
            have v0 := cell_later b1 v0
            have v1 := cell_later b1 v1
            have v2 := cell_later b1 v2
            clear b1
            go_wp2_with fail
            refine (HT1.out _).mono ?_
            rintro e w2 ⟨rfl, hbs⟩
            have HV2 := Lib.hid (HV1.out.trans (hbs.mono HV1.out.size))
            by_cases he : x = s
            · have hq : ((x : Int) == (s : Int)) = true := by rw [beq_iff_eq]; omega
              have hfin := Lib.hid (show FindIs n a b s t 0 from .inl ⟨hl, Hx.out.trans he, rfl⟩)
              clear he hbs
              go_wp2
              go_ret2
              exact ⟨⟨_, _, hfin.out, rfl⟩, b0.trans ((HB.out.trans (HV2.out.mono HB.out.size)).mono (by omega))⟩
            · have hq : ((x : Int) == (s : Int)) = false := by rw [beq_eq_false_iff_ne]; omega
              have Hne := Lib.hid he
              clear he hbs
              go_wp2
              go_roundw
              case rel => exact ⟨1 + 1, by omega, by go_num, fun _ => Hf.out (by omega), fun _ => by rw [Ht.out, Hx.out]; exact Hne.out, HV2.out⟩
              case measure => simp only [intOf]; omega
        · have hj2 : j = 2 := by omega
          subst hj2
          have hb2 := HB.out.trans (HV.out.mono HB.out.size)
          have HB2 := Lib.hid hb2
          have hallp : Hid (∀ z ∈ pre ++ [y], ∀ d, setT n a b (onT n d z) 3 ≠ s) := Lib.hid (fun z hz d => by
            rcases List.mem_append.1 hz with h | h
            · exact HNp.out z h d
            · rw [List.mem_singleton] at h; subst h
              cases d
              · exact Hf.out (by omega)
              · exact Hd.out (by omega))
          clear hb2
          go_wp2
          go_roundw
          case rel => exact ⟨_, r &&& (r - 1), by rw [hand.out], by omega, hnext.out, hallp.out, HB2.out⟩
          case measure => simp only [intOf]; rw [hand.out]; omega
end Go.Proofs.YtibkhjbcagihbaaDoor
