/-
  The reference's steps; whether every step comes; awake.
-/
import Derived.Test.YtjcgbeedjdglmaaRoSteps
import Derived.Deep.RegionHeld3
import Derived.Deep.AppendLies
namespace Go.Proofs.Ytjcgbeedjdglmaa
open Go.ChangeShapes Go.WideShapes Go.ChangeAt Go.RowKit
set_option maxRecDepth 100000

theorem stS_below {w W : World} {H : Nat} {p q : Addr} {a b : Value} (hH : w.heap.size = H) (h1 : w.cell? p = some a) (h2 : w.cell? q = some b) (h : Below H w W) :
    W.cell? p = some a ∧ W.cell? q = some b ∧ Below H w W := by
  subst hH
  exact ⟨cell_later h h1, cell_later h h2, h⟩

set_option maxHeartbeats 2000000 in
theorem RSteps_any (n : Nat) (ys : List Nat) (hr : IsRow n ys) (v : Value) (w : World) (h : IntsV w v (natI ys)) :
    Calls Try.prog 25 #[v, .int .i64 n] w fun e w' => ∃ v', e = .returned v' ∧ IntsV w' v' (natI (stepsL n ys)) ∧ Below w.heap.size w w' := by
  have hlen := hr.len
  have hlo := hr.lo
  have hhi := hr.hi
  have hmx : Try.prog.follows .mixedOrders = true := by kernel_rfl
  obtain ⟨ao, cap, rfl, hlc, hc⟩ := h
  rw [natI_length] at hlc hc ⊢
  obtain ⟨b, off, rfl, hd⟩ := hc (by omega)
  rw [hlen] at hlc hd ⊢
  have HC := Lib.hid (fun i hi => (hd i hi).trans (by rw [natI_at]))
  have HM := Lib.hid (fun x => refmod_any x n (by omega) (by omega))
  have HS := Lib.hid (fun i => step_int (n := n) (ys := ys) (i := i) (getD_lt hr.lt hr.pos i))
  have HY := Lib.hid (fun i => getD_lt hr.lt hr.pos i)
  have HK := Lib.hid (stepsK_succ n ys)
  have HA := Lib.hid (stepsK_all hlen)
  obtain ⟨i0, hi, hz0, hz1, hz2⟩ := info_parts info_intV
  obtain ⟨H, hH⟩ : ∃ H, w.heap.size = H := ⟨_, rfl⟩
  have HH := Lib.hid hH
  clear hc hd hlen hr hH
  go_enter Try.func25, Try.ntmps25
  go_wp2
  go_loopw [5, 6] (fun o i wr => ∃ k : Nat, k ≤ n - 1 ∧ i = .int .i64 ((k : Int) + 1) ∧ wr.ownsRow H 3 1 o k (ivals (stepsK n ys k)) ∧ Below H w wr) (fun _ i _ => n - (intOf i).toNat)
  case atStart => exact ⟨0, Nat.zero_le _, rfl, World.ownsRow_nil _ _ _ _, by rw [← HH.out]; exact Below.refl _ _⟩
  case round =>
    obtain ⟨k, hk, rfl, hown, hB⟩ := hrel
    have hs := hB.size
    have hle : H ≤ wr.heap.size := by have := HH.out; omega
    have hBw : Below w.heap.size w wr := by rw [HH.out]; exact hB
    have HB := Lib.hid hB
    have HO := Lib.hid hown
    clear hown hB
    by_cases hlt : k < n - 1
    · have c1 := HC.out (k + 1) (by omega)
      have c0 := HC.out k (by omega)
      have y1 := HY.out (k + 1)
      have y0 := HY.out k
      have HSk := Lib.hid (HS.out k)
      have HKk := Lib.hid (HK.out k)
      generalize ys[k + 1]?.getD 0 = y at c1 y1 HSk
      generalize ys[k]?.getD 0 = x at c0 y0 HSk
      generalize stepN n ys k = s at HSk HKk
      have HMk := Lib.hid (HM.out ((y : Int) - (x : Int)))
      rw [HSk.out] at HMk
      have HLk := Lib.hid (show (stepsK n ys k).length = k by simp [stepsK, natI])
      clear hBw
      obtain ⟨j, hj⟩ : ∃ j : Int, (k : Int) + 1 = j := ⟨_, rfl⟩
      have j1 : (0 : Int) ≤ j := by omega
      have j2 : j < n := by omega
      have j3 : (0 : Int) ≤ j - 1 := by omega
      have j4 : j - 1 < n := by omega
      have e1 : off + (k + 1) = off + j.toNat := by omega
      have e0 : off + k = off + (j.toNat - 1) := by omega
      have j5 : 1 ≤ j := by omega
      rw [e1] at c1
      rw [e0] at c0
      rw [hj]
      have hwj : IntKind.i64.wrap (j - 1) = j - 1 := IntWalk.i64_in _ (by omega)
      have hwy : IntKind.i64.wrap ((y : Int) - (x : Int)) = (y : Int) - (x : Int) := IntWalk.i64_in _ (by omega)
      have HJ := Lib.hid hj
      clear hj e1 e0
      go_wp2_with fail
      have HB1 := Lib.hid (stS_below HH.out c1 c0 HB.out.drew)
      have HS := Lib.hid (fun W hW => stS_below (W := W) HH.out c1 c0 hW)
      clear c1 c0
      go_region_held3 (fun w' => w'.cell? ⟨b, off + j.toNat, none⟩ = some (.int .i64 (y : Int)) ∧ w'.cell? ⟨b, off + (j.toNat - 1), none⟩ = some (.int .i64 (x : Int)) ∧ Below H w w') (first | exact HB1.out | assumption | exact HS.out _ ((HB.out.alloc (by omega) _).drew) | exact HS.out _ (((HB.out.alloc (by omega) _).drew).grown ‹_› (by simp; omega) (fun q e => (HO.out.lt q e).1))) ((first | (go_at_call 60; refine (HMk.out _).mono ?_; rintro e w' ⟨rfl, rfl⟩) | (refine step_append_lies _ (by rfl) _ _ 22 (by rfl) H 3 i0 (.int .i64 0) 1 8 Try.underlying22 hi hz0 hz1 hz2 rfl (by decide) _ _ _ (by rfl) ((HO.out.alloc _).drew) ⟨wr.heap.size, 0, none⟩ 1 1 [.int .i64 s] (by rfl) rfl (fun j u h => cell_one_new wr _ _ j u h) (by simp [Value.oneCell']) (by decide) (by unfold maxLen; omega) (by omega) (by simp; omega) (wr.heap.size + 1) (by simp) ?_; intro g cap2 w2 hown1 hgrow1 hat hlt1)))
      go_wp2
      go_roundw
      case rel => exact ⟨k + 1, by omega, by rw [← HJ.out]; go_num, by rw [HKk.out]; unfold ivals at hown1 ⊢; rw [List.map_append]; exact hown1, (HB.out.alloc (by omega) _).drew.grown hgrow1 (by simp; omega) (fun q e => (HO.out.lt q e).1)⟩
      case measure => simp only [intOf]; have := HJ.out; omega
    · obtain rfl : k = n - 1 := by omega
      rw [HA.out] at HO
      clear hBw
      go_wp2
      go_ret
      exact ⟨_, rfl, IntsV.of_vals HO.out, by rw [HH.out]; exact HB.out⟩

theorem part_every {n : Nat} {ys : List Nat} (h : 0 < n) : partB n (natI (stepsL n ys)) = everyB n ys := by
  unfold partB everyB
  rw [Bool.eq_iff_iff, decide_eq_true_eq, decide_eq_true_eq, natI_nodup]
  refine ⟨fun h => h.2, fun hd => ⟨fun x hx => ?_, hd⟩⟩
  obtain ⟨y, hy, rfl⟩ := List.mem_map.1 hx
  have := stepsL_lt h ys y hy
  omega

theorem hasEvery_any (n : Nat) (ys : List Nat) (hr : IsRow n ys) (v : Value) (w : World) (h : IntsV w v (natI ys)) :
    Calls Try.prog 59 #[v] w fun e w' => e = .returned (.bool (everyB n ys)) ∧ Below w.heap.size w w' := by
  have hlen := hr.len
  have hhi := hr.hi
  have HS := Lib.hid (steps_any n ys hr v w h)
  have HA := Lib.hid (fun u W hu => areTones_any n (by omega) (natI (stepsL n ys)) u W (by rw [natI_length, stepsL_length]; unfold maxLen; omega) hu)
  rw [part_every hr.pos] at HA
  obtain ⟨ao, cap, rfl, hlc, hc⟩ := h
  rw [natI_length, hlen] at HS ⊢
  clear hc hr
  go_enter Try.func59, Try.ntmps59
  go_wp2_with fail
  refine HS.out.mono ?_
  rintro e w1 ⟨v', rfl, h1, hb⟩
  have HA1 := Lib.hid (HA.out v' w1 h1)
  clear h1
  go_wp2_with fail
  refine HA1.out.mono ?_
  rintro e w2 ⟨rfl, rfl⟩
  go_wp2
  go_ret
  exact ⟨rfl, hb⟩

theorem dup_every {n : Nat} {ys : List Nat} {k : Nat} (hk : k < (stepsL n ys).length) (h : (stepsL n ys)[k]?.getD 0 ∈ (stepsL n ys).take k) : everyB n ys = false := by
  unfold everyB
  refine decide_eq_false (fun hd => ?_)
  generalize stepsL n ys = l at *
  rw [← List.take_append_drop k l, List.nodup_append] at hd
  rw [List.getElem?_eq_getElem hk] at h
  have hm : l[k] ∈ l.drop k := by rw [List.drop_eq_getElem_cons hk]; exact List.mem_cons_self
  exact hd.2.2 _ h _ hm rfl

set_option maxHeartbeats 2000000 in
theorem REvery_any (n : Nat) (ys : List Nat) (hr : IsRow n ys) (v : Value) (w : World) (h : IntsV w v (natI ys)) :
    Calls Try.prog 26 #[v, .int .i64 n] w fun e w' => e = .returned (.bool (everyB n ys)) ∧ Below w.heap.size w w' := by
  have hlen := hr.len
  have hhi := hr.hi
  have hlo := hr.lo
  have HS := Lib.hid (RSteps_any n ys hr v w h)
  have hlt := stepsL_lt hr.pos ys
  have hll : (stepsL n ys).length = n - 1 := by rw [stepsL_length, hlen]
  have HDup := Lib.hid (fun k hk hh => dup_every (n := n) (ys := ys) (k := k) hk hh)
  have HEv := Lib.hid (show everyB n ys = decide (stepsL n ys).Nodup from rfl)
  clear h hr hlen
  generalize everyB n ys = ev at *
  generalize stepsL n ys = zs at *
  have HLt := Lib.hid hlt
  clear hlt
  go_enter Try.func26, Try.ntmps26
  go_wp2_with fail
  refine HS.out.mono ?_
  rintro e w1 ⟨v', rfl, h1, hb⟩
  obtain ⟨ao, cap, rfl, hlc, hc⟩ := h1
  rw [natI_length, hll] at hc
  obtain ⟨b, off, rfl, hd⟩ := hc (by omega)
  have HC := Lib.hid (fun i hi => (hd i hi).trans (by rw [natI_at]))
  rw [natI_length, hll]
  have hHB := Lib.hid hb
  have HLL := Lib.hid hll
  clear hc hd hlc hb hll
  go_wp2
  go_loopw [5, 7, 12] (fun m _ i wr => ∃ k : Nat, k ≤ n - 1 ∧ i = .int .i64 k ∧ m = .int .i64 (maskL (zs.take k)) ∧ (zs.take k).Nodup ∧ w1 = wr) (fun _ _ i _ => n - (intOf i).toNat)
  case atStart => exact ⟨0, Nat.zero_le _, rfl, rfl, by simp, rfl⟩
  case round =>
    obtain ⟨k, hk, rfl, rfl, hnd, rfl⟩ := hrel
    by_cases hlk : k < n - 1
    · have ck := HC.out k hlk
      have hkl : k < zs.length := by have := HLL.out; omega
      have hy := HLt.out (zs[k]?.getD 0) (by rw [List.getElem?_eq_getElem hkl]; exact List.getElem_mem hkl)
      have HT := Lib.hid (show zs.take (k + 1) = zs.take k ++ [zs[k]?.getD 0] by rw [List.take_succ_eq_append_getElem hkl, List.getElem?_eq_getElem hkl]; rfl)
      have hml : maskL (zs.take k) < 2 ^ 16 := Nat.lt_of_lt_of_le (mask_lt (n := n) (fun y hy => HLt.out y (List.mem_of_mem_take hy))) (Nat.pow_le_pow_right (by omega) (by omega))
      have HDk := Lib.hid (HDup.out k hkl)
      generalize zs[k]?.getD 0 = y at ck hy HT HDk
      have hyn : y < 16 := by omega
      have hol := one_shl hyn
      have HA := Lib.hid (shr_and (zs.take k) y hml)
      have HO := Lib.hid (or_nat (maskL (zs.take k)) (1 <<< y) (by omega) (by omega))
      have HW := Lib.hid (w64_pow hyn)
      by_cases hdup : y ∈ zs.take k
      · have q : (bits .and .i64 (((maskL (zs.take k) : Nat) : Int) / 2 ^ y) 1 == 1) = true := by
          rw [HA.out, decide_eq_true hdup]
        have HV := Lib.hid (HDk.out hdup)
        clear hnd hdup HDk HDup
        go_wp2
        go_ret
        exact ⟨ret_bool HV.out.symm, hHB.out⟩
      · have q : (bits .and .i64 (((maskL (zs.take k) : Nat) : Int) / 2 ^ y) 1 == 1) = false := by
          rw [HA.out, decide_eq_false hdup]
        have HN := Lib.hid hnd
        have HU := Lib.hid hdup
        clear hnd hdup HDk
        go_wp2
        go_roundw
        case rel =>
          refine ⟨k + 1, by omega, by go_num, ?_, ?_, trivial⟩
          · rw [HW.out, HO.out, HT.out, mask_snoc]
          · rw [HT.out, List.nodup_append]
            refine ⟨HN.out, by simp, ?_⟩
            intro a ha c hc e
            have : c = y := by simpa using hc
            exact HU.out (by rw [← this, ← e]; exact ha)
        case measure => simp only [intOf]; omega
    · have HE := Lib.hid (show ev = true by
        rw [HEv.out, decide_eq_true_eq]
        rw [List.take_of_length_le (by have := HLL.out; omega)] at hnd
        exact hnd)
      clear hnd
      go_wp2
      go_ret
      exact ⟨ret_bool HE.out.symm, hHB.out⟩

/-! ### Steps, Every -/
theorem Steps_ok (n : Nat) (ys : List Nat) (hr : IsRow n ys) (v : Value) (w : World) (h : IntsV w v (natI ys)) :
    Calls Try.prog 19 #[v] w fun e w' => ∃ v', e = .returned (.tuple #[v', .int .i64 0]) ∧ IntsV w' v' (natI (stepsL n ys)) ∧ Below w.heap.size w w' := by
  have HR := Lib.hid (isRow_any (natI ys) v w (by rw [natI_length, hr.len]; have := hr.hi; unfold maxLen; omega) h)
  rw [row_of hr] at HR
  have HS := Lib.hid (steps_any n ys hr v w h)
  clear h hr
  go_enter Try.func19, Try.ntmps19
  go_wp2_with fail
  refine HR.out.mono ?_
  rintro e w1 ⟨rfl, rfl⟩
  go_wp2_with fail
  refine HS.out.mono ?_
  rintro e w2 ⟨v', rfl, h1, hb⟩
  have H1 := Lib.hid h1
  clear h1
  go_wp2
  go_ret2
  exact ⟨v', rfl, H1.out, hb⟩

theorem Steps_bad (xs : List Int) (hl : xs.length ≤ maxLen) (hr : rowB xs = false) (v : Value) (w : World) (h : IntsV w v xs) :
    Calls Try.prog 19 #[v] w fun e w' => e = .returned (.tuple #[.slice none 0 0, .int .i64 2]) ∧ w = w' := by
  have HR := Lib.hid (isRow_any xs v w hl h)
  rw [hr] at HR
  clear h hr
  go_enter Try.func19, Try.ntmps19
  go_wp2_with fail
  refine HR.out.mono ?_
  rintro e w1 ⟨rfl, rfl⟩
  go_wp2
  go_ret2
  exact ⟨rfl, rfl⟩

theorem Every_ok (n : Nat) (ys : List Nat) (hr : IsRow n ys) (v : Value) (w : World) (h : IntsV w v (natI ys)) :
    Calls Try.prog 21 #[v] w fun e w' => e = .returned (.tuple #[.bool (everyB n ys), .int .i64 0]) ∧ Below w.heap.size w w' := by
  have HR := Lib.hid (isRow_any (natI ys) v w (by rw [natI_length, hr.len]; have := hr.hi; unfold maxLen; omega) h)
  rw [row_of hr] at HR
  have HS := Lib.hid (hasEvery_any n ys hr v w h)
  clear h hr
  go_enter Try.func21, Try.ntmps21
  go_wp2_with fail
  refine HR.out.mono ?_
  rintro e w1 ⟨rfl, rfl⟩
  go_wp2_with fail
  refine HS.out.mono ?_
  rintro e w2 ⟨rfl, hb⟩
  go_wp2
  go_ret2
  exact ⟨rfl, hb⟩

theorem Every_bad (xs : List Int) (hl : xs.length ≤ maxLen) (hr : rowB xs = false) (v : Value) (w : World) (h : IntsV w v xs) :
    Calls Try.prog 21 #[v] w fun e w' => e = .returned (.tuple #[.bool false, .int .i64 2]) ∧ w = w' := by
  have HR := Lib.hid (isRow_any xs v w hl h)
  rw [hr] at HR
  clear h hr
  go_enter Try.func21, Try.ntmps21
  go_wp2_with fail
  refine HR.out.mono ?_
  rintro e w1 ⟨rfl, rfl⟩
  go_wp2
  go_ret2
  exact ⟨rfl, rfl⟩

theorem row_0132 : IsRow 4 [0, 1, 3, 2] := ⟨rfl, by decide, by decide, by decide, by decide⟩
theorem steps_0132 : natI (stepsL 4 [0, 1, 3, 2]) = [1, 2, 3] := by decide

theorem awake_any (w : World) : Calls Try.prog 23 #[] w fun e w' => e = .returned (.bool true) ∧ Below w.heap.size w w' := by
  obtain ⟨W0, hW0⟩ : ∃ W0, w.alloc (.cells #[.int .i64 0, .int .i64 1, .int .i64 3, .int .i64 2] 3) = W0 := ⟨_, rfl⟩
  have b0 : Below w.heap.size w W0 := by rw [← hW0]; exact (Below.refl _ w).alloc (Nat.le_refl _) _
  have h0 : IntsV W0 (.slice (some ⟨w.heap.size, 0, none⟩) 4 4) (natI [0, 1, 3, 2]) := ⟨_, 4, rfl, by decide, fun _ => ⟨_, _, rfl, fun i hi => by
    rw [← hW0]
    have : i = 0 ∨ i = 1 ∨ i = 2 ∨ i = 3 := by simp [natI] at hi; omega
    rcases this with rfl | rfl | rfl | rfl <;> simp [natI]⟩⟩
  have HS := Lib.hid (Steps_ok 4 _ row_0132 _ W0 h0)
  rw [steps_0132] at HS
  have HW := Lib.hid hW0
  clear h0 hW0
  go_enter Try.func23, Try.ntmps23
  go_wp2_with fail
  rw [HW.out]
  refine HS.out.mono ?_
  rintro e w1 ⟨v', rfl, h1, hb⟩
  have H1 := Lib.hid h1
  clear h1
  go_wp2_with fail
  have H2 : IntsV (w1.alloc (.cells #[.int .i64 1, .int .i64 2, .int .i64 3] 3)) (.slice (some ⟨w1.heap.size, 0, none⟩) 3 3) [1, 2, 3] := ⟨_, 3, rfl, by decide, fun _ => ⟨_, _, rfl, fun i hi => by
    have : i = 0 ∨ i = 1 ∨ i = 2 := by simp at hi; omega
    rcases this with rfl | rfl | rfl <;> simp⟩⟩
  have HE := Lib.hid (Equal_any [1, 2, 3] [1, 2, 3] v' _ _ (by unfold maxLen; decide) (by unfold maxLen; decide) (H1.out.later ((Below.refl _ w1).alloc (Nat.le_refl _) _)) H2)
  rw [show (([1, 2, 3] : List Int) == [1, 2, 3]) = true by decide] at HE
  clear H2
  refine HE.out.mono ?_
  rintro e w2 ⟨rfl, q, rfl⟩
  go_wp2
  go_ret
  exact ⟨rfl, below_drewN ((below_nx b0 hb).alloc (below_nx b0 hb).size _) q⟩
end Go.Proofs.Ytjcgbeedjdglmaa
