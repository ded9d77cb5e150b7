/-
  Halves, and the reference's.
-/
import Derived.Test.YtjcgbeedjdglmaaRoConcat
import Derived.Test.YtjcgbeedjdglmaaRoHalfMath
import Derived.Test.YtjcgbeedjdglmaaRoFollowLaw
namespace Go.Proofs.Ytjcgbeedjdglmaa
open Go.ChangeShapes Go.WideShapes Go.ChangeAt Go.RowKit
set_option maxRecDepth 100000

theorem idx_mid {n : Nat} {ys : List Nat} (h : IsRow n ys) (he : everyB n ys = true) : Lib.idxOf (natI (stepsL n ys)) ((n / 2 : Nat) : Int) = ((midI n ys : Nat) : Int) := by
  have hm := mid_lt h he
  have hl : (stepsL n ys).length = n - 1 := by rw [stepsL_length, h.len]
  have hs := mid_step h he
  have e := Lib.idxFrom_hit ((n / 2 : Nat) : Int) (natI (stepsL n ys)) (midI n ys) 0 (by rw [natI_length]; omega) (by
    rw [List.getD_eq_getElem?_getD, natI_at, stepsL_at (by rw [h.len]; exact hm), hs]) (fun j hj => by
    rw [List.getD_eq_getElem?_getD, natI_at, stepsL_at (by rw [h.len]; omega)]
    intro hh
    have h3 : stepN n ys j = n / 2 := by omega
    have := mid_unique h he (show j < n - 1 by omega) h3
    omega)
  rw [Nat.zero_add] at e
  exact e

theorem Halves_bad (xs : List Int) (hl : xs.length ≤ maxLen) (hr : rowB xs = false) (v : Value) (w : World) (h : IntsV w v xs) :
    Calls Try.prog 41 #[v] w fun e w' => e = .returned (.tuple #[.slice none 0 0, .int .i64 2]) ∧ Below w.heap.size w w' := by
  have HR := Lib.hid (isRow_any xs v w hl h)
  rw [hr] at HR
  clear h hr
  go_enter Try.func41, Try.ntmps41
  go_wp2_with fail
  refine HR.out.mono ?_
  rintro e w1 ⟨rfl, rfl⟩
  go_wp2
  go_ret2
  exact ⟨rfl, Below.refl _ _⟩

theorem Halves_state (n : Nat) (ys : List Nat) (hr : IsRow n ys) (he : everyB n ys = false) (v : Value) (w : World) (h : IntsV w v (natI ys)) :
    Calls Try.prog 41 #[v] w fun e w' => e = .returned (.tuple #[.slice none 0 0, .int .i64 5]) ∧ Below w.heap.size w w' := by
  have HR := Lib.hid (isRow_any (natI ys) v w (row_len hr) h)
  rw [row_of hr] at HR
  have HS := Lib.hid (hasEvery_any n ys hr v w h)
  rw [he] at HS
  clear h hr he
  go_enter Try.func41, Try.ntmps41
  go_wp2_with fail
  refine HR.out.mono ?_
  rintro e w1 ⟨rfl, rfl⟩
  go_wp2_with fail
  refine HS.out.mono ?_
  rintro e w2 ⟨rfl, hb⟩
  go_wp2
  go_ret2
  exact ⟨rfl, hb⟩

set_option maxHeartbeats 2000000 in
theorem Halves_ok (n : Nat) (ys : List Nat) (hr : IsRow n ys) (he : everyB n ys = true) (v : Value) (w : World) (h : IntsV w v (natI ys)) :
    Calls Try.prog 41 #[v] w fun e w' => ∃ v', e = .returned (.tuple #[v', .int .i64 0]) ∧ IntsV w' v' (natI (halvesL n ys)) ∧ Below w.heap.size w w' := by
  have HR := Lib.hid (isRow_any (natI ys) v w (row_len hr) h)
  rw [row_of hr] at HR
  have HS := Lib.hid (hasEvery_any n ys hr v w h)
  rw [he] at HS
  have HSt := Lib.hid (fun W hW => steps_any n ys hr v W hW)
  have HIx := Lib.hid (fun u W hu => Index_any (natI (stepsL n ys)) u ((n / 2 : Nat) : Int) W (by rw [natI_length, stepsL_length, hr.len]; have := hr.hi; unfold maxLen; omega) hu)
  rw [idx_mid hr he, show ((n / 2 : Nat) : Int) = (n : Int) / 2 by omega] at HIx
  have hmx : Try.prog.follows .mixedOrders = true := by kernel_rfl
  have hm := mid_lt hr he
  have hlen := hr.len
  have hhi := hr.hi
  have H := Lib.hid h
  have HRes := Lib.hid (show natI (halvesL n ys) = (natI ys).drop (midI n ys + 1) ++ (natI ys).take (midI n ys + 1) by unfold halvesL natI; rw [List.map_append, List.map_drop, List.map_take])
  have hd1 : ((natI ys).drop (midI n ys + 1)).length = n - (midI n ys + 1) := by rw [List.length_drop, natI_length, hlen]
  have hd2 : ((natI ys).take (midI n ys + 1)).length = midI n ys + 1 := by rw [List.length_take, natI_length, hlen]; omega
  have HCo := Lib.hid (fun v1 v2 Z cap W h1 h2 c1 c2 => Concat_any ((natI ys).drop (midI n ys + 1)) ((natI ys).take (midI n ys + 1)) (by omega) (by omega) (by omega) v1 v2 Z cap W h1 h2 c1 c2)
  obtain ⟨ao, cap, hv, hlc, hc⟩ := h
  rw [natI_length, hlen] at hv hlc
  subst hv
  clear hr he hlen hd1 hd2 hc
  generalize midI n ys = m at *
  have m1 : (0 : Int) ≤ (m : Int) + 1 := by omega
  have m2 : (m : Int) + 1 ≤ n := by omega
  have m3 : (m : Int) + 1 ≤ cap := by omega
  have hs1 := fun W => run_from ao n cap ((m : Int) + 1) m1 m2 W
  have hs2 := fun W => run_upto ao n cap ((m : Int) + 1) m1 m3 W
  have e1 : ((m : Int) + 1).toNat = m + 1 := by omega
  rw [e1] at hs1 hs2
  have HF := Lib.hid (fun W hW => IntsV.from (W := W) (ao := ao) (len := n) (cap := cap) (xs := natI ys) hW (m + 1) (by omega))
  have HU := Lib.hid (fun W hW => IntsV.upto (W := W) (ao := ao) (len := n) (cap := cap) (xs := natI ys) hW (m + 1) (by omega))
  unfold sliced at hs1 hs2 HF HU
  simp only [Nat.sub_zero] at hs2 HU
  generalize (if cap = m + 1 then ao else Option.map (fun x => x.add ((m + 1) * 1)) ao) = A1 at hs1 HF
  generalize (if cap = 0 then ao else Option.map (fun x => x.add (0 * 1)) ao) = A2 at hs2 HU
  obtain ⟨s1, hs1e⟩ : ∃ s1, Value.slice A1 (n - (m + 1)) (cap - (m + 1)) = s1 := ⟨_, rfl⟩
  obtain ⟨s2, hs2e⟩ : ∃ s2, Value.slice A2 (m + 1) cap = s2 := ⟨_, rfl⟩
  have HE1 := Lib.hid hs1e
  have HE2 := Lib.hid hs2e
  rw [hs1e] at HF
  rw [hs2e] at HU
  clear hs1e hs2e
  clear e1
  go_enter Try.func41, Try.ntmps41
  go_wp2_with fail
  refine HR.out.mono ?_
  rintro e w1 ⟨rfl, rfl⟩
  go_wp2_with fail
  refine HS.out.mono ?_
  rintro e w2 ⟨rfl, b2⟩
  have K2 := Lib.hid (HSt.out w2 (H.out.later b2))
  have B2 := Lib.hid b2
  clear b2
  go_wp2_with fail
  refine K2.out.mono ?_
  rintro e w3 ⟨v3, rfl, i3, b3⟩
  have J3 := Lib.hid (HIx.out v3 w3 i3)
  have B3 := Lib.hid (below_nx B2.out b3)
  clear i3 b3
  go_wp2_with fail
  refine J3.out.mono ?_
  rintro e w4 ⟨rfl, rfl⟩
  go_wp2_with fail
  refine wp_region_quiet_tail (C := fun w' => ∃ q, w' = w3.drewN q) 6 hmx (by kernel_rfl) ⟨1, rfl⟩ ?_
  simp only [List.take_succ_cons, List.take_zero, List.drop_succ_cons, List.drop_zero]
  repeat (go_big_quiet_step (fail))
  refine wpQuiet_nil ?_
  rintro _ ⟨nq, rfl⟩
  have B4 := Lib.hid (below_drewN B3.out nq)
  generalize w3.drewN nq = w4 at B4
  try dsimp only [Exit.then]
  go_wp2_with fail
  rw [HE1.out, HE2.out]
  have B5 := Lib.hid (B4.out.alloc B4.out.size (.cells #[s1, s2] 22))
  have HK := Lib.hid (HCo.out s1 s2 w4.heap.size 2 (w4.alloc (.cells #[s1, s2] 22)) (HF.out _ (H.out.later B5.out)) (HU.out _ (H.out.later B5.out)) (by simp) (by simp))
  refine HK.out.mono ?_
  rintro e w5 ⟨v5, rfl, i5, b5⟩
  have I5 := Lib.hid i5
  have B6 := Lib.hid (below_nx B5.out b5)
  clear i5 b5
  go_wp2
  go_ret2
  exact ⟨v5, rfl, by rw [HRes.out]; exact I5.out, B6.out⟩

/-! ### the reference's -/
set_option maxHeartbeats 2000000 in
theorem RHalves_any (n : Nat) (ys : List Nat) (hr : IsRow n ys) (he : everyB n ys = true) (v : Value) (w : World) (h : IntsV w v (natI ys)) :
    Calls Try.prog 42 #[v] w fun e w' => ∃ v', e = .returned v' ∧ IntsV w' v' (natI (halvesL n ys)) ∧ Below w.heap.size w w' := by
  have HSt := Lib.hid (RSteps_any n ys hr v w h)
  have hmx : Try.prog.follows .mixedOrders = true := by kernel_rfl
  have hm := mid_lt hr he
  have hms := mid_step hr he
  have hlen := hr.len
  have hhi := hr.hi
  have hev := (every_ends hr he).1
  have H := Lib.hid h
  have HRes := Lib.hid (show natI (halvesL n ys) = (natI ys).drop (midI n ys + 1) ++ (natI ys).take (midI n ys + 1) by unfold halvesL natI; rw [List.map_append, List.map_drop, List.map_take])
  have HU := Lib.hid (fun i hi hs => mid_unique hr he (i := i) hi hs)
  have hll : (stepsL n ys).length = n - 1 := by rw [stepsL_length, hlen]
  have HAt := Lib.hid (fun i (hi : i < n - 1) => stepsL_at (n := n) (ys := ys) (i := i) (by omega))
  have HSl := Lib.hid (fun i => stepN_lt (n := n) hr.pos ys i)
  obtain ⟨ao, cap, hv, hlc, hc⟩ := h
  rw [natI_length, hlen] at hv hlc hc
  subst hv
  obtain ⟨bb, oo, rfl, hd⟩ := hc (by have := hr.lo; omega)
  have HSrc := Lib.hid (fun i hi => (hd i hi).trans (by rw [natI_at]))
  obtain ⟨i0, hi, hz0, hz1, hz2⟩ := info_parts info_intV
  have HLen := Lib.hid hlen
  clear hr he hlen hc hd
  generalize midI n ys = m at *
  generalize stepsL n ys = st at *
  go_enter Try.func42, Try.ntmps42
  go_wp2_with fail
  refine HSt.out.mono ?_
  rintro e w1 ⟨v', rfl, i1, b1⟩
  obtain ⟨a1, cap1, hv1, _, hc1⟩ := i1
  rw [natI_length, hll] at hv1 hc1
  subst hv1
  obtain ⟨b1', o1, rfl, hd1⟩ := hc1 (by omega)
  have HC := Lib.hid (fun i hi => (hd1 i hi).trans (by rw [natI_at]))
  have B1 := Lib.hid b1
  clear hc1 hd1 b1
  go_wp2
  go_loopw [3, 4, 10] (fun _ _ i wr => ∃ j : Nat, j ≤ m ∧ i = .int .i64 j ∧ w1 = wr) (fun _ _ i _ => n - (intOf i).toNat)
  case atStart => exact ⟨0, Nat.zero_le _, rfl, rfl⟩
  case round =>
    obtain ⟨j, hj, rfl, rfl⟩ := hrel
    have cj := HC.out j (by omega)
    have sj := HSl.out j
    have UJ := Lib.hid (fun hs => HU.out j (by omega) hs)
    rw [HAt.out j (by omega)] at cj
    by_cases hjm : j < m
    · have hne : stepN n ys j ≠ n / 2 := fun hs => by have := UJ.out hs; omega
      generalize stepN n ys j = s at cj sj hne
      have q : (2 * (s : Int) == (n : Int)) = false := by rw [beq_eq_false_iff_ne]; omega
      clear UJ hne
      have hjl : (j : Int) < ((n - 1 : Nat) : Int) := by omega
      go_wp2
      go_roundw
      case rel => exact ⟨j + 1, by omega, by go_num, by first | trivial | rfl⟩
      case measure => simp only [intOf]; omega
    · obtain rfl : j = m := by omega
      rw [hms] at cj
      have q : (2 * ((n / 2 : Nat) : Int) == (n : Int)) = true := by rw [beq_iff_eq]; omega
      clear UJ sj hjm
      have hfb : n / 2 ≤ 10 := by omega
      generalize n / 2 = hf at cj q hfb
      have hjl : (j : Int) < ((n - 1 : Nat) : Int) := by omega
      have hcm : ¬ cap = j + 1 := by omega
      have m1 : (0 : Int) ≤ (j : Int) + 1 := by omega
      have m2 : (j : Int) + 1 ≤ n := by omega
      have m3 : (j : Int) + 1 ≤ cap := by omega
      have hw1 : IntKind.i64.wrap ((j : Int) + 1) = (j : Int) + 1 := IntWalk.i64_in _ (by omega)
      have hn1 : ((natI ys).drop (j + 1)).length = n - (j + 1) := by rw [List.length_drop, natI_length, HLen.out]
      have hn2 : ((natI ys).take (j + 1)).length = j + 1 := by rw [List.length_take, natI_length, HLen.out]; omega
      have HN1 := Lib.hid (show (ivals ((natI ys).drop (j + 1))).length = (n - (j + 1)) * 1 by unfold ivals; rw [List.length_map, hn1, Nat.mul_one])
      have HN2 := Lib.hid (show (ivals ((natI ys).take (j + 1))).length = (j + 1) * 1 by unfold ivals; rw [List.length_map, hn2, Nat.mul_one])
      have HO1 := Lib.hid (fun (xs : List Int) (u : Value) (h : u ∈ ivals xs) => show u.oneCell' = true by
        obtain ⟨z, _, rfl⟩ := List.mem_map.1 h; rfl)
      have HS1 := Lib.hid (fun W (hW : Below w.heap.size w W) q u (hu : (ivals ((natI ys).drop (j + 1)))[q]? = some u) => show W.cell? ((⟨bb, oo + (j + 1), none⟩ : Addr).add q) = some u by
        have hq := (List.getElem?_eq_some_iff.1 hu).1
        unfold ivals at hq hu
        rw [List.length_map, hn1] at hq
        rw [add_addr, Nat.add_assoc, cell_later hW (HSrc.out (j + 1 + q) (by omega)), ← hu, List.getElem?_map, List.getElem?_drop]
        have h4 : j + 1 + q < (natI ys).length := by rw [natI_length, HLen.out]; omega
        rw [List.getElem?_eq_getElem h4, ← natI_at, List.getElem?_eq_getElem h4]; rfl)
      have HS2 := Lib.hid (fun W (hW : Below w.heap.size w W) q u (hu : (ivals ((natI ys).take (j + 1)))[q]? = some u) => show W.cell? ((⟨bb, oo, none⟩ : Addr).add q) = some u by
        have hq := (List.getElem?_eq_some_iff.1 hu).1
        unfold ivals at hq hu
        rw [List.length_map, hn2] at hq
        rw [add_addr, cell_later hW (HSrc.out q (by omega)), ← hu, List.getElem?_map, List.getElem?_take_of_lt (by omega)]
        have h4 : q < (natI ys).length := by rw [natI_length, HLen.out]; omega
        rw [List.getElem?_eq_getElem h4, ← natI_at, List.getElem?_eq_getElem h4]; rfl)
      clear hn1 hn2
      have hsz := B1.out.size
      go_wp2_with fail
      go_region_held3 (fun w' => Below w.heap.size w w') (first | exact B1.out.drew | assumption | exact (B1.out.alloc B1.out.size _).drew)
        ((first
          | (refine step_append_lies _ (by rfl) _ _ 22 (by rfl) w.heap.size 3 i0 (.int .i64 0) 1 8 Try.underlying22 hi hz0 hz1 hz2 rfl (by decide) _ _ _ (by rfl) (World.ownsRow_made (base := w.heap.size) (e := 3) (size := 1) w1.drew #[] 0 B1.out.size (Nat.zero_le _) rfl) ⟨bb, oo + (j + 1), none⟩ (n - (j + 1)) (cap - (j + 1)) (ivals ((natI ys).drop (j + 1))) (by rfl) HN1.out (HS1.out _ ((B1.out.alloc B1.out.size _).drew)) (HO1.out _) (by omega) (by unfold maxLen; omega) (by omega) (by simp; omega) (w1.heap.size + 1) (by simp) ?_; intro g1 cp1 w2 hown1 hgrow1 hat1 hlt1; have hb2 : Below w.heap.size w w2 := ((B1.out.alloc B1.out.size _).drew).grown hgrow1 (by simp; omega) (fun q e => by simp [Value.ownBlock] at e; omega))
          | (refine step_append_lies _ (by rfl) _ _ 22 (by rfl) w.heap.size 3 i0 (.int .i64 0) 1 8 Try.underlying22 hi hz0 hz1 hz2 rfl (by decide) _ _ _ (by rfl) hown1 ⟨bb, oo, none⟩ (j + 1) cap (ivals ((natI ys).take (j + 1))) (by rfl) HN2.out (HS2.out _ hb2) (HO1.out _) (by omega) (by unfold maxLen; omega) (by omega) hb2.size w2.heap.size rfl ?_; intro g2 cp2 w3 hown2 hgrow2 hat2 hlt2; have hb3 : Below w.heap.size w w3 := hb2.grown hgrow2 hb2.size (fun q e => (hown1.lt q e).1))))
      have HF := Lib.hid hown2
      have HB3 := Lib.hid hb3
      clear hown1 hown2 hb2 hb3 hgrow1 hgrow2
      go_wp2
      go_ret
      refine ⟨_, rfl, ?_, HB3.out⟩
      rw [HRes.out]
      refine IntsV.of_vals (lo := w.heap.size) (n := n - (j + 1) + (j + 1)) ?_
      have hf := HF.out
      rw [List.nil_append, Nat.zero_add] at hf
      unfold ivals at hf ⊢
      rw [List.map_append]
      exact hf
end Go.Proofs.Ytjcgbeedjdglmaa
