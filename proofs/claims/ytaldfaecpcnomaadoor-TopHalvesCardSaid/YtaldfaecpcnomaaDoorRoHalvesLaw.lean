/-
  The statement on the halves of a row as chords.
-/
import Derived.Test.YtaldfaecpcnomaaDoorRoTog
import Derived.Test.YtaldfaecpcnomaaDoorRoTogMath
import Derived.Test.YtaldfaecpcnomaaDoorRoEvery
import Derived.Test.YtaldfaecpcnomaaDoorZcVecFns
import Derived.Test.YtaldfaecpcnomaaDoorTones
import Derived.Deep.Cut
import Derived.Deep.CutRange
namespace Go.Proofs.YtaldfaecpcnomaaDoor
open Go.ChangeShapes Go.WideShapes Go.ChangeAt Go.RowKit
set_option linter.unusedVariables false
set_option maxRecDepth 100000

theorem umodI (x : Int) {n : Nat} (h : 0 < n) (hn : n < 17) : ∃ u : Nat, (IntKind.u64.wrap x).tmod (n : Int) = (u : Int) ∧ u < n ∧ IntKind.u64.wrap (n : Int) = (n : Int) := by
  have e : IntKind.u64.wrap x = x % 18446744073709551616 := IntKind.wrap_u64 x
  have e2 : IntKind.u64.wrap (n : Int) = (n : Int) % 18446744073709551616 := IntKind.wrap_u64 _
  obtain ⟨U, hU⟩ : ∃ U : Nat, x % 18446744073709551616 = (U : Int) := Int.eq_ofNat_of_zero_le (by omega)
  exact ⟨U % n, by rw [e, hU, Int.tmod_eq_emod_of_nonneg (by omega)]; simp, Nat.mod_lt _ h, by rw [e2]; omega⟩
theorem lt_bit {n c t : Nat} (hc : c < 2 ^ n) (h : c.testBit t = true) : t < n := by
  apply Classical.byContradiction
  intro hn
  rw [Nat.testBit_lt_two_pow (Nat.lt_of_lt_of_le hc (Nat.pow_le_pow_right (by omega) (by omega)))] at h
  cases h
theorem back_back {n k : Nat} (hk : k < n) : (n - (n - k) % n) % n = k := by
  rcases Nat.eq_zero_or_pos k with rfl | h0
  · simp
  · rw [Nat.mod_eq_of_lt (show n - k < n by omega), show n - (n - k) = k from by omega, Nat.mod_eq_of_lt hk]
theorem bit_turn {n c : Nat} (hn : 2 ≤ n) (hn2 : n ≤ 64) (hc : c < 2 ^ n) (i : Nat) : (Zc.mulN n c (-1)).testBit i = (decide (i < n) && c.testBit ((n - i) % n)) := by
  unfold Zc.mulN
  rw [testBit_orL, Bool.eq_iff_iff, Bool.and_eq_true, List.any_eq_true, decide_eq_true_eq]
  have hv : ∀ t : Nat, t < n → (((t : Int) * -1) % n).toNat = (n - t) % n := fun t ht => by
    rcases Nat.eq_zero_or_pos t with rfl | h0
    · simp
    · have e : ((t : Int) * -1) % n = (n : Int) - t := by
        rw [show (t : Int) * -1 = ((n : Int) - t) + n * (-1) by omega, Int.add_mul_emod_self_left, Int.emod_eq_of_lt (by omega) (by omega)]
      rw [e, Nat.mod_eq_of_lt (by omega)]
      omega
  constructor
  · rintro ⟨t, ht, he⟩
    have ht2 := (mem_tonesL.1 ht).2
    have htn : t < n := lt_bit hc ht2
    rw [decide_eq_true_eq, hv t htn] at he
    subst he
    refine ⟨Nat.mod_lt _ (by omega), ?_⟩
    rw [back_back htn]
    exact ht2
  · rintro ⟨hi, hb⟩
    have hl := Nat.mod_lt (n - i) (show 0 < n by omega)
    refine ⟨(n - i) % n, mem_tonesL.2 ⟨by omega, hb⟩, ?_⟩
    rw [decide_eq_true_eq, hv _ hl, back_back hi]
theorem turned_lt {n c : Nat} (hn : 2 ≤ n) : Zc.mulN n c (-1) < 2 ^ n := by
  unfold Zc.mulN
  refine orL_lt _ _ n fun t _ => ?_
  have h1 := Int.emod_nonneg ((t : Int) * -1) (show (n : Int) ≠ 0 by omega)
  have h2 := Int.emod_lt_of_pos ((t : Int) * -1) (show (0 : Int) < n by omega)
  omega
theorem intsR {W : World} {b : Nat} {xs : List Nat} (h : Row W b 3 (ints xs)) : IntsV W (.slice (some ⟨b, 0, none⟩) xs.length xs.length) (natI xs) := by
  refine ⟨_, xs.length, by rw [natI_length], by rw [natI_length]; exact Nat.le_refl _, fun _ => ⟨b, 0, rfl, fun i hi => ?_⟩⟩
  rw [natI_length] at hi
  rw [Nat.zero_add, h.cell i, ints_at hi, natI_at]
theorem mask_move {n m : Nat} {A : List Nat} (hm : m < n) (hA : ∀ y ∈ A, y < n) : maskL (A.map (fm n 0 m)) = mvN n (maskL A) m := by
  apply Nat.eq_of_testBit_eq
  intro i
  rw [mask_bit, testBit_mv hm (mask_lt hA), mask_bit, Bool.eq_iff_iff, Bool.and_eq_true, decide_eq_true_eq, decide_eq_true_eq, decide_eq_true_eq, List.mem_map]
  constructor
  · rintro ⟨y, hy, rfl⟩
    have h1 := hA y hy
    unfold fm
    rw [if_neg (by omega)]
    refine ⟨Nat.mod_lt _ (by omega), ?_⟩
    have e : ((y + m) % n + n - m) % n = y := by
      by_cases h2 : y + m < n
      · rw [Nat.mod_eq_of_lt h2, show y + m + n - m = y + n by omega, Nat.add_mod_right, Nat.mod_eq_of_lt h1]
      · rw [show y + m = (y + m - n) + n by omega, Nat.add_mod_right, Nat.mod_eq_of_lt (show y + m - n < n by omega), show y + m - n + n - m = y by omega, Nat.mod_eq_of_lt h1]
    rw [e]; exact hy
  · rintro ⟨hi, hy⟩
    refine ⟨_, hy, ?_⟩
    unfold fm
    rw [if_neg (by omega)]
    by_cases h2 : m ≤ i
    · rw [show i + n - m = (i - m) + n by omega, Nat.add_mod_right, Nat.mod_eq_of_lt (show i - m < n by omega), Nat.sub_add_cancel h2, Nat.mod_eq_of_lt hi]
    · rw [Nat.mod_eq_of_lt (show i + n - m < n by omega), show i + n - m + m = i + n by omega, Nat.add_mod_right, Nat.mod_eq_of_lt hi]
theorem mask_turn {n m : Nat} {A : List Nat} (hn : 2 ≤ n) (hn2 : n ≤ 64) (hm : m < n) (hA : ∀ y ∈ A, y < n) : maskL (A.map (fm n 1 m)) = mvN n (Zc.mulN n (maskL A) (-1)) m := by
  have h1 : maskL (A.map fun y => (n - y) % n) = Zc.mulN n (maskL A) (-1) := by
    apply Nat.eq_of_testBit_eq
    intro i
    rw [mask_bit, bit_turn hn hn2 (mask_lt hA), mask_bit, Bool.eq_iff_iff, Bool.and_eq_true, decide_eq_true_eq, decide_eq_true_eq, decide_eq_true_eq, List.mem_map]
    constructor
    · rintro ⟨y, hy, rfl⟩
      refine ⟨Nat.mod_lt _ (by omega), ?_⟩
      rw [back_back (hA y hy)]; exact hy
    · rintro ⟨hi, hy⟩
      exact ⟨_, hy, back_back hi⟩
  rw [← h1, ← mask_move hm (A := A.map fun y => (n - y) % n) (fun y hy => by obtain ⟨z, _, rfl⟩ := List.mem_map.1 hy; exact Nat.mod_lt _ (by omega)), List.map_map]
  congr 1
  refine List.map_congr_left fun y hy => ?_
  have := hA y hy
  unfold fm
  simp only [Function.comp_apply]
  rw [if_pos (by decide), if_neg (by decide), Nat.mod_add_mod]
theorem goes_mask {n : Nat} {ys : List Nat} (hr : IsRow n ys) (he : n % 2 = 0) (kd m : Nat) (hk : kd < 2) : goesB n ys (kd, m) = decide (maskL ((ys.take (n / 2)).map (fm n kd m)) = 2 ^ n - 1 - maskL (ys.take (n / 2))) := by
  rw [goes_nodup hr, decide_eq_decide]
  have hF := hr.form kd m
  have ef : formL n kd m ys = ys.map (fm n kd m) := by unfold formL; rw [if_neg (by omega)]
  rw [ef] at hF ⊢
  rw [← List.map_take]
  have hA : (ys.take (n / 2)).Nodup := hr.nd.sublist (List.take_sublist _ _)
  have hB : ((ys.take (n / 2)).map (fm n kd m)).Nodup := by rw [List.map_take]; exact hF.nd.sublist (List.take_sublist _ _)
  have hAl : ∀ y ∈ ys.take (n / 2), y < n := fun y hy => hr.lt y (List.mem_of_mem_take hy)
  have hBl : ∀ y ∈ (ys.take (n / 2)).map (fm n kd m), y < n := fun y hy => by obtain ⟨z, _, rfl⟩ := List.mem_map.1 hy; exact fm_lt hr.pos kd m z
  have hlA : (ys.take (n / 2)).length = n / 2 := by rw [List.length_take, hr.len]; omega
  have hlB : ((ys.take (n / 2)).map (fm n kd m)).length = n / 2 := by rw [List.length_map, hlA]
  generalize (ys.take (n / 2)).map (fm n kd m) = B at *
  generalize ys.take (n / 2) = A at *
  have hmA := mask_lt hAl
  have hbit : ∀ i, (2 ^ n - 1 - maskL A).testBit i = (decide (i < n) && !(decide (i ∈ A))) := fun i => by
    rw [show 2 ^ n - 1 - maskL A = 2 ^ n - (maskL A + 1) by omega, Nat.testBit_two_pow_sub_succ hmA, mask_bit]
  constructor
  · intro hnd
    apply Nat.eq_of_testBit_eq
    intro i
    rw [hbit, mask_bit, Bool.eq_iff_iff, Bool.and_eq_true, decide_eq_true_eq, decide_eq_true_eq, Bool.not_eq_true', decide_eq_false_iff_not]
    have hd := (List.nodup_append.1 hnd).2.2
    constructor
    · intro hi
      exact ⟨hBl i hi, fun ha => hd i ha i hi rfl⟩
    · rintro ⟨hi, ha⟩
      apply Classical.byContradiction
      intro hb
      have h6 := nodup_subset (l := i :: (A ++ B)) (m := List.range n) (List.nodup_cons.2 ⟨by rw [List.mem_append]; rintro (h | h); exact ha h; exact hb h, hnd⟩) (fun z hz => by
        rw [List.mem_range]
        rcases List.mem_cons.1 hz with rfl | hz
        · exact hi
        · rcases List.mem_append.1 hz with hz | hz
          · exact hAl z hz
          · exact hBl z hz)
      rw [List.length_cons, List.length_append, hlA, hlB, List.length_range] at h6
      omega
  · intro e
    rw [List.nodup_append]
    refine ⟨hA, hB, fun a ha b hb hab => ?_⟩
    subst hab
    have h1 : (maskL B).testBit a = true := by rw [mask_bit]; exact decide_eq_true hb
    rw [e, hbit, decide_eq_true ha] at h1
    simp at h1
theorem nat_beq_d (a b : Nat) : ((a : Int) == (b : Int)) = decide (a = b) := by
  by_cases e : a = b
  · rw [e, decide_eq_true rfl]; exact beq_self_eq_true _
  · rw [decide_eq_false e, beq_eq_false_iff_ne]; omega
theorem half_sub {P F S : Nat} (h : P - 1 - F = S) (hF : F < P) : (P : Int) - 1 - ((F : Nat) : Int) = ((S : Nat) : Int) ∧ S < P := by omega
theorem with_len {n : Nat} {ys : List Nat} (hn : n ≤ 10) : (withL n ys).length ≤ 64 := by
  unfold withL withN
  refine Nat.le_trans (List.length_filter_le _ _) ?_
  unfold namesL
  rw [List.length_map, List.length_range]; omega
theorem mask_card {n : Nat} {A : List Nat} (hnd : A.Nodup) (hA : ∀ y ∈ A, y < n) (hn : n ≤ 64) : (tonesL (maskL A)).length = A.length := by
  have h1 : ∀ t, t ∈ tonesL (maskL A) ↔ t ∈ A := fun t => by
    rw [mem_tonesL, mask_bit, decide_eq_true_eq]
    exact ⟨fun h => h.2, fun h => ⟨by have := hA t h; omega, h⟩⟩
  have h2 : (tonesL (maskL A)).Nodup := by
    unfold tonesL
    exact List.Nodup.sublist List.filter_sublist List.nodup_range
  have a := nodup_subset h2 (fun x hx => (h1 x).1 hx)
  have b := nodup_subset hnd (fun x hx => (h1 x).2 hx)
  omega
theorem half_vec {n : Nat} {A : List Nat} (hn : n ≤ 64) (hnd : A.Nodup) (hA : ∀ y ∈ A, y < n) (hl : 2 * A.length = n) : vecN n (2 ^ n - 1 - maskL A) = vecN n (maskL A) := by
  have hc := mask_card hnd hA hn
  apply List.ext_getElem
  · rw [vecN_length, vecN_length]
  · intro k h1 h2
    have hk : k < n / 2 := by rw [vecN_length] at h2; exact h2
    have h := Zc.vec_others hn (mask_lt hA) hk
    rw [hc, List.getElem?_eq_getElem h1, List.getElem?_eq_getElem h2] at h
    simp only [Option.getD_some] at h
    split at h <;> omega
theorem rowed_any (w : World) : Calls Tryd.prog 7 #[] w fun e w' => e = .returned (.bool true) ∧ Below w.heap.size w w' := by
  have hr : IsRow 4 [0, 1, 3, 2] := ⟨rfl, by omega, by omega, by decide, by decide⟩
  have HS := Lib.hid (fun W => Steps_ok 4 [0, 1, 3, 2] hr (.slice (some ⟨w.heap.size, 0, none⟩) 4 4) W)
  rw [show stepsL 4 [0, 1, 3, 2] = [1, 2, 3] by decide +kernel] at HS
  have HE := Lib.hid (fun a b W ha hb => by have := Equal_any (natI [1, 2, 3]) (natI [1, 2, 3]) a b W (by unfold maxLen; simp [natI]) (by unfold maxLen; simp [natI]) ha hb; rwa [show (natI [1, 2, 3] == natI [1, 2, 3]) = true from beq_self_eq_true _] at this)
  have I0 := Lib.hid (intsR (Row.new w 3 (ints [0, 1, 3, 2])))
  have HN := Lib.hid (fun W => intsR (Row.new W 3 (ints [1, 2, 3])))
  have B0 := Lib.hid ((Below.refl w.heap.size w).alloc (Nat.le_refl _) (.cells (ints [0, 1, 3, 2]).toArray 3))
  have HNb := Lib.hid (fun (W : World) => (Below.refl W.heap.size W).alloc (Nat.le_refl _) (.cells (ints [1, 2, 3]).toArray 3))
  go_enter Tryd.func7, Tryd.ntmps7
  go_wp2_with fail
  refine (HS.out _ I0.out).mono ?_
  rintro e w1 ⟨v1, rfl, i1, b1⟩
  have B1 := Lib.hid (below_nx B0.out b1)
  have I1 := Lib.hid i1
  clear i1 b1
  go_wp2_with fail
  have J1 := Lib.hid (I1.out.later (HNb.out w1))
  refine (HE.out _ _ _ J1.out (HN.out w1)).mono ?_
  rintro e w2 ⟨rfl, q, rfl⟩
  go_wp2
  go_ret
  exact ⟨rfl, below_drewN (below_nx B1.out (HNb.out w1)) q⟩
theorem row_take_rb (xs : List Int) : rowB (xs.take 13) = rowB xs := by
  by_cases h : xs.length ≤ 13
  · rw [List.take_of_length_le h]
  · unfold rowB
    rw [List.length_take, decide_eq_false (by omega), decide_eq_false (by omega)]; rfl
set_option maxHeartbeats 4000000 in
theorem TopHalves_walk (xs : List Int) (k : Int) (v : Value) (w : World) (hl : xs.length ≤ maxLen) (h : IntsV w v xs) (_wk : (Lit.int .i64 k).wf = true) (hT : Tab w) :
    Calls Tryd.prog 3 #[v, .int .i64 k] w fun e w' => e = .returned (.bool true) ∧ Below w.heap.size w w' := by
  have HAw := Lib.hid (fun W => rowed_any W)
  have HRo := Lib.hid (fun W ha => RRow_any xs v W hl ha)
  have H := Lib.hid h
  have HTk := Lib.hid (row_take_rb xs)
  obtain ⟨J, hJ⟩ : ∃ J, min xs.length 13 = J := ⟨_, rfl⟩
  have HClt := Lib.hid (fun a W ha => Clone_any (xs.take 13) a W (by rw [List.length_take]; omega) ha)
  have HUp := Lib.hid (fun ao cap (e : v = .slice ao xs.length cap) W (hW : IntsV W v xs) => show IntsV W (sliced ao 0 J cap 1) (xs.take 13) by
    have := IntsV.upto (e ▸ hW) J (by omega)
    have e2 : xs.take J = xs.take 13 := by
      rw [← hJ]
      by_cases h9 : xs.length ≤ 13
      · rw [Nat.min_eq_left h9, List.take_of_length_le (Nat.le_refl _), List.take_of_length_le h9]
      · rw [Nat.min_eq_right (by omega)]
    rw [e2] at this
    exact this)
  have hmin : min (xs.length : Int) 13 = (J : Int) := by omega
  have hJle : J ≤ xs.length := by omega
  cases hr : rowB xs
  · rw [hr] at HRo
    have HW := Lib.hid (fun a W ha => With_bad (xs.take 13) (by rw [List.length_take]; unfold maxLen; omega) (by rw [HTk.out]; exact hr) a W ha)
    obtain ⟨ao, cap, hv, hcap, _⟩ := h
    have hup := fun W => run_upto ao xs.length cap (J : Int) (by omega) (by omega) W
    simp only [Int.toNat_natCast] at hup
    have HU := Lib.hid (HUp.out ao cap hv)
    subst hv
    clear hr hl hT hJ HUp HTk
    generalize xs.length = L at *
    go_enter Tryd.func3, Tryd.ntmps3
    go_wp2_with fail
    refine (HRo.out _ H.out).mono ?_
    rintro e u1 ⟨rfl, rfl⟩
    obtain ⟨vs, hvs⟩ : ∃ u, sliced ao 0 J cap 1 = u := ⟨_, rfl⟩
    rw [hvs] at HU
    simp only [hvs] at hup
    clear hvs
    go_wp2_with fail
    refine (HClt.out _ _ (HU.out _ H.out)).mono ?_
    rintro e u2 ⟨v2, rfl, i2, b2⟩
    have C_2 := Lib.hid i2
    have B2 := Lib.hid (b2)
    clear b2 i2
    go_wp2_with fail
    refine (HW.out _ _ C_2.out).mono ?_
    rintro e u3 ⟨rfl, b3⟩
    have C_3 := Lib.hid (C_2.out.later b3)
    have B3 := Lib.hid (below_nx B2.out b3)
    clear b3
    go_wp2_with fail
    refine (HAw.out _).mono ?_
    rintro e uz ⟨rfl, bz⟩
    go_wp2
    go_ret
    exact ⟨rfl, below_nx B3.out bz⟩
  · rw [hr] at HRo
    obtain ⟨ys, rfl, hrow⟩ := row_nat hr
    rw [natI_length] at *
    generalize hn : ys.length = n at *
    have hlo := hrow.lo
    have hhi := hrow.hi
    have hJn : J = n := by omega
    subst hJn
    rw [show (natI ys).take 13 = natI ys from List.take_of_length_le (by rw [natI_length]; omega)] at HClt HUp
    by_cases ho : J % 2 = 1
    · have HW := Lib.hid (fun a W ha => With_odd J ys hrow ho a W ha)
      have t1 : (J : Int) % 2 = 1 := by omega
      have t2 : (J : Int).tmod 2 = 1 := by rw [Int.tmod_eq_emod_of_nonneg (by omega)]; exact t1
      obtain ⟨ao, cap, hv, hcap, _⟩ := h
      rw [natI_length, hn] at hv hcap
      have hup := fun W => run_upto ao J cap (J : Int) (by omega) (by omega) W
      simp only [Int.toNat_natCast] at hup
      have HU := Lib.hid (HUp.out ao cap hv)
      subst hv
      clear hr hl hT hJ HUp HTk hrow hn ho
      obtain ⟨vs, hvs⟩ : ∃ u, sliced ao 0 J cap 1 = u := ⟨_, rfl⟩
      rw [hvs] at HU
      simp only [hvs] at hup
      clear hvs
      go_enter Tryd.func3, Tryd.ntmps3
      go_wp2_with fail
      refine (HRo.out _ H.out).mono ?_
      rintro e u1 ⟨rfl, rfl⟩
      go_wp2_with fail
      refine (HClt.out _ _ (HU.out _ H.out)).mono ?_
      rintro e u2 ⟨v2, rfl, i2, b2⟩
      have C_2 := Lib.hid i2
      have B2 := Lib.hid (b2)
      clear b2 i2
      go_wp2_with fail
      refine (HW.out _ _ C_2.out).mono ?_
      rintro e u3 ⟨rfl, b3⟩
      have C_3 := Lib.hid (C_2.out.later b3)
      have B3 := Lib.hid (below_nx B2.out b3)
      clear b3
      go_wp2_with fail
      refine (HAw.out _).mono ?_
      rintro e uz ⟨rfl, bz⟩
      go_wp2
      go_ret
      exact ⟨rfl, below_nx B3.out bz⟩
    · have he : J % 2 = 0 := by omega
      have hpos : 0 < J := by omega
      have t1 : (J : Int) % 2 = 0 := by omega
      have t2 : (J : Int).tmod 2 = 0 := by rw [Int.tmod_eq_emod_of_nonneg (by omega)]; exact t1
      obtain ⟨t, ht1, ht2, hwn⟩ := umodI k hpos (by omega)
      have htm : ((t : Nat) : Int) % ((J : Nat) : Int) = ((t : Nat) : Int) := Int.emod_eq_of_lt (by omega) (by omega)
      obtain ⟨hf, hhf⟩ : ∃ hf, J / 2 = hf := ⟨_, rfl⟩
      have hfi : (J : Int) / 2 = (hf : Int) := by omega
      have h2f : 2 * hf = J := by omega
      have hAnd : (ys.take hf).Nodup := hrow.nd.sublist (List.take_sublist _ _)
      have hAl : ∀ y ∈ ys.take hf, y < J := fun y hy => hrow.lt y (List.mem_of_mem_take hy)
      have hAlen : (ys.take hf).length = hf := by rw [List.length_take, hn]; omega
      have hFl := mask_lt hAl
      have h16 : 2 ^ J ≤ 2 ^ 10 := Nat.pow_le_pow_right (by omega) hhi
      have HVa := Lib.hid (fun W (hW : Zc.Tab W) => Zc.Vector_ok J (maskL (ys.take hf)) hlo (by omega) hFl W hW)
      have HVb := Lib.hid (fun W (hW : Zc.Tab W) => Zc.Vector_ok J (2 ^ J - 1 - maskL (ys.take hf)) hlo (by omega) (by omega) W hW)
      rw [half_vec (by omega) hAnd hAl (by rw [hAlen]; omega)] at HVb
      have HWi := Lib.hid (fun a W ha => With_ok J ys hrow he a W ha)
      have HMv := Lib.hid (fun W => Zc.Move_ok J (maskL (ys.take hf)) (t : Int) hlo (by omega) hFl W)
      have HTu := Lib.hid (fun W (hW : Zc.Tab W) => Zc.Turn_ok J (maskL (ys.take hf)) hlo (by omega) hFl W hW)
      have HMt := Lib.hid (fun W => Zc.Move_ok J (Zc.mulN J (maskL (ys.take hf)) (-1)) (t : Int) hlo (by omega) (turned_lt hlo) W)
      rw [htm, Int.toNat_natCast] at HMv HMt
      have hg0 : decide ((0, t) ∈ withL J ys) = decide (mvN J (maskL (ys.take hf)) t = 2 ^ J - 1 - maskL (ys.take hf)) := by
        rw [decide_eq_decide, mem_with (0, t) (by simp) ht2, goes_mask hrow he 0 t (by omega), hhf, mask_move ht2 hAl, decide_eq_true_eq]
      have hg1 : decide ((1, t) ∈ withL J ys) = decide (mvN J (Zc.mulN J (maskL (ys.take hf)) (-1)) t = 2 ^ J - 1 - maskL (ys.take hf)) := by
        rw [decide_eq_decide, mem_with (1, t) (by simp) ht2, goes_mask hrow he 1 t (by omega), hhf, mask_turn hlo (by omega) ht2 hAl, decide_eq_true_eq]
      have HC0 := Lib.hid (fun u W hu => ContPair_any (withL J ys) (with_len hhi) 0 t u W hu)
      have HC1 := Lib.hid (fun u W hu => ContPair_any (withL J ys) (with_len hhi) 1 t u W hu)
      rw [hg0] at HC0
      rw [hg1] at HC1
      have HPo := Lib.hid (fun u (W W0 : World) (hu : W.ownsRow W0.heap.size 38 2 u (withL J ys).length (pairsV (withL J ys))) => PairsAt.of_own hu)
      have HEv := Lib.hid (fun a b W ha hb => by have := Equal_any (natI (vecN J (maskL (ys.take hf)))) (natI (vecN J (maskL (ys.take hf)))) a b W (by rw [natI_length, vecN_length]; unfold maxLen; omega) (by rw [natI_length, vecN_length]; unfold maxLen; omega) ha hb; rwa [show (natI (vecN J (maskL (ys.take hf))) == natI (vecN J (maskL (ys.take hf)))) = true from beq_self_eq_true _] at this)
      have HIv := Lib.hid (fun W x (hx : Row W x 3 (ints (vecN J (maskL (ys.take hf))))) => show IntsV W (.slice (some ⟨x, 0, none⟩) (J / 2) (J / 2)) (natI (vecN J (maskL (ys.take hf)))) by have := intsR hx; rw [vecN_length] at this; exact this)
      rw [hhf] at HIv HVa HVb
      have HTa := Lib.hid (show Zc.Tab w from hT)
      obtain ⟨ao, cap, hv, hcap, hcc⟩ := h
      rw [natI_length, hn] at hv hcap hcc
      obtain ⟨bb, bo, rfl, hcell⟩ := hcc hpos
      have HCell := Lib.hid (fun j (hj : j < hf) => show w.cell? ⟨bb, bo + j, none⟩ = some (.int .i64 ((ys[j]?.getD 0 : Nat) : Int)) by rw [hcell j (by omega), natI_at])
      have hup := fun W => run_upto (some ⟨bb, bo, none⟩) J cap (hf : Int) (by omega) (by omega) W
      simp only [Int.toNat_natCast] at hup
      rw [show sliced (some (⟨bb, bo, none⟩ : Addr)) 0 hf cap 1 = .slice (some ⟨bb, bo, none⟩) hf cap by unfold sliced; simp; intro _; rfl] at hup
      have HMs := Lib.hid (fun j (hj : j < hf) => show maskL (ys.take (j + 1)) = maskL (ys.take j) ||| (1 <<< (ys[j]?.getD 0)) by rw [List.take_succ_eq_append_getElem (show j < ys.length by omega), mask_snoc, List.getElem?_eq_getElem (show j < ys.length by omega)]; rfl)
      have HMl := Lib.hid (fun j => show maskL (ys.take j) < 2 ^ 16 from Nat.lt_of_lt_of_le (mask_lt (n := J) (fun y hy => hrow.lt y (List.mem_of_mem_take hy))) (Nat.pow_le_pow_right (by omega) (by omega)))
      have HYl := Lib.hid (fun j (hj : j < hf) => show ys[j]?.getD 0 < J by rw [List.getElem?_eq_getElem (show j < ys.length by omega)]; exact hrow.lt _ (List.getElem_mem _))
      have HM0 := Lib.hid (show maskL (ys.take 0) = 0 from rfl)
      subst hv
      have hpw := w64_pow (y := J) (by omega)
      rw [Nat.one_shiftLeft] at hpw
      clear hr hl hT hJ HUp HTk hrow hn ho he hAnd hAl hAlen hcc hcell htm hg0 hg1 hhf
      generalize vecN J (maskL (ys.take hf)) = vv at *
      generalize withL J ys = wl at *
      generalize hS : 2 ^ J - 1 - maskL (ys.take hf) = S at *
      generalize hP : 2 ^ J = P at *
      generalize mvN J (maskL (ys.take hf)) t = X0 at *
      generalize hY : Zc.mulN J (maskL (ys.take hf)) (-1) = TY at *
      generalize mvN J TY t = X1 at *
      obtain ⟨hss, hSb⟩ := half_sub hS hFl
      have hPb : P ≤ 1024 := h16
      have d0 : (((X0 : Nat) : Int) == ((S : Nat) : Int)) = decide (X0 = S) := nat_beq_d X0 S
      have d1 : (((X1 : Nat) : Int) == ((S : Nat) : Int)) = decide (X1 = S) := nat_beq_d X1 S
      obtain ⟨e0, he0⟩ : ∃ e0, decide (X0 = S) = e0 := ⟨_, rfl⟩
      obtain ⟨e1, he1⟩ : ∃ e1, decide (X1 = S) = e1 := ⟨_, rfl⟩
      rw [he0] at HC0 d0
      rw [he1] at HC1 d1
      have f0 : (e0 == e0) = true := by cases e0 <;> rfl
      have f1 : (e1 == e1) = true := by cases e1 <;> rfl
      clear hS hP hY he0 he1 h16
      go_enter Tryd.func3, Tryd.ntmps3
      go_wp2_with fail
      refine (HRo.out _ H.out).mono ?_
      rintro e u1 ⟨rfl, rfl⟩
      go_upto_region 6 with fail
      try rw [ht1]
      go_wp2_with fail
      go_loopw [58, 8] (fun i m wr => ∃ j : Nat, j ≤ hf ∧ i = .int .i64 (j : Int) ∧ m = .int .i64 ((maskL (ys.take j) : Nat) : Int) ∧ w = wr) (fun i _ _ => hf - (intOf i).toNat)
      case atStart => exact ⟨0, Nat.zero_le _, rfl, by rw [HM0.out]; rfl, rfl⟩
      case round =>
        obtain ⟨j, hj, rfl, rfl, rfl⟩ := hrel
        by_cases hlt : j < hf
        · have cj := HCell.out j hlt
          have hyl := HYl.out j hlt
          have hml := HMl.out j
          have HMj := Lib.hid (HMs.out j hlt)
          generalize ys[j]?.getD 0 = y at *
          have hol := one_shl (show y < 16 by omega)
          have HO := Lib.hid (or_nat (maskL (ys.take j)) (1 <<< y) (by omega) (by omega))
          have HWs := Lib.hid (w64_pow (show y < 16 by omega))
          generalize maskL (ys.take j) = mj at *
          clear hol
          go_wp2
          go_roundw
          case rel => exact ⟨j + 1, by omega, by go_num, by rw [HMj.out, ← HO.out, ← HWs.out], trivial⟩
          case measure => simp only [intOf]; omega
        · obtain rfl : j = hf := by omega
          generalize maskL (ys.take j) = F at *
          go_wp2_with fail
          refine (HVa.out _ HTa.out).mono ?_
          rintro e u2 ⟨r2, rfl, hr2, i2, b2⟩
          have V_2 := Lib.hid (HIv.out _ _ i2)
          have B2 := Lib.hid (b2)
          clear b2 i2 hr2
          go_wp2_with fail
          refine (HVb.out _ (HTa.out.same B2.out)).mono ?_
          rintro e u3 ⟨r3, rfl, hr3, i3, b3⟩
          have A_3 := Lib.hid (V_2.out.later b3)
          have V_3 := Lib.hid (HIv.out _ _ i3)
          have B3 := Lib.hid (below_nx B2.out b3)
          clear b3 i3 hr3
          go_wp2_with fail
          refine (HClt.out _ _ (H.out.later B3.out)).mono ?_
          rintro e u4 ⟨v4, rfl, i4, b4⟩
          have A_4 := Lib.hid (A_3.out.later b4)
          have Bv_4 := Lib.hid (V_3.out.later b4)
          have C_4 := Lib.hid i4
          have B4 := Lib.hid (below_nx B3.out b4)
          clear b4 i4
          go_wp2_with fail
          refine (HWi.out _ _ C_4.out).mono ?_
          rintro e u5 ⟨v5, rfl, i5, b5⟩
          have A_5 := Lib.hid (A_4.out.later b5)
          have Bv_5 := Lib.hid (Bv_4.out.later b5)
          have C_5 := Lib.hid (C_4.out.later b5)
          have L0_5 := Lib.hid i5
          have B5 := Lib.hid (below_nx B4.out b5)
          clear b5 i5
          have L_5 := Lib.hid (HPo.out _ _ _ L0_5.out)
          clear L0_5
          go_wp2_with fail
          refine (HEv.out _ _ _ A_5.out Bv_5.out).mono ?_
          rintro e u6 ⟨rfl, q6, rfl⟩
          obtain ⟨x6, hx6⟩ : ∃ W, u5.drewN q6 = W := ⟨_, rfl⟩
          have hb6 := below_drewN (Below.refl u5.heap.size u5) q6
          rw [hx6] at hb6 ⊢
          have L_6 := Lib.hid (L_5.out.later hb6)
          have B6 := Lib.hid (below_nx B5.out hb6)
          clear hb6 hx6
          go_wp2_with fail
          refine (HMv.out _).mono ?_
          rintro e u7 ⟨rfl, b7⟩
          have L_7 := Lib.hid (L_6.out.later b7)
          have B7 := Lib.hid (below_nx B6.out b7)
          clear b7
          go_wp2_with fail
          refine (HTu.out _ (HTa.out.same B7.out)).mono ?_
          rintro e u8 ⟨rfl, b8⟩
          have L_8 := Lib.hid (L_7.out.later b8)
          have B8 := Lib.hid (below_nx B7.out b8)
          clear b8
          go_wp2_with fail
          refine (HMt.out _).mono ?_
          rintro e u9 ⟨rfl, b9⟩
          have L_9 := Lib.hid (L_8.out.later b9)
          have B9 := Lib.hid (below_nx B8.out b9)
          clear b9
          go_wp2_with fail
          refine (HC0.out _ _ L_9.out).mono ?_
          rintro e u10 ⟨rfl, b10⟩
          have L_10 := Lib.hid (L_9.out.later b10)
          have B10 := Lib.hid (below_nx B9.out b10)
          clear b10
          go_wp2_with fail
          refine (HC1.out _ _ L_10.out).mono ?_
          rintro e u11 ⟨rfl, b11⟩
          have L_11 := Lib.hid (L_10.out.later b11)
          have B11 := Lib.hid (below_nx B10.out b11)
          clear b11
          go_wp2_with fail
          refine (HAw.out _).mono ?_
          rintro e uz ⟨rfl, bz⟩
          go_wp2
          go_ret
          exact ⟨rfl, below_nx B11.out bz⟩
end Go.Proofs.YtaldfaecpcnomaaDoor
