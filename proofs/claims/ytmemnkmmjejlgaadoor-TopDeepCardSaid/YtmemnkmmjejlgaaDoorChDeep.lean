/-
  Deep of package chords, beside package even; what a step makes is deep.
-/
import Derived.Test.YtmemnkmmjejlgaaDoorTopSumLaw
import Derived.Test.YtmemnkmmjejlgaaDoorEvBal
import Derived.Test.YtmemnkmmjejlgaaDoorEvTurnMath
import Derived.Maps.Own
import Derived.Maps.Views
import Derived.Maps.OwnOps
namespace Go.Proofs.YtmemnkmmjejlgaaDoor
open Go.RowKit Go.Shelf
attribute [local go_sem] Oper.semAt_some
set_option maxRecDepth 100000

/-- No element but nought stands among those ahead of it. -/
def deepTo (xs : List Nat) (k : Nat) : Prop := ∀ i, i < k → xs[i]?.getD 0 ≠ 0 → xs[i]?.getD 0 ∉ xs.take i

noncomputable def deepB (xs : List Nat) : Bool := @decide (deepTo xs xs.length) (Classical.propDecidable _)

theorem deepB_true {xs : List Nat} (h : deepTo xs xs.length) : deepB xs = true := by unfold deepB; exact @decide_eq_true _ (Classical.propDecidable _) h
theorem deepB_false {xs : List Nat} {i : Nat} (hi : i < xs.length) (h0 : xs[i]?.getD 0 ≠ 0) (hm : xs[i]?.getD 0 ∈ xs.take i) : deepB xs = false := by
  unfold deepB; exact @decide_eq_false _ (Classical.propDecidable _) (fun h => h i hi h0 hm)

theorem take_succ_mem {xs : List Nat} {k v : Nat} (hk : k < xs.length) : v ∈ xs.take (k + 1) ↔ (v ∈ xs.take k ∨ v = xs[k]?.getD 0) := by
  rw [List.take_succ_eq_append_getElem hk, List.mem_append, List.mem_singleton]
  simp [hk]

theorem mem_take_at {xs : List Nat} {k j : Nat} (hj : j < k) (hk : k ≤ xs.length) : xs[j]?.getD 0 ∈ xs.take k := by
  rw [List.mem_take_iff_getElem]
  exact ⟨j, by omega, by simp [show j < xs.length by omega]⟩

theorem ownsMap_below {H : Type} {P : Program} {k : TypeId} {R : Value → Option (DataW H × List MemPlace)} {w w' : World} {b n : Nat} {D : DataW H} (h : w.ownsMap P k R b n D) (hb : Below w.heap.size w w') : w'.ownsMap P k R b n D :=
  h.kept ⟨hb.os, hb.tape, hb.output, hb.size, fun i hi _ => hb.block i hi⟩ (row := none) (by simp)

theorem plainElem_bool_inv {H : Type} {P : Program} {e : TypeId} (he : P.underlying e = some .bool) {v : Value} {y : Bool} {ps : List MemPlace} (h : plainElem (H := H) P e v = some (.lit (.bool y), ps)) : v = .bool y := by
  unfold plainElem at h
  rw [he] at h
  cases v <;> simp at h
  rw [h.1]

theorem Deep_ok (n c : Nat) (h1 : 2 ≤ n) (h2 : n ≤ 16) (h3 : c < 2 ^ n) (w : World) (hT : Tab w) :
    Calls Tryd.prog 47 #[.int .i64 n, .int .i64 c] w fun e w' => e = .returned (.tuple #[.bool (deepB (vecN n c)), .int .i64 0]) ∧ Below w.heap.size w w' := by
  have HV := Lib.hid (chvalid_one n c h1 h2 h3)
  have hB : Below w.heap.size w ((w.alloc (.cells #[.int .i64 c] 3)).alloc (.map #[] 0)) := ((Below.refl _ w).alloc (Nat.le_refl _) _).alloc (by simp) _
  have HM := Lib.hid (vector_any n c h1 h2 h3 ((w.alloc (.cells #[.int .i64 c] 3)).alloc (.map #[] 0)) (hT.same hB))
  have hmm := @run_makeMap Tryd.prog
  have hown := World.ownsMap_made (w.alloc (.cells #[.int .i64 c] 3)) Tryd.prog 3 (plainElem (H := Unit) Tryd.prog 4)
  have Hl := Lib.hid (vecN_length n c)
  have Hm := Lib.hid (vecN_le n c)
  generalize vecN n c = xs at HM Hl Hm
  clear hT h3
  go_enter Tryd.func47, Tryd.ntmps47
  go_wp2_with (go_at_call 69; refine (HV.out _ _ _ (cell_at rfl)).mono ?_; rintro e w' ⟨rfl, rfl⟩)
  refine HM.out.mono ?_
  rintro e W ⟨b, rfl, hb, hr, hB2⟩
  have hown2 := ownsMap_below hown hB2
  have hB3 := hB.trans (hB2.mono (by simp; omega))
  have hs : ∀ (a b : Obj), ((w.alloc a).alloc b).heap.size = w.heap.size + 1 + 1 := fun a b => by simp
  rw [hs] at hb
  rw [World.size_alloc] at hown2
  have hMb : w.heap.size + 1 < b := by omega
  have hMw : w.heap.size ≤ w.heap.size + 1 := by omega
  clear hown hmm hB hB2 HV HM hs hb
  have HR := Lib.hid hr
  clear hr
  go_wp2_with fail
  go_loopw [8, 19] (fun _ i wr => ∃ (k : Nat) (D : DataW Unit), k ≤ n / 2 ∧ i = .int .i64 k ∧ wr.ownsMap Tryd.prog 3 (plainElem Tryd.prog 4) (w.heap.size + 1) k D ∧ Maps.IsMap D ∧
    (∀ v : Nat, D.atKey (.int .i64 v) (.lit (.bool false)) = .lit (.bool (decide (v ∈ xs.take k)))) ∧ Row wr b 3 (ints xs) ∧ deepTo xs k ∧ Below w.heap.size w wr) (fun _ i _ => n / 2 - (intOf i).toNat)
  case atStart => exact ⟨0, .map [], Nat.zero_le _, rfl, hown2, ⟨[], rfl⟩, fun v => by simp; rfl, HR.out, fun i hi => by omega, hB3⟩
  case round =>
    obtain ⟨k, D, hk, rfl, hown, hIs, hat, hr, hd, hBr⟩ := hrel
    by_cases hlt : k < n / 2
    · have hx4 := Hm.out k
      have cx := (hr.cell k).trans (ints_at (by rw [Hl.out]; exact hlt))
      have HMem := Lib.hid (fun v => take_succ_mem (xs := xs) (k := k) (v := v) (by rw [Hl.out]; exact hlt))
      have HFal := Lib.hid (fun (h0 : xs[k]?.getD 0 ≠ 0) hm => deepB_false (xs := xs) (i := k) (by rw [Hl.out]; exact hlt) h0 hm)
      have HDeep := Lib.hid (fun (h0 : xs[k]?.getD 0 = 0 ∨ xs[k]?.getD 0 ∉ xs.take k) => show deepTo xs (k + 1) from fun i hi hne => by
        by_cases h : i < k
        · exact hd i h hne
        · obtain rfl : i = k := by omega
          rcases h0 with h0 | h0
          · exact absurd h0 hne
          · exact h0)
      clear hd
      obtain ⟨x, hx⟩ : ∃ x, xs[k]?.getD 0 = x := ⟨_, rfl⟩
      rw [hx] at cx hx4 HMem HFal HDeep
      have hwf : (Lit.int .i64 (x : Int)).wf = true := by have := wrap64_wf (x : Int); rwa [IntWalk.wrap64_in _ (by omega)] at this
      obtain ⟨v, ps, hrun, hv⟩ := hown.lookup (Maps.int_keyed Tryd.underlying3) Tryd.underlying66 (z := .bool false) (by kernel_rfl) (plainElem_bool Tryd.underlying4 false) (Maps.keyOf_int_mk Tryd.underlying3 hwf)
      rw [hat x] at hv
      obtain rfl := plainElem_bool_inv Tryd.underlying4 hv
      have HAt := Lib.hid (show ∀ v : Nat, (D.put (.int .i64 x) (.lit (.bool true))).atKey (.int .i64 v) (.lit (.bool false)) = .lit (.bool (decide (v ∈ xs.take (k + 1)))) from fun v => by
        by_cases hvx : v = x
        · rw [hvx, Maps.atKey_put_same hIs (show WideAt.IsKeyLit (.int .i64 (x : Int)) from trivial), decide_eq_true ((HMem.out x).2 (Or.inr rfl))]
        · rw [Maps.atKey_put_other (fun e => hvx (by cases e; rfl)), hat v]
          congr 2
          rw [decide_eq_decide, HMem.out v]
          exact ⟨Or.inl, fun h => h.resolve_right hvx⟩)
      have HIs := Lib.hid (show Maps.IsMap (D.put (.int .i64 x) (.lit (.bool true))) from by obtain ⟨es, rfl⟩ := hIs; exact ⟨_, rfl⟩)
      have HRr := Lib.hid hr
      clear hx hv hat hr hIs
      by_cases h0 : x = 0
      · have t1 : ((x : Int) != 0) = false := by rw [bne_eq_false_iff_eq]; omega
        have HD2 := Lib.hid (HDeep.out (Or.inl h0))
        clear h0 hrun
        go_wp2_with (at_mapUpdate; refine wpList_mapUpdate_own _ rfl _ _ _ 66 rfl 3 4 (Maps.int_keyed Tryd.underlying3) Tryd.underlying66 _ (w.heap.size + 1) k _ rfl hown (by unfold maxLen; omega) _ _ _ rfl rfl (Maps.keyOf_int_mk Tryd.underlying3 hwf) _ [] (plainElem_bool Tryd.underlying4 true) ?_; intro w1 hown1 hgrow1)
        go_roundw
        case rel => exact ⟨k + 1, _, by omega, by go_num, hown1, HIs.out, HAt.out, HRr.out.grown hgrow1 (by simp; omega), HD2.out, hBr.grown hgrow1 hBr.size (fun q e => by cases e; exact hMw)⟩
        case measure => simp only [intOf]; omega
      · have t1 : ((x : Int) != 0) = true := by rw [bne_iff_ne]; omega
        by_cases hm : x ∈ xs.take k
        · rw [decide_eq_true hm] at hrun
          have F := Lib.hid (HFal.out h0 hm)
          clear h0 hm
          go_wp2
          go_ret2
          refine ⟨?_, hBr⟩
          show Ending.returned (.tuple #[.bool false, .int .i64 0]) = _
          rw [F.out]
        · rw [decide_eq_false hm] at hrun
          have HD2 := Lib.hid (HDeep.out (Or.inr hm))
          clear h0 hm
          go_wp2_with (at_mapUpdate; refine wpList_mapUpdate_own _ rfl _ _ _ 66 rfl 3 4 (Maps.int_keyed Tryd.underlying3) Tryd.underlying66 _ (w.heap.size + 1) k _ rfl hown (by unfold maxLen; omega) _ _ _ rfl rfl (Maps.keyOf_int_mk Tryd.underlying3 hwf) _ [] (plainElem_bool Tryd.underlying4 true) ?_; intro w1 hown1 hgrow1)
          go_roundw
          case rel => exact ⟨k + 1, _, by omega, by go_num, hown1, HIs.out, HAt.out, HRr.out.grown hgrow1 (by simp; omega), HD2.out, hBr.grown hgrow1 hBr.size (fun q e => by cases e; exact hMw)⟩
          case measure => simp only [intOf]; omega
    · obtain rfl : k = n / 2 := by omega
      have F := Lib.hid (deepB_true (xs := xs) (by rw [Hl.out]; exact hd))
      clear hd hat hIs hr
      go_wp2
      go_ret2
      refine ⟨?_, hBr⟩
      show Ending.returned (.tuple #[.bool true, .int .i64 0]) = _
      rw [F.out]

theorem vec_ext {n a b : Nat} (hn : n ≤ 64) (ha : a < 2 ^ n) (hb : b < 2 ^ n) (h : ∀ d, d < n → autN n a d = autN n b d) : vecN n a = vecN n b := by
  apply List.ext_getElem
  · rw [vecN_length, vecN_length]
  · intro i h1 h2
    have l1 : i < n / 2 := by rw [vecN_length] at h1; exact h1
    have e1 := aut_vec (n := n) (c := a) (d := i + 1) hn ha (by omega) (by omega)
    have e2 := aut_vec (n := n) (c := b) (d := i + 1) hn hb (by omega) (by omega)
    rw [h (i + 1) (by omega), e2] at e1
    rw [Nat.add_sub_cancel, List.getElem?_eq_getElem h1, List.getElem?_eq_getElem h2] at e1
    simp only [Option.getD_some] at e1
    split at e1 <;> omega


/-! ### what a step makes -/

def bitK (s t : Nat) : Nat := Nat.mod (Nat.shiftRight s t) 2
theorem bitK_eq (s t : Nat) : bitK s t = bI s t := by
  unfold bitK bI
  rw [show Nat.mod (Nat.shiftRight s t) 2 = (s >>> t) % 2 from rfl, Nat.shiftRight_eq_div_pow, Nat.testBit_eq_decide_div_mod_eq]
  have := Nat.mod_two_eq_zero_or_one (s / 2 ^ t)
  rcases this with h | h <;> simp [h]
def autK (n s d : Nat) : Nat → Nat
  | 0 => 0
  | t + 1 => Nat.add (autK n s d t) (Nat.mul (bitK s t) (bitK s (Nat.mod (Nat.add t d) n)))
theorem autK_eq (n s d : Nat) : autK n s d n = autN n s d := by
  have h : ∀ t, autK n s d t = sumN t (fun t => bI s t * bI s ((t + d) % n)) := by
    intro t
    induction t with
    | zero => rfl
    | succ t ih =>
      show autK n s d t + bitK s t * bitK s ((t + d) % n) = _
      rw [ih, bitK_eq, bitK_eq]; rfl
  exact h n
def cardK (s : Nat) : Nat → Nat
  | 0 => 0
  | t + 1 => Nat.add (cardK s t) (bitK s t)
theorem cardK_eq (n s : Nat) : cardK s n = (tonesB n s).length := by
  rw [tonesB_card]
  induction n with
  | zero => rfl
  | succ n ih =>
    show cardK s n + bitK s n = sumN n (bI s) + bI s n
    rw [ih, bitK_eq]

/-- Twice what the vector holds at a distance. -/
def vecK (n s d : Nat) : Nat := if Nat.beq (Nat.mul 2 d) n = true then autK n s d n else Nat.mul 2 (autK n s d n)
theorem vecK_eq {n s d : Nat} (hn : n ≤ 64) (hs : s < 2 ^ n) (hd : 1 ≤ d) (hd2 : 2 * d ≤ n) : vecK n s d = 2 * (vecN n s)[d - 1]?.getD 0 := by
  unfold vecK
  rw [autK_eq, aut_vec hn hs hd hd2]
  by_cases h : 2 * d = n
  · rw [if_pos (by rw [show Nat.mul 2 d = n from h]; exact Nat.beq_refl _), if_pos h]
  · have hx : ¬ (Nat.mul 2 d).beq n = true := fun h2 => h (Nat.eq_of_beq_eq_true h2)
    rw [if_neg hx, if_neg h]; rfl

def deepK (n s : Nat) : Bool := allLt (fun i => Bool.or (Nat.beq (vecK n s (Nat.add i 1)) 0) (allLt (fun j => Bool.not (Nat.beq (vecK n s (Nat.add j 1)) (vecK n s (Nat.add i 1)))) i)) (Nat.div n 2)
def deepChk : Bool := allLt (fun n => Bool.or (Nat.ble n 1) (allLt (fun k => Bool.or (Nat.beq k 0) (Bool.or (Nat.ble (Nat.add (Nat.div n 2) 2) k) (allLt (fun g => Bool.or (Bool.not (Nat.beq (Nat.gcd g n) 1)) (Bool.and (Nat.beq (cardK (mkK n g 0 k) n) k) (deepK n (mkK n g 0 k)))) n))) (Nat.add n 1))) 17
theorem deepChk_true : deepChk = true := by decide +kernel

theorem step_deep {n k g : Nat} (h1 : 2 ≤ n) (h2 : n ≤ 16) (h3 : 1 ≤ k) (h4 : k ≤ n) (h5 : k ≤ n / 2 + 1) (hg : g < n) (hg1 : Nat.gcd g n = 1) :
    (tonesB n (mkN n g k 0)).length = k ∧ deepTo (vecN n (mkN n g k 0)) (n / 2) := by
  have c1 := allLt_spec _ _ deepChk_true n (by omega)
  have c2 := (Bool.or_eq_true_iff.1 (show (_ || _) = true from c1)).resolve_left (fun h => by have := Nat.le_of_ble_eq_true h; omega)
  have c3 := allLt_spec _ _ c2 k (by show k < n + 1; omega)
  have c4 := (Bool.or_eq_true_iff.1 (show (_ || _) = true from c3)).resolve_left (fun h => by have := Nat.eq_of_beq_eq_true h; omega)
  have c5 := (Bool.or_eq_true_iff.1 (show (_ || _) = true from c4)).resolve_left (fun h => by have h6 : n / 2 + 2 ≤ k := Nat.le_of_ble_eq_true h; omega)
  have c6 := allLt_spec _ _ c5 g hg
  have c7 := (Bool.or_eq_true_iff.1 (show (_ || _) = true from c6)).resolve_left (fun h => by rw [hg1] at h; cases h)
  obtain ⟨c8, c9⟩ := Bool.and_eq_true_iff.1 (show (_ && _) = true from c7)
  have e := mkK_eq n g k 0
  rw [e] at c8 c9
  have hs : mkN n g k 0 < 2 ^ n := mkN_lt (by omega)
  refine ⟨by rw [← cardK_eq]; exact Nat.eq_of_beq_eq_true c8, fun i hi h0 hm => ?_⟩
  have d1 := allLt_spec _ _ c9 i hi
  have hvi := vecK_eq (n := n) (d := i + 1) (by omega) hs (by omega) (by omega)
  rw [Nat.add_sub_cancel] at hvi
  rcases Bool.or_eq_true_iff.1 (show (_ || _) = true from d1) with d2 | d2
  · have d3 : vecK n (mkN n g k 0) (i + 1) = 0 := Nat.eq_of_beq_eq_true d2
    omega
  · rw [List.mem_take_iff_getElem] at hm
    obtain ⟨j, hj, hje⟩ := hm
    have hj1 : j < i := by omega
    have d3 := allLt_spec _ _ d2 j hj1
    have hvj := vecK_eq (n := n) (d := j + 1) (by omega) hs (by omega) (by omega)
    rw [Nat.add_sub_cancel] at hvj
    have hje2 : (vecN n (mkN n g k 0))[j]?.getD 0 = (vecN n (mkN n g k 0))[i]?.getD 0 := by
      rw [List.getElem?_eq_getElem (by omega), Option.getD_some]; exact hje
    have d4 : vecK n (mkN n g k 0) (j + 1) = vecK n (mkN n g k 0) (i + 1) := by omega
    have d5 : (!(Nat.beq (vecK n (mkN n g k 0) (j + 1)) (vecK n (mkN n g k 0) (i + 1)))) = true := d3
    rw [d4, Nat.beq_refl] at d5
    cases d5

/-- What a step makes, from any tone on. -/
theorem made_deep {n k g c : Nat} (h1 : 2 ≤ n) (h2 : n ≤ 16) (h3 : 1 ≤ k) (h4 : k ≤ n) (h5 : k ≤ n / 2 + 1) (hg : g < n) (hg0 : 1 ≤ g) (hc : c < n) (hg1 : Nat.gcd g n = 1) :
    1 ≤ mkN n g k c ∧ deepB (vecN n (mkN n g k c)) = true ∧ ∃ g', 1 ≤ g' ∧ g' < n ∧ makesB n g' (mkN n g k c) = true := by
  obtain ⟨e1, e2⟩ := step_deep h1 h2 h3 h4 h5 hg hg1
  have hs : mkN n g k 0 < 2 ^ n := mkN_lt (by omega)
  have hm := mkN_move (n := n) (g := g) (k := k) (c := 0) (u := c) (by omega) hc
  rw [Nat.zero_add, Nat.mod_eq_of_lt hc] at hm
  have hcard : (tonesB n (mkN n g k c)).length = k := by rw [hm, card_mv hs hc, e1]
  have hv : vecN n (mkN n g k c) = vecN n (mkN n g k 0) := by
    rw [hm]
    exact vec_ext (by omega) mv_lt hs (fun d _ => aut_mv hs hc)
  refine ⟨card_pos1 (n := n) (by omega), ?_, g, hg0, hg, ?_⟩
  · rw [hv]
    apply deepB_true
    rw [vecN_length]
    exact e2
  · rw [makesB_iff (by omega), hcard]
    exact ⟨c, hc, rfl⟩

end Go.Proofs.YtmemnkmmjejlgaaDoor
