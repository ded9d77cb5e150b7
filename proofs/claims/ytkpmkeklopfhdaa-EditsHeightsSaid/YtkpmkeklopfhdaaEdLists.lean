/-
  The law's list and lists: copies of what is at the front of slices.
-/
import Derived.Test.YtkpmkeklopfhdaaEdScriptL
import Derived.Test.YtkpmkeklopfhdaaEdHts2
import Derived.Test.YtkpmkeklopfhdaaEdTabO
import Derived.Test.YtkpmkeklopfhdaaShelf
namespace Go.Proofs.Ytkpmkeklopfhdaa
open Go.ChangeShapes Go.WideShapes Go.ChangeAt Go.RowKit
attribute [local go_sem] Oper.semAt_some
set_option linter.unusedVariables false
set_option maxRecDepth 100000

/-- A row of integers of one's own. -/
abbrev OwnI (W : World) (lo : Nat) (v : Value) (xs : List Int) : Prop := W.ownsRow lo 3 1 v xs.length (xs.map (Value.int .i64))
theorem Clone_own (xs : List Int) (v : Value) (w : World) (hl : xs.length ≤ 1000) (h : IntsV w v xs) :
    Calls Try.prog 57 #[v] w fun e w' => ∃ v', e = .returned v' ∧ OwnI w' w.heap.size v' xs ∧ Below w.heap.size w w' := by
  obtain ⟨ao, cap, rfl, _, hc⟩ := h
  by_cases h0 : 0 < xs.length
  · obtain ⟨b, off, rfl, hd⟩ := hc h0
    refine (Try.slices_Clone_int b off xs.length cap xs w (Nat.le_refl _) (by omega) hd).mono ?_
    rintro e w' ⟨v', rfl, h1, _, h2⟩
    rw [List.take_length] at h1
    exact ⟨v', rfl, h1, h2⟩
  · obtain rfl := List.eq_nil_of_length_eq_zero (show xs.length = 0 by omega)
    cases ao with
    | none =>
      refine (Try.slices_Clone_int_nil 0 cap w).mono ?_
      rintro e w' ⟨rfl, rfl⟩
      exact ⟨_, rfl, World.ownsRow_nil _ _ _ _, Below.refl _ _⟩
    | some a =>
      refine (Try.slices_Clone_int_zero a cap w).mono ?_
      rintro e w' ⟨v', rfl, h1, _, h2⟩
      exact ⟨v', rfl, h1, h2⟩
theorem ints_cut {W : World} {xs : List Int} (k : Nat) {ao : Option Addr} {cap : Nat} (h : IntsV W (.slice ao xs.length cap) xs) : IntsV W (.slice ao (xs.take k).length cap) (xs.take k) := by
  obtain ⟨ao', cap', e, hlc, hc⟩ := h
  cases e
  refine ⟨ao, cap, rfl, by rw [List.length_take]; omega, fun h0 => ?_⟩
  rw [List.length_take] at h0
  obtain ⟨b, off, e, hd⟩ := hc (by omega)
  refine ⟨b, off, e, fun i hi => ?_⟩
  rw [List.length_take] at hi
  rw [List.getElem?_take_of_lt (by omega)]
  exact hd i (by omega)
theorem list16_any (xs : List Int) (v : Value) (w : World) (hl : xs.length ≤ maxLen) (h : IntsV w v xs) :
    Calls Try.prog 42 #[v] w fun e w' => ∃ v', e = .returned v' ∧ OwnI w' w.heap.size v' (xs.take 16) ∧ Below w.heap.size w w' := by
  have h9 := h
  obtain ⟨ao, cap, rfl, hlc, _⟩ := h9
  have HT := Lib.hid (ints_cut 16 h)
  clear h
  unfold maxLen at hl
  have h0 : 0 ≤ min (xs.length : Int) 16 := by omega
  have h2 : min (xs.length : Int) 16 ≤ cap := by omega
  have HM := Lib.hid (show (min (xs.length : Int) 16).toNat = (xs.take 16).length by rw [List.length_take]; omega)
  go_enter Try.func42, Try.ntmps42
  go_wp2_with fail
  rw [HM.out]
  have HC := Lib.hid (Clone_own (xs.take 16) (.slice ao (xs.take 16).length cap) w (by rw [List.length_take]; omega) HT.out)
  refine HC.out.mono ?_
  rintro e w1 ⟨v', rfl, h3, h4⟩
  have H3 := Lib.hid h3
  clear h3
  go_wp2
  go_ret
  exact ⟨v', rfl, H3.out, h4⟩

theorem ownI_kept {W W' : World} {row : Option Nat} {lo : Nat} {v : Value} {xs : List Int} (h : OwnI W lo v xs) (hg : W.grownBy W' row) (hrow : ∀ r, row = some r → ∃ c fz, W.heap[r]? = some (.cells c 53 fz)) : OwnI W' lo v xs := by
  refine h.kept hg ?_
  cases hv : v.ownBlock with
  | none => exact Or.inl rfl
  | some b =>
    refine Or.inr (fun e => ?_)
    obtain ⟨c, fz, hc⟩ := hrow b e.symm
    obtain ⟨c2, fz2, hc2⟩ := Lib.ownsRow_kind h b hv
    rw [hc] at hc2
    injection hc2 with hc2
    injection hc2 with _ hc2
    exact absurd hc2 (by decide)
theorem ownI_le {W : World} {lo lo' : Nat} {v : Value} {xs : List Int} (h : OwnI W lo v xs) (hl : lo' ≤ lo) : OwnI W lo' v xs := by
  obtain ⟨h0, h | ⟨g, cap, cur, h1, h2, h3⟩⟩ := h
  · exact ⟨h0, Or.inl h⟩
  · exact ⟨h0, Or.inr ⟨g, cap, cur, h1, by omega, h3⟩⟩
theorem ownI_shape {W : World} {lo : Nat} {v : Value} {xs : List Int} (h : OwnI W lo v xs) : ∃ ao n cap, v = .slice ao n cap := by
  rcases h.2 with ⟨rfl, _⟩ | ⟨g, cap, cur, rfl, _⟩ <;> exact ⟨_, _, _, rfl⟩
/-- The rows of a copy. -/
def RowsO (W : World) (lo : Nat) (t : List (List Int)) (vs : List Value) : Prop := ∀ i, i < vs.length → OwnI W lo (vs[i]?.getD .nilFunc) ((t[i]?.getD []).take 16)
theorem RowsO.later {W W' : World} {lo : Nat} {t : List (List Int)} {vs : List Value} (h : RowsO W lo t vs) (hb : Below W.heap.size W W') : RowsO W' lo t vs := fun i hi => owns_later (h i hi) hb
theorem one_oneCell {v : Value} {W : World} {lo : Nat} {xs : List Int} (h : OwnI W lo v xs) : v.oneCell' = true := by
  rcases h.2 with ⟨rfl, _⟩ | ⟨g, cap, cur, rfl, _⟩ <;> rfl
theorem tab_own {W : World} {lo lo' : Nat} {v : Value} {t : List (List Int)} {vs : List Value} (h : W.ownsRow lo 53 1 v vs.length vs) (hr : RowsO W lo' t vs) (hn : vs.length = min t.length 16) : TabV W v ((t.take 16).map (List.take 16)) := by
  have hlen : ((t.take 16).map (List.take 16)).length = vs.length := by rw [List.length_map, List.length_take, hn]; omega
  have h' := h
  obtain ⟨h0, h1 | ⟨g, cap, cur, hv, hg, hh, h2⟩⟩ := h
  · exact ⟨none, 0, by rw [hlen, h1.1, h1.2], by omega, fun h => by omega⟩
  · refine ⟨_, cap, by rw [hlen]; exact hv, by omega, fun _ => ⟨g, 0, rfl, fun i hi => ?_⟩⟩
    rw [hlen] at hi
    subst hv
    refine ⟨vs[i]?.getD .nilFunc, ?_, ?_⟩
    · rw [Nat.zero_add, h'.cellAt i (by omega), List.getElem?_eq_getElem hi]; rfl
    · have := IntsV.of_own (hr i hi)
      have e : ((t.take 16).map (List.take 16))[i]?.getD [] = (t[i]?.getD []).take 16 := by
        rw [List.getElem?_map, List.getElem?_take_of_lt (by omega), List.getElem?_eq_getElem (by omega)]; rfl
      rw [e]; exact this
theorem rowsO_app {W : World} {lo : Nat} {t : List (List Int)} {vs : List Value} {u : Value} {k : Nat} (h : RowsO W lo t vs) (hk : vs.length = k) (hu : OwnI W lo u ((t[k]?.getD []).take 16)) : RowsO W lo t (vs ++ [u]) := by
  intro i hi
  rw [List.length_append] at hi
  simp only [List.length_cons, List.length_nil] at hi
  by_cases e : i = k
  · subst e
    rw [← hk, List.getElem?_append_right (Nat.le_refl _)]
    simp only [Nat.sub_self, List.getElem?_cons_zero, Option.getD_some]
    rw [hk]; exact hu
  · rw [List.getElem?_append_left (by omega)]
    exact h i (by omega)

set_option maxHeartbeats 4000000 in
theorem lists_any (t : List (List Int)) (hl : t.length ≤ maxLen) (hr : ∀ r ∈ t, r.length ≤ maxLen) (v : Value) (w : World) (hv : TabV w v t) :
    Calls Try.prog 33 #[v] w fun e w' => ∃ v', e = .returned v' ∧ TabV w' v' ((t.take 16).map (List.take 16)) ∧ Below w.heap.size w w' := by
  obtain ⟨i0, hi, hz0, hz1, hz2⟩ := info_parts info_intsE
  obtain ⟨ao, cap, rfl, hlc, hd⟩ := hv
  have HD := Lib.hid hd
  have HR := Lib.hid hr
  have hl9 := hl
  unfold maxLen at hl9
  obtain ⟨L, hL⟩ : ∃ L, w.heap.size = L := ⟨_, rfl⟩
  have HL := Lib.hid hL
  rw [hL]
  clear hd hL hr
  go_enter Try.func33, Try.ntmps33
  go_wp2_with fail
  go_loopw [3, 4, 5, 8] (fun nv _ _ i wr => ∃ (k : Nat) (vs : List Value), k ≤ t.length ∧ i = .int .i64 k ∧ vs.length = min k 16 ∧ wr.ownsRow L 53 1 nv vs.length vs ∧ RowsO wr L t vs ∧ Below L w wr) (fun _ _ _ i _ => t.length - (intOf i).toNat)
  case atStart => exact ⟨0, [], Nat.zero_le _, rfl, rfl, World.ownsRow_nil _ _ _ _, fun i h => by simp at h, Below.refl _ _⟩
  case round =>
    obtain ⟨k, vs, hk, rfl, hvs, hown, hrow, hB⟩ := hrel
    have HOw := Lib.hid hown
    have HRo := Lib.hid hrow
    have HBr := Lib.hid hB
    have hsz : L ≤ wr.heap.size := by have := hB.size; have := HL.out; omega
    clear hown hrow
    by_cases hlk : k < t.length
    · obtain ⟨b0, off, rfl, hdd⟩ := HD.out (by omega)
      obtain ⟨rv, ck, hrv⟩ := hdd k hlk
      have hB' : Below w.heap.size w wr := by rw [HL.out]; exact hB
      replace ck := cell_later hB' ck
      have HI := Lib.hid (hrv.later hB')
      have hrl : (t[k]?.getD []).length ≤ maxLen := by rw [List.getElem?_eq_getElem hlk]; exact HR.out _ (List.getElem_mem hlk)
      obtain ⟨ao3, cap3, rfl, _, _⟩ := hrv
      clear hdd hB hB'
      by_cases h16 : k < 16
      · have hd1 : decide ((k : Int) < 16) = true := decide_eq_true (by omega)
        have hvk : vs.length = k := by omega
        have HLi := Lib.hid (list16_any (t[k]?.getD []) _ wr hrl HI.out)
        have HX := Lib.hid (fun (W : World) (u : Value) (h : RowsO W L t vs) (hu : OwnI W L u ((t[k]?.getD []).take 16)) => rowsO_app h hvk hu)
        generalize t[k]?.getD [] = xs at ck HLi HX hrl
        go_wp2_with fail
        refine HLi.out.mono ?_
        rintro e w2 ⟨v', rfl, o2, b2⟩
        obtain ⟨ao4, n4, cap4, rfl⟩ := ownI_shape o2
        have HO2 := Lib.hid (owns_later HOw.out b2)
        have HR2 := Lib.hid (HRo.out.later b2)
        have HB2 := Lib.hid (HBr.out.trans (b2.mono hsz))
        have HN := Lib.hid (ownI_le o2 hsz)
        have hs2 : L ≤ w2.heap.size := Nat.le_trans hsz b2.size
        clear b2 o2
        go_wp2_with (at_builtin; refine wpList_append_own _ rfl _ _ 47 rfl L 53 i0 (.slice none 0 0) 1 24 Try.underlying47 hi hz0 hz1 hz2 rfl (by decide) _ _ _ rfl (HO2.out.alloc _) ⟨w2.heap.size, 0, none⟩ 1 1 [.slice ao4 n4 cap4] rfl rfl ?c1 ?c2 ?c3 ?c4 ?c5 ?_)
        case c1 =>
          intro j x h
          match j, h with
          | 0, h => simp at h; subst h; simp [Addr.add]
        case c2 => simp [Value.oneCell']
        case c3 => unfold maxLen; omega
        case c4 => omega
        case c5 => simp; omega
        intro v2 w3 hown3 hgrow3 hnil3
        have HO3 := Lib.hid hown3
        have HB3 := Lib.hid ((HB2.out.alloc hs2 (.cells #[.slice ao4 n4 cap4] 53)).grown hgrow3 (by simp; omega) (fun q e => (HO2.out.lt q e).1))
        have hal := (Below.refl w2.heap.size w2).alloc (Nat.le_refl _) (.cells #[.slice ao4 n4 cap4] 53)
        have HK2 := Lib.hid (fun r (e : _ = some r) => Lib.ownsRow_kind (HO2.out.alloc (.cells #[.slice ao4 n4 cap4] 53)) r e)
        have HR3 := Lib.hid (show RowsO w3 L t vs from fun i hi => ownI_kept (owns_later (HR2.out i hi) hal) hgrow3 HK2.out)
        have HN3 := Lib.hid (ownI_kept (owns_later HN.out hal) hgrow3 HK2.out)
        have HX3 := Lib.hid (HX.out _ _ HR3.out HN3.out)
        clear hown3 hgrow3 hnil3 hal HK2
        go_wp2
        go_roundw
        case rel => exact ⟨k + 1, vs ++ [.slice ao4 n4 cap4], hlk, by go_num, by simp; omega, by rw [List.length_append, hvs]; exact HO3.out, HX3.out, HB3.out⟩
        case measure => exact meas_e hlk
      · have hd1 : decide ((k : Int) < 16) = false := decide_eq_false (by omega)
        go_wp2
        go_roundw
        case rel => exact ⟨k + 1, vs, hlk, by go_num, by omega, HOw.out, HRo.out, HBr.out⟩
        case measure => exact meas_e hlk
    · obtain rfl : k = t.length := by omega
      have HE := Lib.hid (tab_own HOw.out HRo.out hvs)
      clear hB
      go_wp2
      go_ret
      exact ⟨_, rfl, HE.out, HBr.out⟩
end Go.Proofs.Ytkpmkeklopfhdaa
