/-
  The statement on products undone.
-/
import Derived.Test.YtlmfmfbnbbooaaaWhDivide
import Derived.Test.YtlmfmfbnbbooaaaWhSpectraLaw
import Derived.Test.YtlmfmfbnbbooaaaRoCut
namespace Go.Proofs.Ytlmfmfbnbbooaaa
open Go.ChangeShapes Go.WideShapes Go.ChangeAt Go.RowKit
set_option linter.unusedVariables false
set_option maxRecDepth 100000

theorem run_makeV (k : Nat) (hk : k ≤ 65536) (W : World) : (Instr.makeSlice 22 (.int .i64 (k : Int)) (.int .i64 (k : Int))).run Try.prog W = .ok (.slice (some ⟨W.heap.size, 0, none⟩) k k) (W.alloc (.cells (ints (List.replicate k 0)).toArray 3)) := by
  rw [← madeCells_ints]
  exact run_make_row' 22 3 (.int .i64 0) 8 Try.underlying22 (by kernel_rfl) rfl .i64 .i64 k (by omega) (by omega) W
theorem ints_ivV {W : World} {b : Nat} {xs : List Nat} (h : Row W b 3 (ints xs)) : IntsV W (.slice (some ⟨b, 0, none⟩) xs.length xs.length) (natI xs) := by
  refine ⟨_, xs.length, by rw [natI_len], by rw [natI_len]; exact Nat.le_refl _, fun _ => ⟨b, 0, rfl, fun i hi => ?_⟩⟩
  rw [natI_len] at hi
  rw [Nat.zero_add, h.cell i, ints_at hi]
  unfold natI
  rw [List.getElem?_map]
  cases e : xs[i]? with
  | none => rw [List.getElem?_eq_none_iff] at e; omega
  | some x => rfl

theorem rep_tabV (m : Nat) : List.replicate m 0 = tabN m (fun _ => 0) := by
  apply List.ext_getElem
  · rw [tabN_length]; simp
  · intro i h1 h2; simp [tabN]
theorem idx_neV {T : Nat} : ∀ {l : List Nat} {j : Nat}, j < l.idxOf T → (some l[j]?).isSome = true → l[j]?.getD 0 = T → j < l.length → False
  | [], j, h, _, _, hj => by simp at hj
  | x :: l, j, h, _, e, hj => by
    rw [List.idxOf_cons] at h
    cases hx : x == T
    · rw [hx] at h
      simp only [cond_false] at h
      cases j with
      | zero => simp at e; rw [e] at hx; simp at hx
      | succ j => exact idx_neV (l := l) (j := j) (show j < l.idxOf T by omega) rfl (by simpa using e) (by simpa using hj)
    · rw [hx] at h
      simp at h
theorem idx_casesV (l : List Nat) (T : Nat) : (Lib.idxOf (natI l) (T : Int) < 0 ∧ T ∉ l) ∨ ∃ i, i < l.length ∧ Lib.idxOf (natI l) (T : Int) = (i : Int) ∧ l[i]?.getD 0 = T := by
  by_cases h : T ∈ l
  · right
    have h1 := List.idxOf_lt_length_iff.2 h
    have hg : l[l.idxOf T]?.getD 0 = T := by rw [List.getElem?_eq_getElem h1]; exact List.getElem_idxOf h1
    refine ⟨l.idxOf T, h1, ?_, hg⟩
    have e := Lib.idxOf_hit (natI l) l.length (l.idxOf T) (T : Int) h1 (by rw [natI_len]; exact Nat.le_refl _) (by
      rw [List.getD_eq_getElem?_getD, natI_at, hg]) (fun j hj => by
      rw [List.getD_eq_getElem?_getD, natI_at]
      intro hh
      have hj2 : l[j]?.getD 0 = T := by omega
      exact idx_neV hj rfl hj2 (by omega))
    rw [List.take_of_length_le (by rw [natI_len]; exact Nat.le_refl _)] at e
    exact e
  · left
    refine ⟨?_, h⟩
    have e := Lib.idxOf_miss (natI l) l.length (T : Int) (fun j hj => by
      rw [List.getD_eq_getElem?_getD, natI_at]
      intro hh
      have hj2 : l[j]?.getD 0 = T := by omega
      rw [List.getElem?_eq_getElem hj] at hj2
      exact h (hj2 ▸ List.getElem_mem hj))
    rw [List.take_of_length_le (by rw [natI_len]; exact Nat.le_refl _)] at e
    rw [e]; decide

theorem iv_all : ∀ n : Nat, n < 17 → 2 ≤ n → ∀ x : Nat, x < qN n → 0 < x → x * ivN n x % qN n = 1 := by decide +kernel
theorem iv_one {n x : Nat} (h : Circ n) (hx : x < qN n) (h0 : x ≠ 0) : Md (qN n) (x * ivN n x) 1 := by
  unfold Md
  rw [iv_all n h.2 h.1 x hx (by omega), Nat.mod_eq_of_lt (by have := h.n_lt; have := h.1; omega)]
theorem zero_whV {n : Nat} (h : Circ n) : IsWh n zeroF := ⟨fun _ => h.q_pos, fun _ _ => rfl⟩
theorem spec_zero {n : Nat} (h : Circ n) : spF n zeroF = zeroF := by
  refine (sp_wh h _).eq (zero_whV h) fun k hk => ?_
  refine (sp_md hk _).trans ?_
  have : ∀ m, sumN m (fun x => zeroF x * wN n ^ (k * x)) = 0 := fun m => by
    induction m with
    | zero => rfl
    | succ m ih => show sumN m _ + zeroF m * _ = 0; rw [ih]; show 0 + 0 * _ = 0; rw [Nat.zero_mul]
  rw [this]; rfl
theorem undone {n : Nat} (h : Circ n) {g f : Nat → Nat} (hf : IsWh n f) (hz : ∀ k, k < n → spF n g k ≠ 0) : baF n (piF n (spF n (tiF n g f)) (ivF n (spF n g))) = f := by
  have e : piF n (spF n (tiF n g f)) (ivF n (spF n g)) = spF n f := by
    refine (pi_wh h _ (iv_wh h _)).eq (sp_wh h f) fun k hk => ?_
    unfold piF
    rw [conv h hk]
    unfold ivF
    rw [if_pos hk]
    refine (Md.mod _ _).trans (((Md.mod _ _).mul (Md.refl _ _)).trans ?_)
    rw [Nat.mul_comm (spF n g k) (spF n f k), Nat.mul_assoc]
    exact ((Md.refl _ _).mul (iv_one h ((sp_wh h g).lt k) (hz k hk))).trans (Md.of_eq (Nat.mul_one _))
  rw [e, back_spec h hf]
def oneF (a x : Nat) : Nat := if x = a then 1 else 0
theorem one_wh {n a : Nat} (h : Circ n) (ha : a < n) : IsWh n (oneF a) :=
  ⟨fun x => by have := h.n_lt; have := h.1; unfold oneF; split <;> omega, fun x hx => by unfold oneF; rw [if_neg (by omega)]⟩
theorem silentW {n a : Nat} (h : Circ n) (ha : a < n) {g : Nat → Nat} (hz : spF n g a = 0) : tiF n g (baF n (oneF a)) = zeroF := by
  refine spec_inj h (ti_wh h _ _) (zero_whV h) fun k hk => ?_
  rw [conv h hk, spec_back h (one_wh h ha), spec_zero h]
  unfold oneF zeroF
  by_cases e : k = a
  · rw [e, hz, Nat.zero_mul, Nat.zero_mod]
  · rw [if_neg e, Nat.mul_zero, Nat.zero_mod]
theorem back_not {n a : Nat} (h : Circ n) (ha : a < n) : tabN n (baF n (oneF a)) ≠ tabN n zeroF := by
  intro e
  have e2 : baF n (oneF a) = zeroF := by rw [← ofL_tab (ba_wh h (oneF a)), e, ofL_tab (zero_whV h)]
  have e3 := spec_back h (one_wh h ha)
  rw [e2, spec_zero h] at e3
  have := congrFun e3 a
  simp [zeroF, oneF] at this
theorem one_tab {n a : Nat} (ha : a < n) : (List.replicate n 0).set a 1 = tabN n (oneF a) := by
  rw [rep_tabV, tabN_set ha]
  rfl
theorem zeros_no {n : Nat} {f : Nat → Nat} (h : ∀ k, k < n → f k ≠ 0) : zeN f n = 0 := by
  apply Nat.eq_of_testBit_eq
  intro i
  rw [zeN_bit, Nat.zero_testBit]
  by_cases hi : i < n
  · have := h i hi
    simp [this]
  · simp [hi]
theorem zeros_some {n a : Nat} {f : Nat → Nat} (ha : a < n) (h : f a = 0) : zeN f n ≠ 0 := by
  intro e
  have := zeN_bit f a n
  rw [e, Nat.zero_testBit, h] at this
  simp [ha] at this
theorem natI_neq {a b : List Nat} (h : a ≠ b) : (natI a == natI b) = false := by
  rw [beq_eq_false_iff_ne]
  exact fun e => h (natI_inj e)

set_option maxHeartbeats 4000000 in
theorem WheelsUndone_walk (n : Int) (xs ys : List Int) (v u : Value) (w : World) (_wf : (Lit.int .i64 n).wf = true) (hl : xs.length ≤ maxLen) (h : IntsV w v xs) (hm' : ys.length ≤ maxLen) (h' : IntsV w u ys) :
    Calls Try.prog 6 #[.int .i64 n, v, u] w fun e w' => e = .returned (.bool true) ∧ Below w.heap.size w w' := by
  have HAw := Lib.hid (fun W => wawake_any W)
  have HLf := Lib.hid (fun W (h : IntsV W v xs) => wlist_any xs v W hl h)
  have HLg := Lib.hid (fun W (h : IntsV W u ys) => wlist_any ys u W hm' h)
  have HRf := Lib.hid (fun W (h : IntsV W v xs) => RWheel_any n xs v W hl h)
  have HRg := Lib.hid (fun W (h : IntsV W u ys) => RWheel_any n ys u W hm' h)
  have HV := Lib.hid h
  have HU := Lib.hid h'
  by_cases hbb : (circB n && wheelB n.toNat xs) = true ∧ (circB n && wheelB n.toNat ys) = true
  · obtain ⟨hb, hb2⟩ := hbb
    rw [hb] at HRf
    rw [hb2] at HRg
    obtain ⟨m, l, rfl, rfl, hm, hw⟩ := good1 hb
    obtain ⟨m', l2, hmm, rfl, _, hx⟩ := good1 hb2
    have hx : WhL m l2 := by rw [show m = m' by omega]; exact hx
    rw [hw.take hm] at HLf
    rw [hx.take hm] at HLg
    have hm0 := hm.pos
    have hm17 := hm.2
    have hf := hw.wh hm
    have hg := hx.wh hm
    have HT := Lib.hid (fun a b W (h : IntsV W a (natI l)) (k : IntsV W b (natI l2)) => Times_ok m hm l l2 hw hx a b W h k)
    have HS := Lib.hid (fun a W (h : IntsV W a (natI l)) => Spectrum_ok m hm l hw a W h)
    have HCl := Lib.hid (fun f a W (h : IntsV W a (natI (tabN m f))) => Clone_any (natI (tabN m f)) a W (by rw [natI_len, tabN_length]; omega) h)
    have HIx := Lib.hid (fun a W (h : IntsV W a (natI (tabN m (spF m (ofL l))))) => by have := Index_any (natI (tabN m (spF m (ofL l)))) a ((0 : Nat) : Int) W (tab_max hm _) h; exact this)
    have HSv := Lib.hid (fun (v : Value) (W : World) (f : Nat → Nat) (h : IntsV W v (natI (tabN m f))) => show ∃ a c, v = .slice a m c by obtain ⟨a, c, e, _⟩ := h; rw [natI_len, tabN_length] at e; exact ⟨a, c, e⟩)
    rcases idx_casesV (tabN m (spF m (ofL l))) 0 with ⟨hlt0, hno⟩ | ⟨i, hi, hidx, hzi⟩
    · have hz : ∀ k, k < m → spF m (ofL l) k ≠ 0 := fun k hk e => hno (by unfold tabN; exact List.mem_map.2 ⟨k, List.mem_range.2 hk, e⟩)
      have HD := Lib.hid (fun a b W (h : IntsV W a (natI (tabN m (tiF m (ofL l) (ofL l2))))) (k : IntsV W b (natI l)) => by
        have := Divide_ok m hm _ l (WhL.tab (ti_wh hm (ofL l) (ofL l2))) hw (zeros_no hz) a b W h k
        rw [ofL_tab (ti_wh hm _ _), undone hm hg hz, hx.taf] at this
        exact this)
      have HE := Lib.hid (fun a b W ha hb => by have := Equal_any (natI l2) (natI l2) a b W (hx.max hm) (hx.max hm) ha hb; rwa [show (natI l2 == natI l2) = true from beq_self_eq_true _] at this)
      have ix1 : decide (Lib.idxOf (natI (tabN m (spF m (ofL l)))) ((0 : Nat) : Int) < 0) = true := decide_eq_true hlt0
      generalize Lib.idxOf (natI (tabN m (spF m (ofL l)))) ((0 : Nat) : Int) = ix at *
      obtain ⟨ao, cap, hv, _⟩ := h
      obtain ⟨bo, cap', hu, _⟩ := h'
      subst hv hu
      clear hb hb2 hl hm' hm hw hx hf hg hmm hz hno hlt0
      go_enter Try.func6, Try.ntmps6
      go_wp2_with fail
      refine (HLf.out _ HV.out).mono ?_
      rintro e u1 ⟨v1, rfl, i1, b1⟩
      have L_1 := Lib.hid i1
      have B1 := Lib.hid (b1)
      clear b1 i1
      go_wp2_with fail
      refine (HLg.out _ (HU.out.later B1.out)).mono ?_
      rintro e u2 ⟨v2, rfl, i2, b2⟩
      have L_2 := Lib.hid (L_1.out.later b2)
      have M_2 := Lib.hid i2
      have B2 := Lib.hid (below_nx B1.out b2)
      clear b2 i2
      go_wp2_with fail
      refine (HT.out _ _ _ L_2.out M_2.out).mono ?_
      rintro e u3 ⟨v3, rfl, i3, b3⟩
      have L_3 := Lib.hid (L_2.out.later b3)
      have M_3 := Lib.hid (M_2.out.later b3)
      have P_3 := Lib.hid i3
      have B3 := Lib.hid (below_nx B2.out b3)
      clear b3 i3
      go_wp2_with fail
      refine (HRf.out _ (HV.out.later B3.out)).mono ?_
      rintro e u4 ⟨rfl, rfl⟩
      go_wp2_with fail
      refine (HRg.out _ (HU.out.later B3.out)).mono ?_
      rintro e u5 ⟨rfl, rfl⟩
      go_wp2_with fail
      refine (HCl.out _ _ _ P_3.out).mono ?_
      rintro e u6 ⟨v6, rfl, i6, b6⟩
      have P_6 := Lib.hid (P_3.out.later b6)
      have C_6 := Lib.hid i6
      have B6 := Lib.hid (below_nx B3.out b6)
      clear b6 i6
      go_wp2_with fail
      refine (HLf.out _ (HV.out.later B6.out)).mono ?_
      rintro e u7 ⟨v7, rfl, i7, b7⟩
      have C_7 := Lib.hid (C_6.out.later b7)
      have L_7 := Lib.hid i7
      have B7 := Lib.hid (below_nx B6.out b7)
      clear b7 i7
      go_wp2_with fail
      refine (HD.out _ _ _ C_7.out L_7.out).mono ?_
      rintro e u8 ⟨v8, rfl, i8, b8⟩
      have C_8 := Lib.hid (C_7.out.later b8)
      have L_8 := Lib.hid (L_7.out.later b8)
      have D_8 := Lib.hid i8
      have B8 := Lib.hid (below_nx B7.out b8)
      clear b8 i8
      go_wp2_with fail
      refine (HLf.out _ (HV.out.later B8.out)).mono ?_
      rintro e u9 ⟨v9, rfl, i9, b9⟩
      have D_9 := Lib.hid (D_8.out.later b9)
      have L2_9 := Lib.hid i9
      have B9 := Lib.hid (below_nx B8.out b9)
      clear b9 i9
      go_wp2_with fail
      refine (HS.out _ _ L2_9.out).mono ?_
      rintro e u10 ⟨v10, rfl, i10, b10⟩
      have D_10 := Lib.hid (D_9.out.later b10)
      have L2_10 := Lib.hid (L2_9.out.later b10)
      have A_10 := Lib.hid i10
      have B10 := Lib.hid (below_nx B9.out b10)
      clear b10 i10
      obtain ⟨aa, ca, ea⟩ := HSv.out _ _ _ A_10.out
      subst ea
      go_wp2_with fail
      refine (HIx.out _ _ A_10.out).mono ?_
      rintro e u11 ⟨rfl, rfl⟩
      go_wp2_with fail
      refine (HE.out _ _ _ D_10.out (HU.out.later B10.out)).mono ?_
      rintro e ue ⟨rfl, qe, rfl⟩
      have Be := Lib.hid (bl_drewN B10.out qe)
      generalize hwq : World.drewN _ qe = uq at *
      clear hwq
      go_wp2_with fail
      refine (HAw.out _).mono ?_
      rintro e uz ⟨rfl, bz⟩
      go_wp2
      go_ret
      exact ⟨rfl, below_nx Be.out bz⟩
    · have him : i < m := by rw [tabN_length] at hi; exact hi
      rw [tabN_at him] at hzi
      have HD := Lib.hid (fun a b W (h : IntsV W a (natI (tabN m (tiF m (ofL l) (ofL l2))))) (k : IntsV W b (natI l)) => Divide_state m hm _ l (WhL.tab (ti_wh hm (ofL l) (ofL l2))) hw (zeros_some him hzi) a b W h k)
      have HBk := Lib.hid (fun a W (h : IntsV W a (natI (tabN m (oneF i)))) => by
        have := Back_ok m hm _ (WhL.tab (one_wh hm him)) a W h
        rw [ofL_tab (one_wh hm him)] at this
        exact this)
      have HT2 := Lib.hid (fun a b W (h : IntsV W a (natI l)) (k : IntsV W b (natI (tabN m (baF m (oneF i))))) => by
        have := Times_ok m hm l _ hw (WhL.tab (ba_wh hm (oneF i))) a b W h k
        rw [ofL_tab (ba_wh hm _), silentW hm him hzi] at this
        exact this)
      have HE1 := Lib.hid (fun a b W ha hb => by have := Equal_any (natI (tabN m (baF m (oneF i)))) (natI (tabN m zeroF)) a b W (tab_max hm _) (tab_max hm _) ha hb; rwa [natI_neq (back_not hm him)] at this)
      have HE2 := Lib.hid (fun a b W ha hb => by have := Equal_any (natI (tabN m zeroF)) (natI (tabN m zeroF)) a b W (tab_max hm _) (tab_max hm _) ha hb; rwa [show (natI (tabN m zeroF) == natI (tabN m zeroF)) = true from beq_self_eq_true _] at this)
      have HRep := Lib.hid (rep_tabV m)
      have HOne := Lib.hid (one_tab him)
      have HSl := Lib.hid (fun W b (f : Nat → Nat) (h : Row W b 3 (ints (tabN m f))) => show IntsV W (.slice (some ⟨b, 0, none⟩) m m) (natI (tabN m f)) by have := ints_ivV h; rw [tabN_length] at this; exact this)
      have hmk := run_makeV m (by omega)
      rw [hidx] at HIx
      obtain ⟨ao, cap, hv, _⟩ := h
      obtain ⟨bo, cap', hu, _⟩ := h'
      subst hv hu
      clear hb hb2 hl hm' hm hw hx hf hg hmm hidx hzi hi
      go_enter Try.func6, Try.ntmps6
      go_wp2_with fail
      refine (HLf.out _ HV.out).mono ?_
      rintro e u1 ⟨v1, rfl, i1, b1⟩
      have L_1 := Lib.hid i1
      have B1 := Lib.hid (b1)
      clear b1 i1
      go_wp2_with fail
      refine (HLg.out _ (HU.out.later B1.out)).mono ?_
      rintro e u2 ⟨v2, rfl, i2, b2⟩
      have L_2 := Lib.hid (L_1.out.later b2)
      have M_2 := Lib.hid i2
      have B2 := Lib.hid (below_nx B1.out b2)
      clear b2 i2
      go_wp2_with fail
      refine (HT.out _ _ _ L_2.out M_2.out).mono ?_
      rintro e u3 ⟨v3, rfl, i3, b3⟩
      have L_3 := Lib.hid (L_2.out.later b3)
      have M_3 := Lib.hid (M_2.out.later b3)
      have P_3 := Lib.hid i3
      have B3 := Lib.hid (below_nx B2.out b3)
      clear b3 i3
      go_wp2_with fail
      refine (HRf.out _ (HV.out.later B3.out)).mono ?_
      rintro e u4 ⟨rfl, rfl⟩
      go_wp2_with fail
      refine (HRg.out _ (HU.out.later B3.out)).mono ?_
      rintro e u5 ⟨rfl, rfl⟩
      go_wp2_with fail
      refine (HCl.out _ _ _ P_3.out).mono ?_
      rintro e u6 ⟨v6, rfl, i6, b6⟩
      have P_6 := Lib.hid (P_3.out.later b6)
      have C_6 := Lib.hid i6
      have B6 := Lib.hid (below_nx B3.out b6)
      clear b6 i6
      go_wp2_with fail
      refine (HLf.out _ (HV.out.later B6.out)).mono ?_
      rintro e u7 ⟨v7, rfl, i7, b7⟩
      have C_7 := Lib.hid (C_6.out.later b7)
      have L_7 := Lib.hid i7
      have B7 := Lib.hid (below_nx B6.out b7)
      clear b7 i7
      go_wp2_with fail
      refine (HD.out _ _ _ C_7.out L_7.out).mono ?_
      rintro e u8 ⟨rfl, b8⟩
      have C_8 := Lib.hid (C_7.out.later b8)
      have L_8 := Lib.hid (L_7.out.later b8)
      have B8 := Lib.hid (below_nx B7.out b8)
      clear b8
      go_wp2_with fail
      refine (HLf.out _ (HV.out.later B8.out)).mono ?_
      rintro e u9 ⟨v9, rfl, i9, b9⟩
      have L2_9 := Lib.hid i9
      have B9 := Lib.hid (below_nx B8.out b9)
      clear b9 i9
      go_wp2_with fail
      refine (HS.out _ _ L2_9.out).mono ?_
      rintro e u10 ⟨v10, rfl, i10, b10⟩
      have L2_10 := Lib.hid (L2_9.out.later b10)
      have A_10 := Lib.hid i10
      have B10 := Lib.hid (below_nx B9.out b10)
      clear b10 i10
      obtain ⟨aa, ca, ea⟩ := HSv.out _ _ _ A_10.out
      subst ea
      go_wp2_with fail
      refine (HIx.out _ _ A_10.out).mono ?_
      rintro e u11 ⟨rfl, rfl⟩
      go_upto_region 12 with fail
      have r0 := Row.new u10 3 (ints (List.replicate m 0))
      have R0 := Lib.hid r0
      have c0 := r0.cell i
      rw [ints_at (by rw [List.length_replicate]; exact him)] at c0
      rw [show (List.replicate m 0)[i]?.getD 0 = 0 by simp [him]] at c0
      have f0 := r0.frozen i
      have Bm := Lib.hid (B10.out.alloc B10.out.size (.cells (ints (List.replicate m 0)).toArray 3))
      have HSz := Lib.hid (show w.heap.size ≤ u10.heap.size from B10.out.size)
      obtain ⟨Hb, hHb⟩ : ∃ Hb, u10.heap.size = Hb := ⟨_, rfl⟩
      rw [hHb] at c0 f0 R0 HSz ⊢
      generalize u10.alloc (.cells (ints (List.replicate m 0)).toArray 3) = W0 at *
      have i0 : (0 : Int) ≤ (i : Int) := by omega
      have i1 : (i : Int) < (m : Int) := by omega
      clear r0 hHb
      go_upto_region 13 with fail
      have R1 := Lib.hid (show Row (W0.setCell ⟨Hb, i, none⟩ (.int .i64 1)) Hb 3 (ints (tabN m (oneF i))) by rw [← HOne.out, ← ints_set]; exact R0.out.set i _)
      have B1m := Lib.hid (Bm.out.setCell (p := ⟨Hb, i, none⟩) HSz.out (.int .i64 1))
      have IO := Lib.hid (HSl.out _ _ _ R1.out)
      generalize W0.setCell ⟨Hb, i, none⟩ (.int .i64 1) = W1 at *
      clear c0 f0 R0 R1
      go_wp2_with fail
      refine (HBk.out _ _ IO.out).mono ?_
      rintro e u12 ⟨v12, rfl, i12, b12⟩
      have O_12 := Lib.hid (IO.out.later b12)
      have X_12 := Lib.hid i12
      have B12 := Lib.hid (below_nx B1m.out b12)
      clear b12 i12
      go_wp2_with fail
      refine (HLf.out _ (HV.out.later B12.out)).mono ?_
      rintro e u13 ⟨v13, rfl, i13, b13⟩
      have X_13 := Lib.hid (X_12.out.later b13)
      have L_13 := Lib.hid i13
      have B13 := Lib.hid (below_nx B12.out b13)
      clear b13 i13
      go_wp2_with fail
      refine (HCl.out _ _ _ X_13.out).mono ?_
      rintro e u14 ⟨v14, rfl, i14, b14⟩
      have X_14 := Lib.hid (X_13.out.later b14)
      have L_14 := Lib.hid (L_13.out.later b14)
      have C_14 := Lib.hid i14
      have B14 := Lib.hid (below_nx B13.out b14)
      clear b14 i14
      go_wp2_with fail
      refine (HT2.out _ _ _ L_14.out C_14.out).mono ?_
      rintro e u15 ⟨v15, rfl, i15, b15⟩
      have X_15 := Lib.hid (X_14.out.later b15)
      have L_15 := Lib.hid (L_14.out.later b15)
      have C_15 := Lib.hid (C_14.out.later b15)
      have Y_15 := Lib.hid i15
      have B15 := Lib.hid (below_nx B14.out b15)
      clear b15 i15
      go_upto_region 16 with fail
      have z0 := Row.new u15 3 (ints (List.replicate m 0))
      rw [HRep.out] at z0 ⊢
      have BZ0 := Lib.hid ((Below.refl u15.heap.size u15).alloc (Nat.le_refl _) (.cells (ints (tabN m fun _ => 0)).toArray 3))
      have X_15z := Lib.hid (X_15.out.later BZ0.out)
      have Y_15z := Lib.hid (Y_15.out.later BZ0.out)
      have BZ := Lib.hid (below_nx B15.out BZ0.out)
      have IZ := Lib.hid (HSl.out _ _ zeroF z0)
      obtain ⟨Hz, hHz⟩ : ∃ Hz, u15.heap.size = Hz := ⟨_, rfl⟩
      rw [hHz] at IZ ⊢
      generalize u15.alloc (.cells (ints (tabN m fun _ => 0)).toArray 3) = WZ at *
      clear z0 BZ0 hHz hmk
      go_wp2_with fail
      refine (HE1.out _ _ _ X_15z.out IZ.out).mono ?_
      rintro e ue ⟨rfl, qe, rfl⟩
      have Be0 := bl_drewN (Below.refl WZ.heap.size WZ) qe
      have Y_15zq := Lib.hid (Y_15z.out.later Be0)
      have IZq := Lib.hid (IZ.out.later Be0)
      have Be := Lib.hid (bl_drewN BZ.out qe)
      generalize WZ.drewN qe = uq at *
      clear Be0
      go_wp2_with fail
      refine (HE2.out _ _ _ Y_15zq.out IZq.out).mono ?_
      rintro e ue ⟨rfl, qf, rfl⟩
      have Bf := Lib.hid (bl_drewN Be.out qf)
      generalize uq.drewN qf = ur at *
      go_wp2_with fail
      refine (HAw.out _).mono ?_
      rintro e uz ⟨rfl, bz⟩
      go_wp2
      go_ret
      exact ⟨rfl, below_nx Bf.out bz⟩
  · have hbb2 : (circB n && [xs.take 19, ys.take 19].all (wheelB n.toNat)) = false := by
      rw [Bool.eq_false_iff]
      intro e
      apply hbb
      rw [Bool.and_eq_true] at e
      obtain ⟨e1, e2⟩ := e
      simp only [List.all_cons, List.all_nil, Bool.and_true, Bool.and_eq_true] at e2
      have a1 := wheelB_take n xs
      have a2 := wheelB_take n ys
      rw [e1, e2.1] at a1
      rw [e1, e2.2] at a2
      rw [e1]
      exact ⟨a1.symm, a2.symm⟩
    have HTb := Lib.hid (fun a b W (h : IntsV W a (xs.take 19)) (k : IntsV W b (ys.take 19)) => Times_bad n _ _ a b W take19 h take19 k hbb2)
    obtain ⟨ao, cap, hv, _⟩ := h
    obtain ⟨bo, cap', hu, _⟩ := h'
    subst hv hu
    clear hbb hbb2 hl hm'
    go_enter Try.func6, Try.ntmps6
    go_wp2_with fail
    refine (HLf.out _ HV.out).mono ?_
    rintro e u1 ⟨v1, rfl, i1, b1⟩
    have L_1 := Lib.hid i1
    have B1 := Lib.hid (b1)
    clear b1 i1
    go_wp2_with fail
    refine (HLg.out _ (HU.out.later B1.out)).mono ?_
    rintro e u2 ⟨v2, rfl, i2, b2⟩
    have L_2 := Lib.hid (L_1.out.later b2)
    have M_2 := Lib.hid i2
    have B2 := Lib.hid (below_nx B1.out b2)
    clear b2 i2
    go_wp2_with fail
    refine (HTb.out _ _ _ L_2.out M_2.out).mono ?_
    rintro e u3 ⟨rfl, b3⟩
    have L_3 := Lib.hid (L_2.out.later b3)
    have M_3 := Lib.hid (M_2.out.later b3)
    have B3 := Lib.hid (below_nx B2.out b3)
    clear b3
    go_wp2_with fail
    refine (HAw.out _).mono ?_
    rintro e uz ⟨rfl, bz⟩
    go_wp2
    go_ret
    exact ⟨rfl, below_nx B3.out bz⟩
end Go.Proofs.Ytlmfmfbnbbooaaa
