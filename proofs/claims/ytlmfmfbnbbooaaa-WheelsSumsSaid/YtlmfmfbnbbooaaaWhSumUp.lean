/-
  The statement on the chords that Solve tells: they sum to the chord.
-/
import Derived.Test.YtlmfmfbnbbooaaaWhSolveLaw
namespace Go.Proofs.Ytlmfmfbnbbooaaa
open Go.ChangeShapes Go.WideShapes Go.ChangeAt Go.RowKit
set_option linter.unusedVariables false
set_option maxRecDepth 100000

theorem run_makeW (k : Nat) (hk : k ≤ 65536) (W : World) : (Instr.makeSlice 22 (.int .i64 (k : Int)) (.int .i64 (k : Int))).run Try.prog W = .ok (.slice (some ⟨W.heap.size, 0, none⟩) k k) (W.alloc (.cells (ints (List.replicate k 0)).toArray 3)) := by
  rw [← madeCells_ints]
  exact run_make_row' 22 3 (.int .i64 0) 8 Try.underlying22 (by kernel_rfl) rfl .i64 .i64 k (by omega) (by omega) W
theorem ints_ivW {W : World} {b : Nat} {xs : List Nat} (h : Row W b 3 (ints xs)) : IntsV W (.slice (some ⟨b, 0, none⟩) xs.length xs.length) (natI xs) := by
  refine ⟨_, xs.length, by rw [natI_len], by rw [natI_len]; exact Nat.le_refl _, fun _ => ⟨b, 0, rfl, fun i hi => ?_⟩⟩
  rw [natI_len] at hi
  rw [Nat.zero_add, h.cell i, ints_at hi]
  unfold natI
  rw [List.getElem?_map]
  cases e : xs[i]? with
  | none => rw [List.getElem?_eq_none_iff] at e; omega
  | some x => rfl

/-! ### what the search tells -/
theorem cv_mem {l : List Nat} {T a : Nat} (hT : T ≠ 0) (ha : a < l.length) (hl : l[a]?.getD 0 = T) : ∀ (d i : Nat), a - i = d → i ≤ a → ∃ h p, cv l i T = some (h :: p) ∧ h ≤ a
  | 0, i, hd, hi => by
    obtain rfl : i = a := by omega
    refine ⟨i, [], cv_hit ha hT ?_ ?_, Nat.le_refl _⟩
    · rw [hl]; exact (dif_zero (fun j h => h)).2 rfl
    · rw [hl, (dif_zero (fun j h => h)).2 rfl, cv_zero]
  | d + 1, i, hd, hi => by
    have IH := cv_mem hT ha hl d (i + 1) (by omega) (by omega)
    by_cases h0 : dif (l[i]?.getD 0) T = 0
    · cases hc : cv l (i + 1) (dif T (l[i]?.getD 0)) with
      | none => rw [cv_miss (by omega) hT h0 hc]; exact IH
      | some p => exact ⟨i, p, cv_hit (by omega) hT h0 hc, by omega⟩
    · rw [cv_skip (by omega) hT h0]; exact IH
theorem bI_dif {x r : Nat} (h : dif x r = 0) (b : Nat) : bI x b + bI (dif r x) b = bI r b := by
  have h1 := nat_zero_iff.1 h b
  rw [dif_bit] at h1
  unfold bI
  rw [dif_bit]
  cases hx : x.testBit b <;> cases hr : r.testBit b <;> simp_all
theorem cov_sum (l : List Nat) (b : Nat) : ∀ (f r : Nat) (p : List Nat), covN l f r = some p → (p.map fun k => bI (l[k]?.getD 0) b).sum = bI r b
  | 0, r, p, h => by
    unfold covN at h
    split at h
    · rename_i h0; cases h; subst h0; simp [bI]
    · cases h
  | f + 1, r, p, h => by
    unfold covN at h
    split at h
    · rename_i h0; cases h; subst h0; simp [bI]
    · split at h
      · rename_i h0 hd
        split at h
        · rename_i q hq
          cases h
          rw [List.map_cons, List.sum_cons, cov_sum l b f _ q hq]
          exact bI_dif hd b
        · exact cov_sum l b f _ p h
      · exact cov_sum l b f _ p h
theorem cov_order (l : List Nat) : ∀ (f r : Nat) (p : List Nat), f ≤ l.length → covN l f r = some p → (∀ k ∈ p, l.length - f ≤ k ∧ k < l.length) ∧ p.Pairwise (· < ·)
  | 0, r, p, hf, h => by
    unfold covN at h
    split at h
    · cases h; exact ⟨(fun k hk => by cases hk), List.Pairwise.nil⟩
    · cases h
  | f + 1, r, p, hf, h => by
    unfold covN at h
    split at h
    · cases h; exact ⟨(fun k hk => by cases hk), List.Pairwise.nil⟩
    · split at h
      · split at h
        · rename_i q hq
          cases h
          obtain ⟨h1, h2⟩ := cov_order l f _ q (by omega) hq
          refine ⟨fun k hk => ?_, List.pairwise_cons.2 ⟨fun k hk => ?_, h2⟩⟩
          · rcases List.mem_cons.1 hk with rfl | hk
            · omega
            · have := h1 k hk; omega
          · have := h1 k hk; omega
        · obtain ⟨h1, h2⟩ := cov_order l f _ p (by omega) h
          exact ⟨fun k hk => by have := h1 k hk; omega, h2⟩
      · obtain ⟨h1, h2⟩ := cov_order l f _ p (by omega) h
        exact ⟨fun k hk => by have := h1 k hk; omega, h2⟩
theorem idx_ne {T : Nat} : ∀ {l : List Nat} {j : Nat}, j < l.idxOf T → (some l[j]?).isSome = true → l[j]?.getD 0 = T → j < l.length → False
  | [], j, h, _, _, hj => by simp at hj
  | x :: l, j, h, _, e, hj => by
    rw [List.idxOf_cons] at h
    cases hx : x == T
    · rw [hx] at h
      simp only [cond_false] at h
      cases j with
      | zero => simp at e; rw [e] at hx; simp at hx
      | succ j => exact idx_ne (l := l) (j := j) (show j < l.idxOf T by omega) rfl (by simpa using e) (by simpa using hj)
    · rw [hx] at h
      simp at h
theorem idx_cases (l : List Nat) (T : Nat) : (Lib.idxOf (natI l) (T : Int) < 0 ∧ T ∉ l) ∨ ∃ i, i < l.length ∧ Lib.idxOf (natI l) (T : Int) = (i : Int) ∧ l[i]?.getD 0 = T := by
  by_cases h : T ∈ l
  · right
    have h1 := List.idxOf_lt_length_iff.2 h
    have hg : l[l.idxOf T]?.getD 0 = T := by rw [List.getElem?_eq_getElem h1]; exact List.getElem_idxOf h1
    refine ⟨l.idxOf T, h1, ?_, hg⟩
    have e := Lib.idxOf_hit (natI l) l.length (l.idxOf T) (T : Int) h1 (by rw [natI_len]; exact Nat.le_refl _) (by
      rw [List.getD_eq_getElem?_getD, natI_at, hg]) (fun j hj => by
      rw [List.getD_eq_getElem?_getD, natI_at]
      intro hh
      have hj2 : l[j]?.getD 0 = T := by omega
      exact idx_ne hj rfl hj2 (by omega))
    rw [List.take_of_length_le (by rw [natI_len]; exact Nat.le_refl _)] at e
    exact e
  · left
    refine ⟨?_, h⟩
    have e := Lib.idxOf_miss (natI l) l.length (T : Int) (fun j hj => by
      rw [List.getD_eq_getElem?_getD, natI_at]
      intro hh
      have hj2 : l[j]?.getD 0 = T := by omega
      rw [List.getElem?_eq_getElem hj] at hj2
      exact h (hj2 ▸ List.getElem_mem hj))
    rw [List.take_of_length_le (by rw [natI_len]; exact Nat.le_refl _)] at e
    rw [e]; decide
/-! ### a wheel's list in a block of its own -/
def NewI (H : Nat) (W : World) (v : Value) (n : Nat) (f : Nat → Nat) : Prop := ∃ g cap, v = .slice (some ⟨g, 0, none⟩) n cap ∧ H ≤ g ∧ n ≤ cap ∧ ∀ x, x < n → W.cell? ⟨g, x, none⟩ = some (.int .i64 ((f x : Nat) : Int))
theorem NewI.mono {H K : Nat} {W : World} {v : Value} {n : Nat} {f : Nat → Nat} (h : NewI H W v n f) (hK : K ≤ H) : NewI K W v n f := by
  obtain ⟨g, cap, e, h1, h2, h3⟩ := h
  exact ⟨g, cap, e, Nat.le_trans hK h1, h2, h3⟩
theorem Clone_new (n : Nat) (f : Nat → Nat) (h0 : 0 < n) (hn : n ≤ 1000) (v : Value) (w : World) (h : IntsV w v (natI (tabN n f))) :
    Calls Try.prog 32 #[v] w fun e w' => ∃ v', e = .returned v' ∧ NewI w.heap.size w' v' n f ∧ Below w.heap.size w w' := by
  have hl : (natI (tabN n f)).length = n := by rw [natI_len, tabN_length]
  obtain ⟨ao, cap, rfl, _, hc⟩ := h
  obtain ⟨b, off, rfl, hd⟩ := hc (by omega)
  refine (Try.slices_Clone_int b off (natI (tabN n f)).length cap (natI (tabN n f)) w (Nat.le_refl _) (by omega) (fun j hj => by rw [hd j hj, List.getD_eq_getElem?_getD])).mono ?_
  rintro e w' ⟨v', rfl, ho, _, hb⟩
  rw [List.take_length] at ho
  have hi := IntsV.of_vals ho
  refine ⟨v', rfl, ?_, hb⟩
  obtain ⟨_, ⟨_, h9⟩ | ⟨g, c2, cur, rfl, hg, _⟩⟩ := ho
  · omega
  · obtain ⟨a2, c3, e2, h5, h6⟩ := hi
    obtain ⟨b2, o2, e3, h7⟩ := h6 (by omega)
    rw [e3] at e2
    simp only [Value.slice.injEq, Option.some.injEq, Addr.mk.injEq] at e2
    obtain ⟨⟨e4, e5, _⟩, e6, e7⟩ := e2
    subst e4 e5 e7
    rw [hl] at h5 h7
    refine ⟨g, c2, by rw [hl], hg, h5, fun x hx => ?_⟩
    have := h7 x hx
    rw [Nat.zero_add, natI_at, tabN_at hx] at this
    exact this
theorem list_new (n : Nat) (h0 : 0 < n) (hn : n ≤ 16) (f : Nat → Nat) (w : World) :
    Calls Try.prog 66 #[whV n f] w fun e w' => ∃ v', e = .returned v' ∧ NewI w.heap.size w' v' n f ∧ Below w.heap.size w w' := by
  have HW := Lib.hid (WAt.new n f w)
  have HI := Lib.hid (HW.out.ints hn)
  have HC := Lib.hid (fun v W h => Clone_new n f h0 (by omega) v W h)
  rw [natI_len, tabN_length] at HI
  obtain ⟨c0, c1, c2⟩ := HW.out.head
  unfold whV
  generalize (whC n f).toArray = cs at *
  have hr := run_arr_upto ⟨w.heap.size, 3, none⟩ n hn (w.alloc (.cells cs 65))
  go_enter Try.func66, Try.ntmps66
  go_wp2_with fail
  refine (HC.out _ _ HI.out).mono ?_
  rintro e w1 ⟨v', rfl, i1, b1⟩
  have I1 := Lib.hid i1
  have B1 := Lib.hid (HW.out.hb.trans (b1.mono HW.out.hb.size))
  clear i1 b1
  go_wp2
  go_ret
  exact ⟨v', rfl, I1.out.mono HW.out.hb.size, B1.out⟩

set_option maxHeartbeats 1000000 in
theorem Chord_new (n : Nat) (hc : Circ n) (c : Nat) (hcc : c < 2 ^ n) (w : World) :
    Calls Try.prog 37 #[.int .i64 (n : Int), .int .i64 (c : Int)] w fun e w' => ∃ v', e = .returned (.tuple #[v', .int .i64 0]) ∧ NewI w.heap.size w' v' n (chF n c) ∧ Below w.heap.size w w' := by
  have HFo := Lib.hid (fun W => by have := fieldOf_any (n : Int) W; rwa [(fN_nat hc).1, (fN_nat hc).2.1, (fN_nat hc).2.2] at this)
  have HHas := Lib.hid (show ∀ W v, IntsV W v [(c : Int)] → Calls Try.prog 77 #[fV n (qN n) (wN n), v] W (fun e w' => e = .returned (.bool true) ∧ Below W.heap.size W w') from fun W v h => by have := hasChords_any (n : Int) [(c : Int)] v W (by simp [maxLen]) h; rw [(fN_nat hc).1, (fN_nat hc).2.1, (fN_nat hc).2.2, circB_nat hc, Int.toNat_natCast, chB_nat hcc] at this; exact this)
  have HCh := Lib.hid (fun W => chord_any n hc c hcc W)
  have HLi := Lib.hid (fun f W => list_new n hc.pos (by have := hc.2; omega) f W)
  clear hcc hc
  unfold fV at *
  go_enter Try.func37, Try.ntmps37
  go_wp2_with fail
  refine (HFo.out _).mono ?_
  rintro e w1 ⟨rfl, b1⟩
  obtain ⟨G, hG⟩ : ∃ G, w1.heap.size = G := ⟨_, rfl⟩
  have HF1 := Lib.hid (FAt.next b1 (n) (qN n) (wN n) G hG)
  clear b1
  have hs1 : (w1.alloc (.cells #[.int .i64 ((n : Nat) : Int), .int .i64 ((qN n : Nat) : Int), .int .i64 ((wN n : Nat) : Int)] 60)).heap.size = G + 1 := by rw [World.size_alloc, hG]
  have LA := Lib.hid (IntsV.oneW hs1 (c : Int))
  have HF2 := Lib.hid (HF1.out.take (.cells #[.int .i64 (c : Int)] 3))
  clear hs1
  go_wp2_with fail
  refine (HHas.out _ _ LA.out).mono ?_
  rintro e w2 ⟨rfl, b2⟩
  have HF3 := Lib.hid (HF2.out.later b2)
  clear b2 HF1 HF2 LA
  obtain ⟨k0, k1, k2⟩ := HF3.out.cell
  go_wp2_with fail
  refine (HCh.out _).mono ?_
  rintro e w3 ⟨rfl, b3⟩
  have HB3 := Lib.hid (HF3.out.hb.trans (b3.mono HF3.out.hb.size))
  clear b3 k0 k1 k2
  go_wp2_with fail
  refine (HLi.out _ _).mono ?_
  rintro e w9 ⟨v', rfl, i5, b5⟩
  have HI5 := Lib.hid i5
  have HB5 := Lib.hid (HB3.out.trans (b5.mono HB3.out.size))
  clear i5 b5
  go_wp2
  go_ret2
  exact ⟨v', rfl, HI5.out.mono HB3.out.size, HB5.out⟩

theorem NewI.iv {H : Nat} {W : World} {v : Value} {n : Nat} {f : Nat → Nat} (h : NewI H W v n f) : IntsV W v (natI (tabN n f)) := by
  obtain ⟨g, cap, rfl, h1, h2, h3⟩ := h
  have hl : (natI (tabN n f)).length = n := by rw [natI_len, tabN_length]
  refine ⟨some ⟨g, 0, none⟩, cap, by rw [hl], by rw [hl]; exact h2, fun _ => ⟨g, 0, rfl, fun i hi => ?_⟩⟩
  rw [hl] at hi
  rw [Nat.zero_add, h3 i hi, natI_at, tabN_at hi]
theorem rep_tab (m : Nat) : List.replicate m 0 = tabN m (fun _ => 0) := by
  apply List.ext_getElem
  · rw [tabN_length]; simp
  · intro i h1 h2; simp [tabN]
/-- The sums so far. -/
def ssN (l p : List Nat) (j x : Nat) : Nat := ((p.take j).map fun k => bI (l[k]?.getD 0) x).sum
theorem ssN_zero (l p : List Nat) : ssN l p 0 = fun _ => 0 := by funext x; simp [ssN]
theorem ssN_succ {l p : List Nat} {j : Nat} (hj : j < p.length) (x : Nat) : ssN l p (j + 1) x = ssN l p j x + bI (l[p[j]?.getD 0]?.getD 0) x := by
  unfold ssN
  rw [List.take_succ_eq_append_getElem hj, List.map_append, List.sum_append, List.getElem?_eq_getElem hj]
  simp
theorem ssN_le (l p : List Nat) (x : Nat) : ∀ j, ssN l p j x ≤ j
  | 0 => by rw [ssN_zero]; exact Nat.le_refl _
  | j + 1 => by
    have IH := ssN_le l p x j
    by_cases h : j < p.length
    · rw [ssN_succ h]; have := bI_le (l[p[j]?.getD 0]?.getD 0) x; omega
    · have : ssN l p (j + 1) x = ssN l p j x := by unfold ssN; rw [List.take_of_length_le (by omega), List.take_of_length_le (show p.length ≤ j by omega)]
      omega
theorem ssN_all (l p : List Nat) (x : Nat) : ssN l p p.length x = (p.map fun k => bI (l[k]?.getD 0) x).sum := by unfold ssN; rw [List.take_length]
def mxN (g h : Nat → Nat) (Y x : Nat) : Nat := if x < Y then h x else g x
theorem mxN_zero (g h : Nat → Nat) : mxN g h 0 = g := by funext x; simp [mxN]
theorem mxN_all (m : Nat) (g h : Nat → Nat) : tabN m (mxN g h m) = tabN m h := tabN_congr fun x hx => by unfold mxN; rw [if_pos hx]
theorem mxN_set {m Y : Nat} (g h : Nat → Nat) (hY : Y < m) : (tabN m (mxN g h Y)).set Y (h Y) = tabN m (mxN g h (Y + 1)) := by
  rw [tabN_set hY]
  refine tabN_congr fun x hx => ?_
  unfold mxN
  by_cases e : x = Y
  · rw [if_pos e, if_pos (by omega), e]
  · rw [if_neg e]
    by_cases e2 : x < Y
    · rw [if_pos e2, if_pos (by omega)]
    · rw [if_neg e2, if_neg (by omega)]

set_option maxHeartbeats 4000000 in
theorem WheelsSums_walk (n t : Int) (xs : List Int) (v : Value) (w : World) (_wn : (Lit.int .i64 n).wf = true) (_wt : (Lit.int .i64 t).wf = true) (hl : xs.length ≤ maxLen) (h : IntsV w v xs) :
    Calls Try.prog 7 #[.int .i64 n, .int .i64 t, v] w fun e w' => e = .returned (.bool true) ∧ Below w.heap.size w w' := by
  have HAw := Lib.hid (fun W => wawake_any W)
  have HLi := Lib.hid (fun W hW => wlist_any xs v W hl hW)
  have HV := Lib.hid (fun W => RValid_any n t W)
  have H := Lib.hid h
  cases hs : solB n t xs
  · have HS := Lib.hid (fun a W ha => Solve_bad n t (xs.take 19) take19 (by rw [sol_take]; exact hs) a W ha)
    cases h1 : (circB n && chordsB n.toNat [t])
    · rw [h1] at HV
      obtain ⟨ao, cap, rfl, _⟩ := h
      clear hs h1 hl
      go_enter Try.func7, Try.ntmps7
      go_wp2_with fail
      refine (HLi.out _ H.out).mono ?_
      rintro e w1 ⟨v1, rfl, i1, b1⟩
      have B1 := Lib.hid b1
      have I1 := Lib.hid i1
      clear b1 i1
      go_wp2_with fail
      refine (HS.out _ _ I1.out).mono ?_
      rintro e w2 ⟨rfl, b2⟩
      have B2 := Lib.hid (below_nx B1.out b2)
      clear b2
      go_wp2_with fail
      refine (HV.out _).mono ?_
      rintro e w3 ⟨rfl, rfl⟩
      go_wp2_with fail
      refine (HAw.out _).mono ?_
      rintro e w5 ⟨rfl, b5⟩
      go_wp2
      go_ret
      exact ⟨rfl, below_nx B2.out b5⟩
    · rw [h1] at HV
      obtain ⟨m, k, rfl, rfl, hm, hk⟩ := goodC h1
      have HR := Lib.hid (fun W hW => RList_any m hm xs v W hl hW)
      unfold solB at hs
      rw [h1, Bool.true_and, Int.toNat_natCast] at hs
      rw [hs] at HR
      obtain ⟨ao, cap, rfl, _⟩ := h
      clear hs h1 hl hm hk
      go_enter Try.func7, Try.ntmps7
      go_wp2_with fail
      refine (HLi.out _ H.out).mono ?_
      rintro e w1 ⟨v1, rfl, i1, b1⟩
      have B1 := Lib.hid b1
      have I1 := Lib.hid i1
      clear b1 i1
      go_wp2_with fail
      refine (HS.out _ _ I1.out).mono ?_
      rintro e w2 ⟨rfl, b2⟩
      have B2 := Lib.hid (below_nx B1.out b2)
      clear b2
      go_wp2_with fail
      refine (HV.out _).mono ?_
      rintro e w3 ⟨rfl, rfl⟩
      go_wp2_with fail
      refine (HR.out _ (H.out.later B2.out)).mono ?_
      rintro e w3 ⟨rfl, rfl⟩
      go_wp2_with fail
      refine (HAw.out _).mono ?_
      rintro e w5 ⟨rfl, b5⟩
      go_wp2
      go_ret
      exact ⟨rfl, below_nx B2.out b5⟩
  · have hs2 := hs
    unfold solB at hs2
    rw [Bool.and_eq_true, Bool.and_eq_true] at hs2
    obtain ⟨⟨h1, h2⟩, h3⟩ := hs2
    rw [h1] at HV
    obtain ⟨m, k, rfl, rfl, hm, hk⟩ := goodC h1
    rw [Int.toNat_natCast] at h3
    obtain ⟨l, rfl, hb⟩ := chB_all h3
    have hl10 : l.length ≤ 10 := by have := of_decide_eq_true h2; rw [natI_len] at this; exact this
    have hm0 := hm.pos
    have hm17 := hm.2
    have h16 : 2 ^ m ≤ 2 ^ 16 := Nat.pow_le_pow_right (by omega) (Nat.le_of_lt_succ hm.2)
    have HR := Lib.hid (fun W hW => RList_any m hm (natI l) v W hl hW)
    rw [h2, h3] at HR
    rw [show (natI l).take 19 = natI l from List.take_of_length_le (by rw [natI_len]; omega)] at HLi
    have HS := Lib.hid (fun a W ha => Solve_ok m hm k hk l hl10 hb a W ha)
    cases hcv : cv l 0 k with
    | none =>
      rw [hcv] at HS
      have hk0 : k ≠ 0 := fun e => by rw [e, cv_zero] at hcv; cases hcv
      have hni : k ∉ l := fun hin => by
        obtain ⟨a, ha, e⟩ := List.getElem_of_mem hin
        obtain ⟨h, p, e2, _⟩ := cv_mem hk0 ha (by rw [List.getElem?_eq_getElem ha]; exact e) a 0 (by omega) (by omega)
        rw [e2] at hcv; cases hcv
      have HCt := Lib.hid (fun W hW => by have := Contains_any (natI l) v (k : Int) W hl hW; rwa [show (natI l).contains (k : Int) = false by
        rw [Bool.eq_false_iff]
        intro h
        rw [List.contains_iff_mem] at h
        exact hni (natI_mem.1 h)] at this)
      have q0 : ((k : Int) == 0) = false := by rw [beq_eq_false_iff_ne]; omega
      have q1 : ((k : Int) != 0) = true := by rw [bne_iff_ne]; omega
      have q2 : ¬ ((k : Int) = 0) := by omega
      obtain ⟨ao, cap, rfl, _⟩ := h
      clear hs h1 h2 h3 hl hm hk hb hl10 h16 hcv hk0 hni
      go_enter Try.func7, Try.ntmps7
      go_wp2_with fail
      refine (HLi.out _ H.out).mono ?_
      rintro e w1 ⟨v1, rfl, i1, b1⟩
      have B1 := Lib.hid b1
      have I1 := Lib.hid i1
      clear b1 i1
      go_wp2_with fail
      refine (HS.out _ _ I1.out).mono ?_
      rintro e w2 ⟨v2, rfl, i2, b2⟩
      have B2 := Lib.hid (below_nx B1.out b2)
      clear b2 i2
      rw [show solE none = 4 from rfl]
      go_wp2_with fail
      refine (HV.out _).mono ?_
      rintro e w3 ⟨rfl, rfl⟩
      go_wp2_with fail
      refine (HR.out _ (H.out.later B2.out)).mono ?_
      rintro e w3 ⟨rfl, rfl⟩
      go_wp2_with fail
      refine (HCt.out _ (H.out.later B2.out)).mono ?_
      rintro e w4 ⟨rfl, rfl⟩
      go_wp2_with fail
      refine (HAw.out _).mono ?_
      rintro e w6 ⟨rfl, b6⟩
      go_wp2
      go_ret
      exact ⟨rfl, below_nx B2.out b6⟩
    | some p =>
      rw [hcv] at HS
      obtain ⟨hin, hpw⟩ := cov_order l _ _ p (Nat.sub_le _ _) hcv
      have hpl := cv_len hcv
      have hsum : tabN m (ssN l p p.length) = tabN m (chF m k) := tabN_congr fun x hx => by
        rw [ssN_all, cov_sum l x _ _ p hcv]
        unfold chF; rw [if_pos hx]
      have HHd := Lib.hid (fun a (h0 : k ≠ 0) (ha : a < l.length) (e : l[a]?.getD 0 = k) => by
        have := cv_mem h0 ha e a 0 (by omega) (by omega)
        obtain ⟨h, q, e2, h3⟩ := this
        rw [hcv] at e2
        exact (⟨h, q, Option.some.inj e2, h3⟩ : ∃ h q, p = h :: q ∧ h ≤ a))
      have HZ := Lib.hid (show k = 0 → p = [] from fun e => by rw [e, cv_zero] at hcv; exact (Option.some.inj hcv).symm)
      have HIx := Lib.hid (fun W hW => Index_any (natI l) v (k : Int) W hl hW)
      have HCase := Lib.hid (idx_cases l k)
      have HCh := Lib.hid (fun c (hc : c < 2 ^ m) W => Chord_new m hm c hc W)
      have HChk := Lib.hid (fun W => Chord_new m hm k hk W)
      have HEq := Lib.hid (fun a b W ha hb => by have := Equal_any (natI (tabN m (chF m k))) (natI (tabN m (chF m k))) a b W (by rw [natI_len, tabN_length]; unfold maxLen; omega) (by rw [natI_len, tabN_length]; unfold maxLen; omega) ha hb; rwa [show (natI (tabN m (chF m k)) == natI (tabN m (chF m k))) = true from beq_self_eq_true _] at this)
      have HLb := Lib.hid (fun i (hi : i < l.length) => show l[i]?.getD 0 < 2 ^ m by rw [List.getElem?_eq_getElem hi]; exact hb _ (List.getElem_mem hi))
      have HPl := Lib.hid (fun j (hj : j < p.length) => show p[j]?.getD 0 < l.length by rw [List.getElem?_eq_getElem hj]; exact (hin _ (List.getElem_mem hj)).2)
      have HPs := Lib.hid (fun j (hj : j + 1 < p.length) => show p[j]?.getD 0 < p[j + 1]?.getD 0 by
        rw [List.getElem?_eq_getElem hj, List.getElem?_eq_getElem (show j < p.length by omega)]
        exact List.pairwise_iff_getElem.1 hpw j (j + 1) (by omega) hj (by omega))
      have HS0 := Lib.hid (ssN_zero l p)
      have HSs := Lib.hid (fun j (hj : j < p.length) x (hx : x < m) => show ssN l p (j + 1) x = ssN l p j x + chF m (l[p[j]?.getD 0]?.getD 0) x by rw [ssN_succ (l := l) hj x]; unfold chF; rw [if_pos hx])
      have HSl := Lib.hid (fun j x => ssN_le l p x j)
      have HSm := Lib.hid hsum
      have HchT := Lib.hid (fun c Y (hY : Y < m) => show chF m c Y = bI c Y by unfold chF; rw [if_pos hY])
      have HbL := Lib.hid (fun c Y => show chF m c Y ≤ 1 by unfold chF; have := bI_le c Y; split <;> omega)
      have HRep := Lib.hid (show List.replicate m 0 = tabN m (ssN l p 0) by rw [ssN_zero]; exact rep_tab m)
      have HMx0 := Lib.hid (fun j => show tabN m (mxN (ssN l p j) (ssN l p (j + 1)) 0) = tabN m (ssN l p j) by rw [mxN_zero])
      have HMxA := Lib.hid (fun j => mxN_all m (ssN l p j) (ssN l p (j + 1)))
      have HMxS := Lib.hid (fun j Y (hY : Y < m) => mxN_set (ssN l p j) (ssN l p (j + 1)) hY)
      have HMxY := Lib.hid (fun j Y (hY : Y < m) => show (tabN m (mxN (ssN l p j) (ssN l p (j + 1)) Y))[Y]?.getD 0 = ssN l p j Y by rw [tabN_at hY]; unfold mxN; rw [if_neg (by omega)])
      have HTl := Lib.hid (fun f : Nat → Nat => tabN_length m f)
      have HIvT := Lib.hid (fun W x (hx : Row W x 3 (ints (tabN m (chF m k)))) => show IntsV W (.slice (some ⟨x, 0, none⟩) m m) (natI (tabN m (chF m k))) by have := ints_ivW hx; rw [tabN_length] at this; exact this)
      have hmk := run_makeW m (by omega)
      obtain ⟨ao, cap, hv, _, hc⟩ := h
      rw [natI_len] at hv hc
      subst hv
      have HC := Lib.hid (fun (W : World) (hW : Below w.heap.size w W) i (hi : i < l.length) => show ∃ b off, ao = some ⟨b, off, none⟩ ∧ W.cell? ⟨b, off + i, none⟩ = some (.int .i64 ((l[i]?.getD 0 : Nat) : Int)) by
        obtain ⟨b, off, e, hd⟩ := hc (by omega)
        exact ⟨b, off, e, by rw [cell_later hW (hd i hi), natI_at]⟩)
      have HP := Lib.hid (fun (v : Value) (W : World) (hv : IntsV W v (natI p)) => show ∃ ao cap, v = .slice ao p.length cap ∧ ∀ W', Below W.heap.size W W' → ∀ j, j < p.length → ∃ b off, ao = some ⟨b, off, none⟩ ∧ W'.cell? ⟨b, off + j, none⟩ = some (.int .i64 ((p[j]?.getD 0 : Nat) : Int)) by
        obtain ⟨ao, cap, e, _, hd⟩ := hv
        rw [natI_len] at e hd
        exact ⟨ao, cap, e, fun W' hW j hj => by
          obtain ⟨b, off, e, hd⟩ := hd (by omega)
          exact ⟨b, off, e, by rw [cell_later hW (hd j hj), natI_at]⟩⟩)
      have hp10 : p.length ≤ 10 := Nat.le_trans hpl hl10
      clear hs h1 h2 h3 hl hm hk hb hcv hin hpw hsum hc
      generalize hPl : p.length = PL at *
      generalize hLl : l.length = L at *
      go_enter Try.func7, Try.ntmps7
      go_wp2_with fail
      refine (HLi.out _ H.out).mono ?_
      rintro e w1 ⟨v1, rfl, i1, b1⟩
      have B1 := Lib.hid b1
      have I1 := Lib.hid i1
      clear b1 i1
      go_wp2_with fail
      refine (HS.out _ _ I1.out).mono ?_
      rintro e w2 ⟨v2, rfl, i2, b2⟩
      have B2 := Lib.hid (below_nx B1.out b2)
      obtain ⟨ao2, cap2, rfl, hP⟩ := HP.out v2 w2 i2
      have HP2 := Lib.hid hP
      clear b2 i2 hP HP
      rw [show solE (some p) = 0 from rfl]
      go_wp2_with fail
      refine (HV.out _).mono ?_
      rintro e w3 ⟨rfl, rfl⟩
      go_wp2_with fail
      refine (HR.out _ (H.out.later B2.out)).mono ?_
      rintro e w3 ⟨rfl, rfl⟩
      go_upto_region 7 with fail
      obtain ⟨HB, hHB⟩ : ∃ HB, w2.heap.size = HB := ⟨_, rfl⟩
      have HHB := Lib.hid hHB
      have r0 := Row.new w2 3 (ints (List.replicate m 0))
      have B3 := Lib.hid ((Below.refl w2.heap.size w2).alloc (Nat.le_refl _) (.cells (ints (List.replicate m 0)).toArray 3))
      rw [HRep.out] at r0 B3 ⊢
      rw [hHB] at r0 ⊢
      have R0 := Lib.hid r0
      generalize w2.alloc (.cells (ints (tabN m (ssN l p 0))).toArray 3) = W0 at *
      rw [hHB] at B3
      clear hmk hHB r0
      go_wp2_with fail
      go_loopw [61] (fun i wr => ∃ j : Nat, j ≤ PL ∧ i = .int .i64 (j : Int) ∧ Row wr HB 3 (ints (tabN m (ssN l p j))) ∧ Below HB w2 wr) (fun i _ => PL - (intOf i).toNat)
      case atStart => exact ⟨0, Nat.zero_le _, rfl, R0.out, B3.out⟩
      case round =>
        obtain ⟨j, hj, rfl, hr, hB⟩ := hrel
        have HRw := Lib.hid hr
        have HBw := Lib.hid (show Below w2.heap.size w2 wr by rw [HHB.out]; exact hB)
        have hsz : HB ≤ wr.heap.size := by have := hB.size; have := HHB.out; omega
        have HHr := Lib.hid (show HB < wr.heap.size from (Array.getElem?_eq_some_iff.1 hr).1)
        clear hr hB
        by_cases hlt : j < PL
        · obtain ⟨b2, o2, e2, cp⟩ := HP2.out _ HBw.out j hlt
          subst e2
          have hPL := HPl.out j hlt
          have HSj := Lib.hid (HSs.out j hlt)
          obtain ⟨b, off, e1, cl⟩ := HC.out _ (below_nx B2.out HBw.out) _ hPL
          subst e1
          have hx := HLb.out _ hPL
          have HPj := Lib.hid (fun i (e : j = i + 1) => show p[i]?.getD 0 < p[j]?.getD 0 by subst e; exact HPs.out i hlt)
          generalize hPn : p[j]?.getD 0 = P at *
          have hBx := HbL.out (l[P]?.getD 0)
          generalize l[P]?.getD 0 = X at *
          have HChX := Lib.hid (fun W => HCh.out X hx W)
          have q1 : decide ((P : Int) < 0) = false := decide_eq_false (by omega)
          have q2 : decide ((L : Int) ≤ (P : Int)) = false := decide_eq_false (by omega)
          rcases Nat.eq_zero_or_pos j with h0 | h0
          · subst h0
            rw [Nat.add_zero] at cp
            go_upto_region 12 with fail
            go_wp2_with fail
            refine (HChX.out _).mono ?_
            rintro e w4 ⟨v4, rfl, ⟨g, c4, rfl, hg, hgc, hgx⟩, b4⟩
            have R4 := Lib.hid (HRw.out.later b4)
            have B4 := Lib.hid (show Below HB w2 w4 by rw [← HHB.out]; exact below_nx HBw.out b4)
            have G4 := Lib.hid hgx
            have hgH : g ≠ HB := by have := HHr.out; omega
            have HgH := Lib.hid hgH
            clear b4 hgx cl cp hgH 
            go_wp2_with fail
            go_loopw [106] (fun t wi => ∃ Y : Nat, Y ≤ m ∧ t = .int .i64 (Y : Int) ∧ Row wi HB 3 (ints (tabN m (mxN (ssN l p 0) (ssN l p (0 + 1)) Y))) ∧ Below HB w2 wi ∧ ∀ x, x < m → wi.cell? ⟨g, x, none⟩ = some (.int .i64 ((chF m X x : Nat) : Int))) (fun t _ => m - (intOf t).toNat)
            case atStart => exact ⟨0, Nat.zero_le _, rfl, by rw [HMx0.out]; exact R4.out, B4.out, G4.out⟩
            case round =>
              obtain ⟨Y, hY, rfl, hri, hBi, hgi⟩ := hrel
              have HRi := Lib.hid hri
              have HBi := Lib.hid hBi
              have HGi := Lib.hid hgi
              clear hri hBi hgi
              by_cases hly : Y < m
              · have hcl := (HRi.out.cell Y).trans (ints_at (xs := tabN m (mxN (ssN l p 0) (ssN l p (0 + 1)) Y)) (i := Y) (by rw [HTl.out]; exact hly))
                rw [HMxY.out 0 Y hly] at hcl
                have hfr := HRi.out.frozen Y
                have hfc := HGi.out Y hly
                have hSY := HSj.out Y hly
                have hle := HSl.out 0 Y
                have hbY := hBx Y
                have hset := Lib.hid (ints_set (tabN m (mxN (ssN l p 0) (ssN l p (0 + 1)) Y)) Y (ssN l p (0 + 1) Y))
                have HMs := Lib.hid (HMxS.out 0 Y hly)
                have hSY2 := Lib.hid hSY
                obtain ⟨A, hA⟩ : ∃ A, ssN l p 0 Y = A := ⟨_, rfl⟩
                obtain ⟨C, hC⟩ : ∃ C, chF m X Y = C := ⟨_, rfl⟩
                rw [hA] at hcl hSY2 hle
                rw [hC] at hfc hSY2 hbY
                rw [hSY2.out] at hset HMs
                have hA10 : A ≤ 10 := by omega
                clear hA hC hSY
                go_wp2_with fail
                go_region
                go_wp2
                go_roundw
                case rel => exact ⟨Y + 1, by omega, by go_num, by rw [← HMs.out, ← hset.out]; exact HRi.out.set _ _, (HBi.out.setCell (p := ⟨HB, Y, none⟩) (Nat.le_refl _) _).drew, fun x hx => (World.cell?_setCell_far _ ⟨HB, Y, none⟩ ⟨g, x, none⟩ _ (fun e => HgH.out e.symm)).trans (HGi.out x hx)⟩
                case measure => simp only [intOf]; omega
              · obtain rfl : Y = m := by omega
                have HRn := Lib.hid (show Row _ HB 3 (ints (tabN Y (ssN l p (0 + 1)))) by rw [← HMxA.out]; exact HRi.out)
                go_wp2
                go_roundw
                case rel => exact ⟨0 + 1, by omega, by go_num, HRn.out, HBi.out⟩
                case measure => simp only [intOf]; omega
          · obtain ⟨i, rfl⟩ : ∃ i, j = i + 1 := ⟨j - 1, by omega⟩
            have hlt2 := HPj.out i rfl
            obtain ⟨b3, o3, e3, cp3⟩ := HP2.out _ HBw.out i (by omega)
            cases e3
            generalize p[i]?.getD 0 = Q at *
            obtain ⟨J, hJ⟩ : ∃ J : Int, ((i + 1 : Nat) : Int) = J := ⟨_, rfl⟩
            have j1 : (1 : Int) ≤ J := by omega
            have j2 : J < (PL : Int) := by omega
            have j3 : (0 : Int) ≤ J - 1 := by omega
            have j4 : J - 1 < (PL : Int) := by omega
            have j5 : (0 : Int) ≤ J := by omega
            have j6 : (0 : Int) < J := by omega
            have hwj : IntKind.i64.wrap (J - 1) = J - 1 := IntWalk.i64_in _ (by omega)
            rw [show o2 + (i + 1) = o2 + J.toNat by omega] at cp
            rw [show o2 + i = o2 + (J.toNat - 1) by omega] at cp3
            have q3 : decide ((P : Int) ≤ (Q : Int)) = false := decide_eq_false (by omega)
            rw [hJ]
            have HJ := Lib.hid hJ
            clear hJ
            go_upto_region 12 with fail
            go_wp2_with fail
            refine (HChX.out _).mono ?_
            rintro e w4 ⟨v4, rfl, ⟨g, c4, rfl, hg, hgc, hgx⟩, b4⟩
            have R4 := Lib.hid (HRw.out.later b4)
            have B4 := Lib.hid (show Below HB w2 w4 by rw [← HHB.out]; exact below_nx HBw.out b4)
            have G4 := Lib.hid hgx
            have hgH : g ≠ HB := by have := HHr.out; omega
            have HgH := Lib.hid hgH
            clear b4 hgx cl cp hgH cp3
            go_wp2_with fail
            go_loopw [106] (fun t wi => ∃ Y : Nat, Y ≤ m ∧ t = .int .i64 (Y : Int) ∧ Row wi HB 3 (ints (tabN m (mxN (ssN l p (i + 1)) (ssN l p ((i + 1) + 1)) Y))) ∧ Below HB w2 wi ∧ ∀ x, x < m → wi.cell? ⟨g, x, none⟩ = some (.int .i64 ((chF m X x : Nat) : Int))) (fun t _ => m - (intOf t).toNat)
            case atStart => exact ⟨0, Nat.zero_le _, rfl, by rw [HMx0.out]; exact R4.out, B4.out, G4.out⟩
            case round =>
              obtain ⟨Y, hY, rfl, hri, hBi, hgi⟩ := hrel
              have HRi := Lib.hid hri
              have HBi := Lib.hid hBi
              have HGi := Lib.hid hgi
              clear hri hBi hgi
              by_cases hly : Y < m
              · have hcl := (HRi.out.cell Y).trans (ints_at (xs := tabN m (mxN (ssN l p (i + 1)) (ssN l p ((i + 1) + 1)) Y)) (i := Y) (by rw [HTl.out]; exact hly))
                rw [HMxY.out (i + 1) Y hly] at hcl
                have hfr := HRi.out.frozen Y
                have hfc := HGi.out Y hly
                have hSY := HSj.out Y hly
                have hle := HSl.out (i + 1) Y
                have hbY := hBx Y
                have hset := Lib.hid (ints_set (tabN m (mxN (ssN l p (i + 1)) (ssN l p ((i + 1) + 1)) Y)) Y (ssN l p ((i + 1) + 1) Y))
                have HMs := Lib.hid (HMxS.out (i + 1) Y hly)
                have hSY2 := Lib.hid hSY
                obtain ⟨A, hA⟩ : ∃ A, ssN l p (i + 1) Y = A := ⟨_, rfl⟩
                obtain ⟨C, hC⟩ : ∃ C, chF m X Y = C := ⟨_, rfl⟩
                rw [hA] at hcl hSY2 hle
                rw [hC] at hfc hSY2 hbY
                rw [hSY2.out] at hset HMs
                have hA10 : A ≤ 10 := by omega
                clear hA hC hSY
                go_wp2_with fail
                go_region
                go_wp2
                go_roundw
                case rel => exact ⟨Y + 1, by omega, by go_num, by rw [← HMs.out, ← hset.out]; exact HRi.out.set _ _, (HBi.out.setCell (p := ⟨HB, Y, none⟩) (Nat.le_refl _) _).drew, fun x hx => (World.cell?_setCell_far _ ⟨HB, Y, none⟩ ⟨g, x, none⟩ _ (fun e => HgH.out e.symm)).trans (HGi.out x hx)⟩
                case measure => simp only [intOf]; omega
              · obtain rfl : Y = m := by omega
                have HRn := Lib.hid (show Row _ HB 3 (ints (tabN Y (ssN l p ((i + 1) + 1)))) by rw [← HMxA.out]; exact HRi.out)
                go_wp2
                go_roundw
                case rel => exact ⟨(i + 1) + 1, by omega, by rw [← HJ.out]; go_num, HRn.out, HBi.out⟩
                case measure => simp only [intOf]; omega
        · obtain rfl : j = PL := by omega
          have HRs := Lib.hid (show Row wr HB 3 (ints (tabN m (chF m k))) by rw [← HSm.out]; exact HRw.out)
          by_cases hk0 : k = 0
          · have hkI : (k : Int) = 0 := by omega
            have hp0 := HZ.out hk0
            subst hp0
            obtain rfl : 0 = j := hPl
            rcases HCase.out with ⟨hlt0, _⟩ | ⟨i, hi, hidx, _⟩
            · have ix1 : decide (Lib.idxOf (natI l) (k : Int) < 0) = true := decide_eq_true hlt0
              generalize Lib.idxOf (natI l) (k : Int) = ix at *
              rw [hkI] at HIx HChk ⊢
              clear hkI hk0
              go_wp2_with fail
              refine (HChk.out _).mono ?_
              rintro e w5 ⟨v5, rfl, i5, b5⟩
              have I5 := Lib.hid (NewI.iv i5)
              have B5 := Lib.hid (below_nx HBw.out b5)
              have S5 := Lib.hid (HIvT.out _ _ (HRs.out.later b5))
              obtain ⟨a5, c5, e5, _⟩ := I5.out
              rw [natI_len, HTl.out] at e5
              subst e5
              clear i5 b5
              go_wp2_with fail
              refine (HEq.out _ _ _ I5.out S5.out).mono ?_
              rintro e w6 ⟨rfl, q, rfl⟩
              have B6 := Lib.hid (bl_drewN B5.out q)
              generalize w5.drewN q = w6 at *
              go_wp2_with fail
              refine (HIx.out _ (H.out.later (below_nx B2.out B6.out))).mono ?_
              rintro e w7 ⟨rfl, rfl⟩
              go_wp2_with fail
              refine (HAw.out _).mono ?_
              rintro e w8 ⟨rfl, b8⟩
              go_wp2
              go_ret
              exact ⟨rfl, below_nx (below_nx B2.out B6.out) b8⟩
            · rw [hidx] at HIx
              rw [hkI] at HIx HChk ⊢
              clear hkI hk0
              go_wp2_with fail
              refine (HChk.out _).mono ?_
              rintro e w5 ⟨v5, rfl, i5, b5⟩
              have I5 := Lib.hid (NewI.iv i5)
              have B5 := Lib.hid (below_nx HBw.out b5)
              have S5 := Lib.hid (HIvT.out _ _ (HRs.out.later b5))
              obtain ⟨a5, c5, e5, _⟩ := I5.out
              rw [natI_len, HTl.out] at e5
              subst e5
              clear i5 b5
              go_wp2_with fail
              refine (HEq.out _ _ _ I5.out S5.out).mono ?_
              rintro e w6 ⟨rfl, q, rfl⟩
              have B6 := Lib.hid (bl_drewN B5.out q)
              generalize w5.drewN q = w6 at *
              go_wp2_with fail
              refine (HIx.out _ (H.out.later (below_nx B2.out B6.out))).mono ?_
              rintro e w7 ⟨rfl, rfl⟩
              go_wp2_with fail
              refine (HAw.out _).mono ?_
              rintro e w8 ⟨rfl, b8⟩
              go_wp2
              go_ret
              exact ⟨rfl, below_nx (below_nx B2.out B6.out) b8⟩
          · have q0 : ((k : Int) == 0) = false := by rw [beq_eq_false_iff_ne]; omega
            have q0b : ¬ ((k : Int) = 0) := by omega
            rcases HCase.out with ⟨hlt0, _⟩ | ⟨i, hi, hidx, hli⟩
            · have ix1 : decide (Lib.idxOf (natI l) (k : Int) < 0) = true := decide_eq_true hlt0
              generalize Lib.idxOf (natI l) (k : Int) = ix at *
              go_wp2_with fail
              refine (HChk.out _).mono ?_
              rintro e w5 ⟨v5, rfl, i5, b5⟩
              have I5 := Lib.hid (NewI.iv i5)
              have B5 := Lib.hid (below_nx HBw.out b5)
              have S5 := Lib.hid (HIvT.out _ _ (HRs.out.later b5))
              obtain ⟨a5, c5, e5, _⟩ := I5.out
              rw [natI_len, HTl.out] at e5
              subst e5
              clear i5 b5
              go_wp2_with fail
              refine (HEq.out _ _ _ I5.out S5.out).mono ?_
              rintro e w6 ⟨rfl, q, rfl⟩
              have B6 := Lib.hid (bl_drewN B5.out q)
              generalize w5.drewN q = w6 at *
              go_wp2_with fail
              refine (HIx.out _ (H.out.later (below_nx B2.out B6.out))).mono ?_
              rintro e w7 ⟨rfl, rfl⟩
              go_wp2_with fail
              refine (HAw.out _).mono ?_
              rintro e w8 ⟨rfl, b8⟩
              go_wp2
              go_ret
              exact ⟨rfl, below_nx (below_nx B2.out B6.out) b8⟩
            · rw [hidx] at HIx
              obtain ⟨h, q, hpq, hle⟩ := HHd.out i hk0 hi hli
              have hpos : 0 < j := by rw [← hPl, hpq]; exact Nat.succ_pos _
              obtain ⟨b2, o2, e2, c0⟩ := HP2.out _ HBw.out 0 hpos
              have HC9 := Lib.hid (fun W (hW : Below w2.heap.size w2 W) => show W.cell? ⟨b2, o2, none⟩ = some (.int .i64 (h : Int)) by obtain ⟨b3, o3, e3, c3⟩ := HP2.out _ hW 0 hpos; rw [e2] at e3; cases e3; rw [show p[0]?.getD 0 = h by rw [hpq]; rfl] at c3; exact c3)
              subst e2
              have qh : decide ((h : Int) ≤ (i : Int)) = true := decide_eq_true (by omega)
              clear c0 hpq
              go_wp2_with fail
              refine (HChk.out _).mono ?_
              rintro e w5 ⟨v5, rfl, i5, b5⟩
              have I5 := Lib.hid (NewI.iv i5)
              have B5 := Lib.hid (below_nx HBw.out b5)
              have S5 := Lib.hid (HIvT.out _ _ (HRs.out.later b5))
              obtain ⟨a5, c5, e5, _⟩ := I5.out
              rw [natI_len, HTl.out] at e5
              subst e5
              clear i5 b5
              go_wp2_with fail
              refine (HEq.out _ _ _ I5.out S5.out).mono ?_
              rintro e w6 ⟨rfl, q, rfl⟩
              have B6 := Lib.hid (bl_drewN B5.out q)
              generalize w5.drewN q = w6 at *
              go_wp2_with fail
              refine (HIx.out _ (H.out.later (below_nx B2.out B6.out))).mono ?_
              rintro e w7 ⟨rfl, rfl⟩
              have c9 := HC9.out _ B6.out
              go_wp2_with fail
              refine (HAw.out _).mono ?_
              rintro e w8 ⟨rfl, b8⟩
              go_wp2
              go_ret
              exact ⟨rfl, below_nx (below_nx B2.out B6.out) b8⟩
end Go.Proofs.Ytlmfmfbnbbooaaa
