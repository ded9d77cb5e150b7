/-
  Deep of package chords and of the reference: whether no two elements of the vector are the same, but for noughts.
-/
import Derived.Test.YtehjdhegnpmfaaaDoorRefVec
namespace Go.Proofs.YtehjdhegnpmfaaaDoor
open Go.RowKit Go.Shelf
attribute [local go_sem] Oper.semAt_some
set_option maxRecDepth 100000

/-- No element but nought stands among those ahead of it. -/
def deepTo (xs : List Nat) (k : Nat) : Prop := ∀ i, i < k → xs[i]?.getD 0 ≠ 0 → xs[i]?.getD 0 ∉ xs.take i

noncomputable def deepB (xs : List Nat) : Bool := @decide (deepTo xs xs.length) (Classical.propDecidable _)

theorem deepB_true {xs : List Nat} (h : deepTo xs xs.length) : deepB xs = true := by unfold deepB; exact @decide_eq_true _ (Classical.propDecidable _) h
theorem deepB_false {xs : List Nat} {i : Nat} (hi : i < xs.length) (h0 : xs[i]?.getD 0 ≠ 0) (hm : xs[i]?.getD 0 ∈ xs.take i) : deepB xs = false := by
  unfold deepB; exact @decide_eq_false _ (Classical.propDecidable _) (fun h => h i hi h0 hm)

theorem take_succ_mem {xs : List Nat} {k v : Nat} (hk : k < xs.length) : v ∈ xs.take (k + 1) ↔ (v ∈ xs.take k ∨ v = xs[k]?.getD 0) := by
  rw [List.take_succ_eq_append_getElem hk, List.mem_append, List.mem_singleton]
  simp [hk]

theorem mem_take_at {xs : List Nat} {k j : Nat} (hj : j < k) (hk : k ≤ xs.length) : xs[j]?.getD 0 ∈ xs.take k := by
  rw [List.mem_take_iff_getElem]
  exact ⟨j, by omega, by simp [show j < xs.length by omega]⟩

theorem refDeep_any (n c : Nat) (h1 : 2 ≤ n) (h2 : n ≤ 16) (h3 : c < 2 ^ n) (w : World) :
    Calls Tryd.prog 28 #[.int .i64 n, .int .i64 c] w fun e w' => e = .returned (.bool (deepB (vecN n c))) ∧ Below w.heap.size w w' := by
  have HV := Lib.hid (refVector_any n c h1 h2 h3 w)
  have Hl := Lib.hid (vecN_length n c)
  generalize vecN n c = xs at HV Hl
  clear h3
  go_enter Tryd.func28, Tryd.ntmps28
  go_wp2_with fail
  refine HV.out.mono ?_
  rintro e W ⟨b, rfl, hb, hr, hB⟩
  go_wp2_with fail
  have HR := Lib.hid hr
  clear hr
  go_loop [6, 7, 9, 15] (fun _ _ _ i => ∃ k : Nat, k ≤ n / 2 ∧ i = .int .i64 k ∧ deepTo xs k) (fun _ _ _ i => n / 2 - (intOf i).toNat)
  case atStart => exact ⟨0, Nat.zero_le _, rfl, fun i hi => by omega⟩
  case round =>
    obtain ⟨k, hk, rfl, hd⟩ := hrel
    have HD := Lib.hid hd
    clear hd
    by_cases hlt : k < n / 2
    · have cx := (HR.out.cell k).trans (ints_at (by rw [Hl.out]; exact hlt))
      obtain ⟨x, hx⟩ : ∃ x, xs[k]?.getD 0 = x := ⟨_, rfl⟩
      rw [hx] at cx
      have Hx := Lib.hid hx
      clear hx
      go_wp2_with fail
      go_loop [9, 24] (fun _ j => ∃ y : Nat, y ≤ k ∧ j = .int .i64 y ∧ (x ≠ 0 → x ∉ xs.take y)) (fun _ j => k - (intOf j).toNat)
      case atStart => exact ⟨0, Nat.zero_le _, rfl, by simp⟩
      case round =>
        obtain ⟨y, hy, rfl, hn⟩ := hrel
        have HN := Lib.hid hn
        clear hn
        by_cases hly : y < k
        · have cy := (HR.out.cell y).trans (ints_at (by rw [Hl.out]; omega))
          obtain ⟨z, hz⟩ : ∃ z, xs[y]?.getD 0 = z := ⟨_, rfl⟩
          rw [hz] at cy
          have Hz := Lib.hid hz
          clear hz
          by_cases he : x = z ∧ x ≠ 0
          · obtain ⟨rfl, h0⟩ := he
            have t1 : ((x : Int) != 0) = true := by rw [bne_iff_ne]; omega
            have t2 : ((x : Int) == 0) = false := by rw [beq_eq_false_iff_ne]; omega
            have F := Lib.hid (deepB_false (xs := xs) (i := k) (by rw [Hl.out]; exact hlt) (by rw [Hx.out]; exact h0) (by rw [Hx.out, ← Hz.out]; exact mem_take_at hly (by rw [Hl.out]; omega)))
            clear h0
            go_wp2
            go_ret
            exact ⟨ret_bool F.out.symm, hB⟩
          · have HN2 := Lib.hid (show x ≠ 0 → x ∉ xs.take (y + 1) from fun h0 hm => by
              rcases (take_succ_mem (by rw [Hl.out]; omega)).1 hm with h | h
              · exact HN.out h0 h
              · exact he ⟨h.trans Hz.out, h0⟩)
            by_cases h0 : x = 0
            · have t1 : ((x : Int) != 0) = false := by rw [bne_eq_false_iff_eq]; omega
              have H0 := Lib.hid h0
              clear he h0
              by_cases hxz : x = z
              · have t2 : ((x : Int) == (z : Int)) = true := by rw [beq_iff_eq]; omega
                have HX := Lib.hid hxz
                clear hxz
                go_wp2
                go_round
                case rel => exact ⟨y + 1, by omega, by go_num, HN2.out⟩
                case measure => simp only [intOf]; omega
              · have t2 : ((x : Int) == (z : Int)) = false := by rw [beq_eq_false_iff_ne]; omega
                clear hxz
                go_wp2
                go_round
                case rel => exact ⟨y + 1, by omega, by go_num, HN2.out⟩
                case measure => simp only [intOf]; omega
            · have hxz : x ≠ z := fun e => he ⟨e, h0⟩
              have t1 : ((x : Int) == (z : Int)) = false := by rw [beq_eq_false_iff_ne]; omega
              clear he h0 hxz
              go_wp2
              go_round
              case rel => exact ⟨y + 1, by omega, by go_num, HN2.out⟩
              case measure => simp only [intOf]; omega
        · obtain rfl : y = k := by omega
          have HD2 := Lib.hid (show deepTo xs (y + 1) from fun i hi h0 => by
            by_cases h : i < y
            · exact HD.out i h h0
            · obtain rfl : i = y := by omega
              rw [Hx.out] at h0 ⊢; exact HN.out h0)
          go_wp2
          go_round
          case rel => exact ⟨y + 1, by omega, by go_num, HD2.out⟩
          case measure => simp only [intOf]; omega
    · obtain rfl : k = n / 2 := by omega
      have F := Lib.hid (deepB_true (xs := xs) (by rw [Hl.out]; exact HD.out))
      go_wp2
      go_ret
      exact ⟨ret_bool F.out.symm, hB⟩

theorem ownsMap_below {H : Type} {P : Program} {k : TypeId} {R : Value → Option (DataW H × List MemPlace)} {w w' : World} {b n : Nat} {D : DataW H} (h : w.ownsMap P k R b n D) (hb : Below w.heap.size w w') : w'.ownsMap P k R b n D :=
  h.kept ⟨hb.os, hb.tape, hb.output, hb.size, fun i hi _ => hb.block i hi⟩ (row := none) (by simp)

theorem plainElem_bool_inv {H : Type} {P : Program} {e : TypeId} (he : P.underlying e = some .bool) {v : Value} {y : Bool} {ps : List MemPlace} (h : plainElem (H := H) P e v = some (.lit (.bool y), ps)) : v = .bool y := by
  unfold plainElem at h
  rw [he] at h
  cases v <;> simp at h
  rw [h.1]

theorem Deep_bad (n c : Int) (h : vldB n c = false) (w : World) :
    Calls Tryd.prog 25 #[.int .i64 n, .int .i64 c] w fun e w' => e = .returned (.tuple #[.bool false, .int .i64 2]) ∧ Below w.heap.size w w' := by
  have HV := Lib.hid (valid_of n c _ h)
  clear h
  go_enter Tryd.func25, Tryd.ntmps25
  go_wp2_with (go_at_call 47; refine (HV.out _ _ (cell_at rfl)).mono ?_; rintro e w' ⟨rfl, rfl⟩)
  go_ret2
  exact ⟨rfl, (Below.refl _ w).alloc (Nat.le_refl _) _⟩

theorem Deep_ok (n c : Nat) (h1 : 2 ≤ n) (h2 : n ≤ 16) (h3 : c < 2 ^ n) (w : World) (hT : Tab w) :
    Calls Tryd.prog 25 #[.int .i64 n, .int .i64 c] w fun e w' => e = .returned (.tuple #[.bool (deepB (vecN n c)), .int .i64 0]) ∧ Below w.heap.size w w' := by
  have HV := Lib.hid (valid_of n c _ (vldB_of_nat h1 h2 h3))
  have hB : Below w.heap.size w ((w.alloc (.cells #[.int .i64 c] 3)).alloc (.map #[] 0)) := ((Below.refl _ w).alloc (Nat.le_refl _) _).alloc (by simp) _
  have HM := Lib.hid (vector_any n c h1 h2 h3 ((w.alloc (.cells #[.int .i64 c] 3)).alloc (.map #[] 0)) (hT.same hB))
  have hmm := @run_makeMap Tryd.prog
  have hown := World.ownsMap_made (w.alloc (.cells #[.int .i64 c] 3)) Tryd.prog 3 (plainElem (H := Unit) Tryd.prog 4)
  have Hl := Lib.hid (vecN_length n c)
  have Hm := Lib.hid (vecN_le n c)
  generalize vecN n c = xs at HM Hl Hm
  clear hT h3
  go_enter Tryd.func25, Tryd.ntmps25
  go_wp2_with (go_at_call 47; refine (HV.out _ _ (cell_at rfl)).mono ?_; rintro e w' ⟨rfl, rfl⟩)
  refine HM.out.mono ?_
  rintro e W ⟨b, rfl, hb, hr, hB2⟩
  have hown2 := ownsMap_below hown hB2
  have hB3 := hB.trans (hB2.mono (by simp; omega))
  have hs : ∀ (a b : Obj), ((w.alloc a).alloc b).heap.size = w.heap.size + 1 + 1 := fun a b => by simp
  rw [hs] at hb
  rw [World.size_alloc] at hown2
  have hMb : w.heap.size + 1 < b := by omega
  have hMw : w.heap.size ≤ w.heap.size + 1 := by omega
  clear hown hmm hB hB2 HV HM hs hb
  have HR := Lib.hid hr
  clear hr
  go_wp2_with fail
  go_loopw [8, 19] (fun _ i wr => ∃ (k : Nat) (D : DataW Unit), k ≤ n / 2 ∧ i = .int .i64 k ∧ wr.ownsMap Tryd.prog 3 (plainElem Tryd.prog 4) (w.heap.size + 1) k D ∧ Maps.IsMap D ∧
    (∀ v : Nat, D.atKey (.int .i64 v) (.lit (.bool false)) = .lit (.bool (decide (v ∈ xs.take k)))) ∧ Row wr b 3 (ints xs) ∧ deepTo xs k ∧ Below w.heap.size w wr) (fun _ i _ => n / 2 - (intOf i).toNat)
  case atStart => exact ⟨0, .map [], Nat.zero_le _, rfl, hown2, ⟨[], rfl⟩, fun v => by simp; rfl, HR.out, fun i hi => by omega, hB3⟩
  case round =>
    obtain ⟨k, D, hk, rfl, hown, hIs, hat, hr, hd, hBr⟩ := hrel
    by_cases hlt : k < n / 2
    · have hx4 := Hm.out k
      have cx := (hr.cell k).trans (ints_at (by rw [Hl.out]; exact hlt))
      have HMem := Lib.hid (fun v => take_succ_mem (xs := xs) (k := k) (v := v) (by rw [Hl.out]; exact hlt))
      have HFal := Lib.hid (fun (h0 : xs[k]?.getD 0 ≠ 0) hm => deepB_false (xs := xs) (i := k) (by rw [Hl.out]; exact hlt) h0 hm)
      have HDeep := Lib.hid (fun (h0 : xs[k]?.getD 0 = 0 ∨ xs[k]?.getD 0 ∉ xs.take k) => show deepTo xs (k + 1) from fun i hi hne => by
        by_cases h : i < k
        · exact hd i h hne
        · obtain rfl : i = k := by omega
          rcases h0 with h0 | h0
          · exact absurd h0 hne
          · exact h0)
      clear hd
      obtain ⟨x, hx⟩ : ∃ x, xs[k]?.getD 0 = x := ⟨_, rfl⟩
      rw [hx] at cx hx4 HMem HFal HDeep
      have hwf : (Lit.int .i64 (x : Int)).wf = true := by have := wrap64_wf (x : Int); rwa [IntWalk.wrap64_in _ (by omega)] at this
      obtain ⟨v, ps, hrun, hv⟩ := hown.lookup (Maps.int_keyed Tryd.underlying3) Tryd.underlying60 (z := .bool false) (by kernel_rfl) (plainElem_bool Tryd.underlying4 false) (Maps.keyOf_int_mk Tryd.underlying3 hwf)
      rw [hat x] at hv
      obtain rfl := plainElem_bool_inv Tryd.underlying4 hv
      have HAt := Lib.hid (show ∀ v : Nat, (D.put (.int .i64 x) (.lit (.bool true))).atKey (.int .i64 v) (.lit (.bool false)) = .lit (.bool (decide (v ∈ xs.take (k + 1)))) from fun v => by
        by_cases hvx : v = x
        · rw [hvx, Maps.atKey_put_same hIs (show WideAt.IsKeyLit (.int .i64 (x : Int)) from trivial), decide_eq_true ((HMem.out x).2 (Or.inr rfl))]
        · rw [Maps.atKey_put_other (fun e => hvx (by cases e; rfl)), hat v]
          congr 2
          rw [decide_eq_decide, HMem.out v]
          exact ⟨Or.inl, fun h => h.resolve_right hvx⟩)
      have HIs := Lib.hid (show Maps.IsMap (D.put (.int .i64 x) (.lit (.bool true))) from by obtain ⟨es, rfl⟩ := hIs; exact ⟨_, rfl⟩)
      have HRr := Lib.hid hr
      clear hx hv hat hr hIs
      by_cases h0 : x = 0
      · have t1 : ((x : Int) != 0) = false := by rw [bne_eq_false_iff_eq]; omega
        have HD2 := Lib.hid (HDeep.out (Or.inl h0))
        clear h0 hrun
        go_wp2_with (at_mapUpdate; refine wpList_mapUpdate_own _ rfl _ _ _ 60 rfl 3 4 (Maps.int_keyed Tryd.underlying3) Tryd.underlying60 _ (w.heap.size + 1) k _ rfl hown (by unfold maxLen; omega) _ _ _ rfl rfl (Maps.keyOf_int_mk Tryd.underlying3 hwf) _ [] (plainElem_bool Tryd.underlying4 true) ?_; intro w1 hown1 hgrow1)
        go_roundw
        case rel => exact ⟨k + 1, _, by omega, by go_num, hown1, HIs.out, HAt.out, HRr.out.grown hgrow1 (by simp; omega), HD2.out, hBr.grown hgrow1 hBr.size (fun q e => by cases e; exact hMw)⟩
        case measure => simp only [intOf]; omega
      · have t1 : ((x : Int) != 0) = true := by rw [bne_iff_ne]; omega
        by_cases hm : x ∈ xs.take k
        · rw [decide_eq_true hm] at hrun
          have F := Lib.hid (HFal.out h0 hm)
          clear h0 hm
          go_wp2
          go_ret2
          refine ⟨?_, hBr⟩
          show Ending.returned (.tuple #[.bool false, .int .i64 0]) = _
          rw [F.out]
        · rw [decide_eq_false hm] at hrun
          have HD2 := Lib.hid (HDeep.out (Or.inr hm))
          clear h0 hm
          go_wp2_with (at_mapUpdate; refine wpList_mapUpdate_own _ rfl _ _ _ 60 rfl 3 4 (Maps.int_keyed Tryd.underlying3) Tryd.underlying60 _ (w.heap.size + 1) k _ rfl hown (by unfold maxLen; omega) _ _ _ rfl rfl (Maps.keyOf_int_mk Tryd.underlying3 hwf) _ [] (plainElem_bool Tryd.underlying4 true) ?_; intro w1 hown1 hgrow1)
          go_roundw
          case rel => exact ⟨k + 1, _, by omega, by go_num, hown1, HIs.out, HAt.out, HRr.out.grown hgrow1 (by simp; omega), HD2.out, hBr.grown hgrow1 hBr.size (fun q e => by cases e; exact hMw)⟩
          case measure => simp only [intOf]; omega
    · obtain rfl : k = n / 2 := by omega
      have F := Lib.hid (deepB_true (xs := xs) (by rw [Hl.out]; exact hd))
      clear hd hat hIs hr
      go_wp2
      go_ret2
      refine ⟨?_, hBr⟩
      show Ending.returned (.tuple #[.bool true, .int .i64 0]) = _
      rw [F.out]

theorem ChordsVectors_walk (n c : Int) (_w0 : (Lit.int .i64 n).wf = true) (_w1 : (Lit.int .i64 c).wf = true) (w : World) (hT : Tab w) :
    Calls Tryd.prog 4 #[.int .i64 n, .int .i64 c] w fun e w' => e = .returned (.bool true) ∧ Below w.heap.size w w' := by
  by_cases hv : vldB n c = true
  · have HV : ∀ V : World, Calls Tryd.prog 18 #[.int .i64 n, .int .i64 c] V fun e w' => e = .returned (.bool true) ∧ V = w' := fun V => by
      have := Valid_any n c V; rwa [hv] at this
    have HV' := Lib.hid HV
    clear HV
    obtain ⟨n, c, rfl, rfl, h1, h2, h3⟩ := vldB_nat hv
    have H1 := Lib.hid (Vector_ok n c h1 h2 h3)
    have H2 := Lib.hid (Deep_ok n c h1 h2 h3)
    have R1 := Lib.hid (refVector_any n c h1 h2 h3)
    have R2 := Lib.hid (refDeep_any n c h1 h2 h3)
    have Hl := Lib.hid (vecN_length n c)
    generalize vecN n c = xs at H1 H2 R1 R2 Hl
    generalize deepB xs = d at H2 R2
    have HE := Lib.hid (fun b1 b2 c1 c2 V r1 r2 => EqualInts_same xs b1 b2 c1 c2 V (by rw [Hl.out]; omega) r1 r2)
    clear hv h3
    go_enter Tryd.func4, Tryd.ntmps4
    go_wp2_with fail
    refine (H1.out _ hT).mono ?_
    rintro e w1 ⟨b1, rfl, hb1, r1, bl1⟩
    have t1 := hT.same bl1
    go_wp2_with fail
    refine (H2.out _ t1).mono ?_
    rintro e w2 ⟨rfl, bl2⟩
    have c2 := below_next bl1 bl2
    have r1' := r1.later bl2
    clear r1 bl1 bl2 t1 hT
    go_wp2_with fail
    refine (HV'.out _).mono ?_
    rintro e w4 ⟨rfl, rfl⟩
    go_wp2_with fail
    refine (R1.out _).mono ?_
    rintro e w3 ⟨b3, rfl, hb3, r3, bl3⟩
    have c3 := below_next c2 bl3
    have r1'' := r1'.later bl3
    clear r1' bl3 c2
    have HE' := Lib.hid (HE.out b1 b3 (n / 2) (n / 2) w3 (rows_cells r1'') (rows_cells r3))
    have HE2 : Calls Tryd.prog 26 #[.slice (some ⟨b1, 0, none⟩) (n / 2) (n / 2), .slice (some ⟨b3, 0, none⟩) (n / 2) (n / 2)] w3 fun e w' => e = .returned (.bool true) ∧ ∃ m, w' = w3.drewN m := by
      have := HE'.out; rwa [Hl.out] at this
    have HE3 := Lib.hid HE2
    clear HE2 r1'' r3
    go_wp2_with fail
    refine HE3.out.mono ?_
    rintro e w4 ⟨rfl, m, rfl⟩
    have c4 := below_drewN c3 m
    go_wp2_with fail
    refine (R2.out _).mono ?_
    rintro e w5 ⟨rfl, bl5⟩
    have c5 := below_next c4 bl5
    clear c4 bl5 c3
    go_wp2_with fail
    refine (awake_any _).mono ?_
    rintro e w6 ⟨rfl, bl6⟩
    have c6 := below_next c5 bl6
    go_wp2
    go_ret
    exact ⟨rfl, c6⟩
  · have hv' : vldB n c = false := by simpa using hv
    have HV : ∀ V : World, Calls Tryd.prog 18 #[.int .i64 n, .int .i64 c] V fun e w' => e = .returned (.bool false) ∧ V = w' := fun V => by
      have := Valid_any n c V; rwa [hv'] at this
    have HV' := Lib.hid HV
    have H1 := Lib.hid (Vector_bad n c hv')
    have H2 := Lib.hid (Deep_bad n c hv')
    clear hv hv' hT HV
    go_enter Tryd.func4, Tryd.ntmps4
    go_wp2_with fail
    refine (H1.out _).mono ?_
    rintro e w1 ⟨rfl, bl1⟩
    go_wp2_with fail
    refine (H2.out _).mono ?_
    rintro e w2 ⟨rfl, bl2⟩
    go_wp2_with fail
    refine (HV'.out _).mono ?_
    rintro e w4 ⟨rfl, rfl⟩
    go_wp2_with fail
    refine (awake_any _).mono ?_
    rintro e w5 ⟨rfl, b5⟩
    go_wp2
    go_ret
    exact ⟨rfl, below_next (below_next bl1 bl2) b5⟩

end Go.Proofs.YtehjdhegnpmfaaaDoor
