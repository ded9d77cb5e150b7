/-
  The program's script does what it has to: run makes the other line of the first, at the least cost.
-/
import Derived.Test.YtkpmkeklopfhdaaEdScriptP
import Derived.Test.YtkpmkeklopfhdaaEdRDone
import Derived.Test.YtkpmkeklopfhdaaEdTriLaw
import Derived.Test.YtkpmkeklopfhdaaEdHeights
import Derived.Test.YtkpmkeklopfhdaaEdBndLaw
namespace Go.Proofs.Ytkpmkeklopfhdaa

section
open Go.ChangeShapes Go.WideShapes Go.ChangeAt Go.RowKit
set_option linter.unusedVariables false
set_option maxRecDepth 100000

theorem toN_ofN (e : Nat × Nat) : toN (ofN e) = e := by unfold toN ofN; simp
theorem map_toN (l : List (Nat × Nat)) : (l.map ofN).map toN = l := by
  rw [List.map_map]
  conv => rhs; rw [← List.map_id l]
  exact List.map_congr_left fun e _ => toN_ofN e

/-- What can be done on numbers can be done on bytes. -/
theorem doE_can (pi po ps : Nat) (a : ByteArray) : ∀ (es : List (Int × Int)) (i : Nat) (C : List Nat) (c : List UInt8) (cost : Nat) (y : List Nat × List Nat × Nat), i ≤ a.size → es.all editP = true → doE pi po ps (es.map toN) ((bsN a).drop i, C, cost) = some y → ∃ x, runL es (a.extract i a.size) c = some x
  | [], i, C, c, cost, y, hi, _, _ => ⟨_, rfl⟩
  | (k, b) :: es, i, C, c, cost, y, hi, ha, h => by
    rw [List.all_cons, Bool.and_eq_true] at ha
    have hg := edit_good ha.1
    have hnil : ¬ i < a.size → (bsN a).drop i = [] := fun h => List.drop_of_length_le (by rw [bsN_length]; omega)
    have hcons : i < a.size → (bsN a).drop i = atB (bsN a) i :: (bsN a).drop (i + 1) := fun h => drop_at (by rw [bsN_length]; exact h)
    simp only [runL]
    rcases hg with ⟨rfl, rfl⟩ | ⟨rfl, rfl⟩ | ⟨n, hn, rfl, rfl | rfl⟩
    · by_cases hl : i < a.size
      · obtain ⟨e1, _⟩ := at_keep hl 0
        have e2 : (doneV (0, 0) (a.extract i a.size)).2.1 = a.extract (i + 1) a.size := by rw [e1]
        have e3 : (doneV (0, 0) (a.extract i a.size)).2.2 = true := by rw [e1]
        rw [if_pos e3, e2]
        rw [hcons hl] at h
        simp [toN, doE] at h
        exact doE_can pi po ps a es (i + 1) _ _ _ y hl ha.2 h
      · rw [hnil hl] at h; simp [toN, doE] at h
    · by_cases hl : i < a.size
      · have e1 := at_out hl 0
        have e2 : (doneV (2, 0) (a.extract i a.size)).2.1 = a.extract (i + 1) a.size := by rw [e1]
        have e3 : (doneV (2, 0) (a.extract i a.size)).2.2 = true := by rw [e1]
        rw [if_pos e3, e2]
        rw [hcons hl] at h
        simp [toN, doE] at h
        exact doE_can pi po ps a es (i + 1) _ _ _ y hl ha.2 h
      · rw [hnil hl] at h; simp [toN, doE] at h
    · by_cases hl : i < a.size
      · rw [hcons hl] at h
        simp [toN, doE] at h
        obtain ⟨h1, h2⟩ := h
        have e1 := at_swap (b := n) hl hn
        have e2 : (doneV (1, (n : Int)) (a.extract i a.size)).2.1 = a.extract (i + 1) a.size := by rw [e1]
        have e3 : (doneV (1, (n : Int)) (a.extract i a.size)).2.2 = true := by rw [e1, decide_eq_false h1]; rfl
        rw [if_pos e3, e2]
        exact doE_can pi po ps a es (i + 1) _ _ _ y hl ha.2 h2
      · rw [hnil hl] at h; simp [toN, doE] at h
    · have e1 := at_in (n : Int) (a.extract i a.size)
      have e2 : (doneV (3, (n : Int)) (a.extract i a.size)).2.1 = a.extract i a.size := by rw [e1]
      have e3 : (doneV (3, (n : Int)) (a.extract i a.size)).2.2 = true := by rw [e1]
      rw [if_pos e3, e2]
      simp [toN, doE] at h
      exact doE_can pi po ps a es i _ _ _ y hi ha.2 h

theorem scr_edits (A B : List Nat) (pi po ps : Nat) (hB : ∀ i, atB B i < 256) : ∀ (n i j : Nat), ((scrF A B pi po ps n i j).map ofN).all editP = true
  | 0, _, _ => rfl
  | n + 1, i, j => by
    unfold scrF
    by_cases h0 : i = 0 ∧ j = 0
    · rw [if_pos h0]; rfl
    · rw [if_neg h0, List.map_append, List.all_append, scr_edits A B pi po ps hB n, Bool.true_and]
      have h1 : ∀ k b : Int, (k = 0 ∨ k = 2) ∧ b = 0 ∨ (k = 1 ∨ k = 3) ∧ (0 ≤ b ∧ b ≤ 255) → editP (k, b) = true := fun k b h => by
        unfold editP
        rcases h with ⟨h, hb⟩ | ⟨h, hb⟩
        · rw [editB_even h, decide_eq_true hb]
        · rw [editB_odd h, decide_eq_true hb.1, decide_eq_true hb.2]; rfl
      have key : editP (ofN ((pl A B pi po ps i j).k.toNat, (pl A B pi po ps i j).b.toNat)) = true := by
        unfold ofN
        cases pl_last A B pi po ps i j h0 with
        | keep r c e1 e2 e hk hb _ _ _ => rw [hk, hb]; exact h1 _ _ (by simp)
        | swap r c e1 e2 e hk hb _ _ _ => rw [hk, hb]; exact h1 _ _ (by have := hB c; simp; omega)
        | out r e1 hk hb _ _ _ => rw [hk, hb]; exact h1 _ _ (by simp)
        | inn c e1 hk hb _ _ _ => rw [hk, hb]; exact h1 _ _ (by have := hB c; simp; omega)
      simpa using key
theorem scr_len (A B : List Nat) (pi po ps : Nat) : ∀ (n i j : Nat), (scrF A B pi po ps n i j).length ≤ n
  | 0, _, _ => Nat.le_refl _
  | n + 1, i, j => by
    unfold scrF
    by_cases h0 : i = 0 ∧ j = 0
    · rw [if_pos h0]; exact Nat.zero_le _
    · rw [if_neg h0, List.length_append]
      have := scr_len A B pi po ps n (pl A B pi po ps i j).i.toNat (pl A B pi po ps i j).j.toNat
      simpa using this

theorem scrI_edits (a b : ByteArray) (pi po ps : Nat) : (scrI a b pi po ps).all editP = true := scr_edits _ _ _ _ _ (bsN_lt b) _ _ _
theorem scrI_len (a b : ByteArray) (pi po ps : Nat) : (scrI a b pi po ps).length ≤ a.size + b.size := by
  unfold scrI; rw [List.length_map]; exact scr_len _ _ _ _ _ _ _ _
/-- run makes the other line of the first; the script's sum is the least cost. -/
theorem scrI_run (a b : ByteArray) {pi po ps : Nat} (h : Pr pi po ps) : runR (scrI a b pi po ps) a = (b, true) ∧ sumP pi po ps (scrI a b pi po ps) = cst a b pi po ps := by
  have hd := scr_done (bsN a) (bsN b) h (a.size + b.size) a.size b.size (Nat.le_refl _) (by rw [bsN_length]; exact Nat.le_refl _) (by rw [bsN_length]; exact Nat.le_refl _)
  have hm : (scrI a b pi po ps).map toN = scrF (bsN a) (bsN b) pi po ps (a.size + b.size) a.size b.size := map_toN _
  have ha := scrI_edits a b pi po ps
  have hd2 := hd
  rw [← hm] at hd
  obtain ⟨⟨s', c'⟩, hx⟩ := doE_can pi po ps a (scrI a b pi po ps) 0 [] [] 0 _ (Nat.zero_le _) ha hd
  rw [ext_all] at hx
  have hr := run_doE pi po ps (scrI a b pi po ps) a s' [] c' 0 ha hx
  rw [List.map_nil, hd] at hr
  simp only [Option.some.injEq, Prod.mk.injEq, Nat.zero_add] at hr
  obtain ⟨r1, r2, r3⟩ := hr
  have hs : s'.size = 0 := by
    have := congrArg List.length r1
    rw [List.length_drop, bsN_length, bsN_length] at this
    omega
  refine ⟨?_, ?_⟩
  · rw [runR_some ha hx, decide_eq_true hs]
    congr 1
    apply bsN_inj
    show c'.map UInt8.toNat = _
    rw [← r2, List.take_of_length_le (by rw [bsN_length]; exact Nat.le_refl _)]
  · rw [sumP_N, ← r3]
    have := (pl_pos (bsN a) (bsN b) h a.size b.size).1
    unfold cst
    omega
end

section
/-
  The costs from the beginning are heights that are accepted; slices.Clone at edits.
-/
open Go.ChangeShapes Go.WideShapes Go.ChangeAt Go.RowKit
set_option linter.unusedVariables false
set_option maxRecDepth 100000

theorem ht_tab {n m : Nat} {f : Nat → Nat → Int} {i j : Nat} (hi : i < n) (hj : j < m) : ht (tabL n m f) i j = f i j := by
  unfold ht tabL
  simp [hi, hj]
theorem heights_of {A B : List Nat} {pi po ps : Nat} {f : Nat → Nat → Int} (h : HtB A B pi po ps f) (hb : ∀ i j, i ≤ A.length → j ≤ B.length → -1000 ≤ f i j ∧ f i j ≤ 1000) :
    heightsB A B pi po ps (tabL (A.length + 1) (B.length + 1) f) = true := by
  unfold heightsB
  rw [Bool.and_eq_true, Bool.and_eq_true, Bool.and_eq_true]
  refine ⟨decide_eq_true (by simp [tabL]), ?_, decide_eq_true (by rw [ht_tab (by omega) (by omega)]; exact h.zero), ?_⟩
  · rw [List.all_eq_true]
    intro r hr
    unfold tabL at hr
    obtain ⟨i, hi, rfl⟩ := List.mem_map.1 hr
    have hi' := List.mem_range.1 hi
    unfold hrowB
    rw [Bool.and_eq_true]
    refine ⟨decide_eq_true (by simp), ?_⟩
    rw [List.all_eq_true]
    intro x hx
    obtain ⟨j, hj, rfl⟩ := List.mem_map.1 hx
    have hj' := List.mem_range.1 hj
    obtain ⟨h1, h2⟩ := hb i j (by omega) (by omega)
    unfold numB
    rw [decide_eq_true h1, decide_eq_true h2]; rfl
  · rw [List.all_eq_true]
    intro p hp
    unfold pairs at hp
    obtain ⟨i, hi, hp⟩ := List.mem_flatMap.1 hp
    obtain ⟨j, hj, rfl⟩ := List.mem_map.1 hp
    have hi' := List.mem_range.1 hi
    have hj' := List.mem_range.1 hj
    unfold okP
    rw [List.all_eq_true]
    intro x hx
    unfold okE
    apply decide_eq_true
    simp only [] at hx ⊢
    rw [ht_tab (show i < A.length + 1 by omega) (show j < B.length + 1 by omega)]
    rw [nextL_eq] at hx
    rcases List.mem_append.1 hx with hx | hx
    · split at hx
      · rename_i hij
        have := h.both i j hij.1 hij.2
        split at hx
        · rename_i e
          obtain rfl := List.mem_singleton.1 hx
          rw [if_pos e] at this
          rw [ht_tab (by show i + 1 < _; omega) (by show j + 1 < _; omega)]
          simp only [prc]
          simpa using this
        · rename_i e
          obtain rfl := List.mem_singleton.1 hx
          rw [if_neg e] at this
          rw [ht_tab (by show i + 1 < _; omega) (by show j + 1 < _; omega)]
          simp only [prc]
          simpa using this
      · cases hx
    · rcases List.mem_append.1 hx with hx | hx
      · split at hx
        · rename_i hil
          obtain rfl := List.mem_singleton.1 hx
          have := h.out i j hil (by omega)
          rw [ht_tab (by show i + 1 < _; omega) (by show j < _; omega)]
          simp only [prc]
          simpa using this
        · cases hx
      · split at hx
        · rename_i hjl
          obtain rfl := List.mem_singleton.1 hx
          have := h.inn i j (by omega) hjl
          rw [ht_tab (by show i < _; omega) (by show j + 1 < _; omega)]
          simp only [prc]
          simpa using this
        · cases hx
/-- The program's heights. -/
def tabI (a b : ByteArray) (pi po ps : Nat) : List (List Int) := tabL (a.size + 1) (b.size + 1) fun i j => (pl (bsN a) (bsN b) pi po ps i j).c
theorem tabI_ok (a b : ByteArray) {pi po ps : Nat} (h : Pr pi po ps) (ha : a.size ≤ 12) (hb : b.size ≤ 12) : heightsB (bsN a) (bsN b) pi po ps (tabI a b pi po ps) = true ∧ ht (tabI a b pi po ps) a.size b.size = cst a b pi po ps := by
  refine ⟨?_, ht_tab (by omega) (by omega)⟩
  have := heights_of (ht_pl (bsN a) (bsN b) h) (fun i j hi hj => by
    rw [bsN_length] at hi hj
    obtain ⟨h1, h2, _⟩ := pl_bounds (bsN a) (bsN b) pi po ps h.i h.o h.s _ i j (Nat.le_refl _)
    exact ⟨by omega, by omega⟩)
  rw [bsN_length, bsN_length] at this
  exact this
theorem tabI_len (a b : ByteArray) (pi po ps : Nat) : (tabI a b pi po ps).length = a.size + 1 := by simp [tabI, tabL]
theorem tabI_row (a b : ByteArray) (pi po ps : Nat) : ∀ r ∈ tabI a b pi po ps, r.length = b.size + 1 := fun r hr => by
  unfold tabI tabL at hr
  obtain ⟨i, _, rfl⟩ := List.mem_map.1 hr
  simp
theorem tabI_cut (a b : ByteArray) (pi po ps : Nat) (ha : a.size ≤ 12) (hb : b.size ≤ 12) : ((tabI a b pi po ps).take 16).map (List.take 16) = tabI a b pi po ps := by
  rw [List.take_of_length_le (by rw [tabI_len]; omega)]
  conv => rhs; rw [← List.map_id (tabI a b pi po ps)]
  exact List.map_congr_left fun r hr => List.take_of_length_le (by rw [tabI_row a b pi po ps r hr]; omega)

set_option maxHeartbeats 2000000 in
theorem CloneE_any (es : List (Int × Int)) (hl : es.length ≤ 4096) (v : Value) (w : World) (hv : EdsV w v es) :
    Calls Try.prog 53 #[v] w fun e w' => ∃ v', e = .returned v' ∧ EdsV w' v' es ∧ Below w.heap.size w w' := by
  obtain ⟨i0, hi, hz0, hz1, hz2⟩ := info_parts info_edE
  have q30 : ∀ (w : World) (a : Option Addr) (n c n' c' : Nat), (binOp .eql 30 (.slice a n c) (.slice none n' c')).run Try.prog w = .ok (.bool a.isNone) w := fun w a n c n' c' => Lib.run_eql_slice_nil w _ _ a n c n' c' Try.underlying30
  obtain ⟨ao, cap, rfl, hlc, hd⟩ := hv
  cases ao with
  | none =>
    have h0 : es = [] := by
      rcases Nat.eq_zero_or_pos es.length with h | h
      · exact List.eq_nil_of_length_eq_zero h
      · obtain ⟨b, off, e, _⟩ := hd h; cases e
    subst h0
    go_enter Try.func53, Try.ntmps53
    go_wp2
    go_ret
    exact ⟨_, rfl, ⟨none, 0, rfl, Nat.le_refl _, fun h => absurd h (by simp)⟩, Below.refl _ _⟩
  | some ad =>
    have HD := Lib.hid hd
    clear hd
    go_enter Try.func53, Try.ntmps53
    go_wp2_with (at_builtin; refine wpList_append_own _ rfl _ _ 30 rfl w.heap.size 77 i0 (.agg #[.int .i64 0, .int .i64 0]) 2 16 Try.underlying30 hi hz0 hz1 hz2 rfl (by decide) _ _ _ rfl (World.ownsRow_made w #[] 0 (Nat.le_refl _) (Nat.zero_le _) rfl) ad es.length cap (cellsE es) rfl ?qc1 ?qc2 ?qc3 ?qc4 ?qc5 ?qc6 ?_)
    case qc1 => exact cellsE_length es
    case qc2 =>
      intro j u hj
      have hjl : j < es.length * 2 := by
        have := (List.getElem?_eq_some_iff.1 hj).1
        rwa [cellsE_length] at this
      obtain ⟨b, off, e, hc⟩ := HD.out (by omega)
      cases e
      refine Lib.cell?_alloc_some _ ?_
      obtain ⟨k1, k2⟩ := hc (j / 2) (by omega)
      obtain ⟨g1, g2⟩ := cellsE_at es (j / 2) (by omega)
      rw [Addr.add_lit]
      rcases (show j = j / 2 * 2 ∨ j = j / 2 * 2 + 1 by omega) with h | h
      · rw [show off + j = off + j / 2 * 2 by omega, k1, ← g1, ← h, hj]
      · rw [show off + j = off + j / 2 * 2 + 1 by omega, k2, ← g2, ← h, hj]
    case qc3 =>
      intro u hu
      unfold cellsE at hu
      obtain ⟨x, _, hu⟩ := List.mem_flatMap.1 hu
      simp at hu
      rcases hu with rfl | rfl <;> rfl
    case qc4 => unfold maxLen; omega
    case qc5 => omega
    case qc6 => simp
    intro v' w1 hown hgrow hnil
    have HO := Lib.hid (edsV_own (lo := w.heap.size) (v := v') (es := es) hown)
    have HB := Lib.hid (((Below.refl _ w).alloc (Nat.le_refl _) (.cells #[] 77)).grown hgrow (by simp) (by intro k hk; simp [Value.ownBlock] at hk; omega))
    clear hown hgrow hnil
    go_wp2
    go_ret
    exact ⟨v', rfl, HO.out, HB.out⟩
end

end Go.Proofs.Ytkpmkeklopfhdaa
