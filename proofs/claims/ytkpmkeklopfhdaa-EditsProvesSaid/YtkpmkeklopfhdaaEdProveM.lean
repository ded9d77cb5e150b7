/-
  The costs from the beginning are heights that are accepted; slices.Clone at edits.
-/
import Derived.Test.YtkpmkeklopfhdaaEdHeights
import Derived.Test.YtkpmkeklopfhdaaEdBndLaw
import Derived.Test.YtkpmkeklopfhdaaEdScrRun
namespace Go.Proofs.Ytkpmkeklopfhdaa
open Go.ChangeShapes Go.WideShapes Go.ChangeAt Go.RowKit
set_option linter.unusedVariables false
set_option maxRecDepth 100000

theorem ht_tab {n m : Nat} {f : Nat → Nat → Int} {i j : Nat} (hi : i < n) (hj : j < m) : ht (tabL n m f) i j = f i j := by
  unfold ht tabL
  simp [hi, hj]
theorem heights_of {A B : List Nat} {pi po ps : Nat} {f : Nat → Nat → Int} (h : HtB A B pi po ps f) (hb : ∀ i j, i ≤ A.length → j ≤ B.length → -1000 ≤ f i j ∧ f i j ≤ 1000) :
    heightsB A B pi po ps (tabL (A.length + 1) (B.length + 1) f) = true := by
  unfold heightsB
  rw [Bool.and_eq_true, Bool.and_eq_true, Bool.and_eq_true]
  refine ⟨decide_eq_true (by simp [tabL]), ?_, decide_eq_true (by rw [ht_tab (by omega) (by omega)]; exact h.zero), ?_⟩
  · rw [List.all_eq_true]
    intro r hr
    unfold tabL at hr
    obtain ⟨i, hi, rfl⟩ := List.mem_map.1 hr
    have hi' := List.mem_range.1 hi
    unfold hrowB
    rw [Bool.and_eq_true]
    refine ⟨decide_eq_true (by simp), ?_⟩
    rw [List.all_eq_true]
    intro x hx
    obtain ⟨j, hj, rfl⟩ := List.mem_map.1 hx
    have hj' := List.mem_range.1 hj
    obtain ⟨h1, h2⟩ := hb i j (by omega) (by omega)
    unfold numB
    rw [decide_eq_true h1, decide_eq_true h2]; rfl
  · rw [List.all_eq_true]
    intro p hp
    unfold pairs at hp
    obtain ⟨i, hi, hp⟩ := List.mem_flatMap.1 hp
    obtain ⟨j, hj, rfl⟩ := List.mem_map.1 hp
    have hi' := List.mem_range.1 hi
    have hj' := List.mem_range.1 hj
    unfold okP
    rw [List.all_eq_true]
    intro x hx
    unfold okE
    apply decide_eq_true
    simp only [] at hx ⊢
    rw [ht_tab (show i < A.length + 1 by omega) (show j < B.length + 1 by omega)]
    rw [nextL_eq] at hx
    rcases List.mem_append.1 hx with hx | hx
    · split at hx
      · rename_i hij
        have := h.both i j hij.1 hij.2
        split at hx
        · rename_i e
          obtain rfl := List.mem_singleton.1 hx
          rw [if_pos e] at this
          rw [ht_tab (by show i + 1 < _; omega) (by show j + 1 < _; omega)]
          simp only [prc]
          simpa using this
        · rename_i e
          obtain rfl := List.mem_singleton.1 hx
          rw [if_neg e] at this
          rw [ht_tab (by show i + 1 < _; omega) (by show j + 1 < _; omega)]
          simp only [prc]
          simpa using this
      · cases hx
    · rcases List.mem_append.1 hx with hx | hx
      · split at hx
        · rename_i hil
          obtain rfl := List.mem_singleton.1 hx
          have := h.out i j hil (by omega)
          rw [ht_tab (by show i + 1 < _; omega) (by show j < _; omega)]
          simp only [prc]
          simpa using this
        · cases hx
      · split at hx
        · rename_i hjl
          obtain rfl := List.mem_singleton.1 hx
          have := h.inn i j (by omega) hjl
          rw [ht_tab (by show i < _; omega) (by show j + 1 < _; omega)]
          simp only [prc]
          simpa using this
        · cases hx
/-- The program's heights. -/
def tabI (a b : ByteArray) (pi po ps : Nat) : List (List Int) := tabL (a.size + 1) (b.size + 1) fun i j => (pl (bsN a) (bsN b) pi po ps i j).c
theorem tabI_ok (a b : ByteArray) {pi po ps : Nat} (h : Pr pi po ps) (ha : a.size ≤ 12) (hb : b.size ≤ 12) : heightsB (bsN a) (bsN b) pi po ps (tabI a b pi po ps) = true ∧ ht (tabI a b pi po ps) a.size b.size = cst a b pi po ps := by
  refine ⟨?_, ht_tab (by omega) (by omega)⟩
  have := heights_of (ht_pl (bsN a) (bsN b) h) (fun i j hi hj => by
    rw [bsN_length] at hi hj
    obtain ⟨h1, h2, _⟩ := pl_bounds (bsN a) (bsN b) pi po ps h.i h.o h.s _ i j (Nat.le_refl _)
    exact ⟨by omega, by omega⟩)
  rw [bsN_length, bsN_length] at this
  exact this
theorem tabI_len (a b : ByteArray) (pi po ps : Nat) : (tabI a b pi po ps).length = a.size + 1 := by simp [tabI, tabL]
theorem tabI_row (a b : ByteArray) (pi po ps : Nat) : ∀ r ∈ tabI a b pi po ps, r.length = b.size + 1 := fun r hr => by
  unfold tabI tabL at hr
  obtain ⟨i, _, rfl⟩ := List.mem_map.1 hr
  simp
theorem tabI_cut (a b : ByteArray) (pi po ps : Nat) (ha : a.size ≤ 12) (hb : b.size ≤ 12) : ((tabI a b pi po ps).take 16).map (List.take 16) = tabI a b pi po ps := by
  rw [List.take_of_length_le (by rw [tabI_len]; omega)]
  conv => rhs; rw [← List.map_id (tabI a b pi po ps)]
  exact List.map_congr_left fun r hr => List.take_of_length_le (by rw [tabI_row a b pi po ps r hr]; omega)

set_option maxHeartbeats 2000000 in
theorem CloneE_any (es : List (Int × Int)) (hl : es.length ≤ 4096) (v : Value) (w : World) (hv : EdsV w v es) :
    Calls Try.prog 53 #[v] w fun e w' => ∃ v', e = .returned v' ∧ EdsV w' v' es ∧ Below w.heap.size w w' := by
  obtain ⟨i0, hi, hz0, hz1, hz2⟩ := info_parts info_edE
  have q30 : ∀ (w : World) (a : Option Addr) (n c n' c' : Nat), (binOp .eql 30 (.slice a n c) (.slice none n' c')).run Try.prog w = .ok (.bool a.isNone) w := fun w a n c n' c' => Lib.run_eql_slice_nil w _ _ a n c n' c' Try.underlying30
  obtain ⟨ao, cap, rfl, hlc, hd⟩ := hv
  cases ao with
  | none =>
    have h0 : es = [] := by
      rcases Nat.eq_zero_or_pos es.length with h | h
      · exact List.eq_nil_of_length_eq_zero h
      · obtain ⟨b, off, e, _⟩ := hd h; cases e
    subst h0
    go_enter Try.func53, Try.ntmps53
    go_wp2
    go_ret
    exact ⟨_, rfl, ⟨none, 0, rfl, Nat.le_refl _, fun h => absurd h (by simp)⟩, Below.refl _ _⟩
  | some ad =>
    have HD := Lib.hid hd
    clear hd
    go_enter Try.func53, Try.ntmps53
    go_wp2_with (at_builtin; refine wpList_append_own _ rfl _ _ 30 rfl w.heap.size 77 i0 (.agg #[.int .i64 0, .int .i64 0]) 2 16 Try.underlying30 hi hz0 hz1 hz2 rfl (by decide) _ _ _ rfl (World.ownsRow_made w #[] 0 (Nat.le_refl _) (Nat.zero_le _) rfl) ad es.length cap (cellsE es) rfl ?qc1 ?qc2 ?qc3 ?qc4 ?qc5 ?qc6 ?_)
    case qc1 => exact cellsE_length es
    case qc2 =>
      intro j u hj
      have hjl : j < es.length * 2 := by
        have := (List.getElem?_eq_some_iff.1 hj).1
        rwa [cellsE_length] at this
      obtain ⟨b, off, e, hc⟩ := HD.out (by omega)
      cases e
      refine Lib.cell?_alloc_some _ ?_
      obtain ⟨k1, k2⟩ := hc (j / 2) (by omega)
      obtain ⟨g1, g2⟩ := cellsE_at es (j / 2) (by omega)
      rw [Addr.add_lit]
      rcases (show j = j / 2 * 2 ∨ j = j / 2 * 2 + 1 by omega) with h | h
      · rw [show off + j = off + j / 2 * 2 by omega, k1, ← g1, ← h, hj]
      · rw [show off + j = off + j / 2 * 2 + 1 by omega, k2, ← g2, ← h, hj]
    case qc3 =>
      intro u hu
      unfold cellsE at hu
      obtain ⟨x, _, hu⟩ := List.mem_flatMap.1 hu
      simp at hu
      rcases hu with rfl | rfl <;> rfl
    case qc4 => unfold maxLen; omega
    case qc5 => omega
    case qc6 => simp
    intro v' w1 hown hgrow hnil
    have HO := Lib.hid (edsV_own (lo := w.heap.size) (v := v') (es := es) hown)
    have HB := Lib.hid (((Below.refl _ w).alloc (Nat.le_refl _) (.cells #[] 77)).grown hgrow (by simp) (by intro k hk; simp [Value.ownBlock] at hk; omega))
    clear hown hgrow hnil
    go_wp2
    go_ret
    exact ⟨v', rfl, HO.out, HB.out⟩
end Go.Proofs.Ytkpmkeklopfhdaa
