/-
  Contracts of the eight rules of package duets.
-/
import Derived.Test.YtlmfmfbnbbooaaaDuLeaf
import Derived.Deep.QuietTactic
import Derived.BigQuiet
import Derived.Deep.QuietTactic
import Derived.BigQuiet
import Derived.Deep.QuietTactic
import Derived.BigQuiet
namespace Go.Proofs.Ytlmfmfbnbbooaaa
open Go.ChangeShapes Go.WideShapes Go.ChangeAt Go.RowKit
set_option maxRecDepth 100000

theorem slice_form {W : World} {v : Value} {xs : List Int} (h : IntsV W v xs) : ∃ a m c, v = .slice a m c := by
  obtain ⟨a, c, e, _⟩ := h
  exact ⟨a, _, c, e⟩
theorem PlaceAt.later {gs ss : List Int} {g s : Value} {i : Nat} {w w' : World} (h : PlaceAt gs ss g s i w) (hb : Below w.heap.size w w') : PlaceAt gs ss g s i w' :=
  ⟨h.hg.later hb, h.hs.later hb, h.ig, h.is, h.ng, h.ns, h.lg⟩

/-- A place in its box, and what may have come later. -/
structure BoxAt (w0 : World) (b : Nat) (g s : Value) (j : Int) (W : World) : Prop where
  hb : Below w0.heap.size w0 W
  row : W.heap[b]? = some (.cells #[g, s, .int .i64 j] 97 (0, 0))
theorem BoxAt.new (g s : Value) (j : Int) (w : World) : BoxAt w w.heap.size g s j (w.alloc (.cells #[g, s, .int .i64 j] 97)) :=
  ⟨(box_facts g s j w).1, World.alloc_heap_new w _⟩
theorem BoxAt.later {w0 : World} {b : Nat} {g s : Value} {j : Int} {W W' : World} (h : BoxAt w0 b g s j W) (k : Below W.heap.size W W') : BoxAt w0 b g s j W' :=
  ⟨h.hb.trans (k.mono h.hb.size), (k.block b (Array.getElem?_eq_some_iff.1 h.row).1).trans h.row⟩
theorem BoxAt.cell {w0 : World} {b : Nat} {g s : Value} {j : Int} {W : World} (h : BoxAt w0 b g s j W) : W.cell? ⟨b, 0, none⟩ = some g ∧ W.cell? ⟨b, 1, none⟩ = some s ∧ W.cell? ⟨b, 2, none⟩ = some (.int .i64 j) := by
  have r : Row W b 97 [g, s, .int .i64 j] := h.row
  exact ⟨r.cell 0, r.cell 1, r.cell 2⟩



theorem mul_400 {a b : Int} (ha : -20 ≤ a ∧ a ≤ 20) (hb : -20 ≤ b ∧ b ≤ 20) : -400 ≤ a * b ∧ a * b ≤ 400 := by
  have h1 := Int.mul_nonneg (show 0 ≤ 20 - a by omega) (show 0 ≤ 20 - b by omega)
  have h2 := Int.mul_nonneg (show 0 ≤ 20 + a by omega) (show 0 ≤ 20 + b by omega)
  have h3 := Int.mul_nonneg (show 0 ≤ 20 - a by omega) (show 0 ≤ 20 + b by omega)
  have h4 := Int.mul_nonneg (show 0 ≤ 20 + a by omega) (show 0 ≤ 20 - b by omega)
  simp only [Int.sub_mul, Int.add_mul, Int.mul_sub, Int.mul_add] at h1 h2 h3 h4
  omega

set_option maxHeartbeats 1000000 in
theorem rule1_any {gs ss : List Int} {g s : Value} {i : Nat} {w : World} (h : PlaceAt gs ss g s i w) :
    Calls Try.prog 131 #[plV g s (i : Int)] w fun e w' => e = .returned (.bool (r1B gs ss i)) ∧ Below w.heap.size w w' := by
  have HI := Lib.hid (fun W (hb : Below w.heap.size w W) => interval_any (h.later hb))
  have HE := Lib.hid (show r1B gs ss i = decide (0 ≤ ivA gs ss i ∧ ivA gs ss i ≤ 14) from rfl)
  obtain ⟨a, m', c, rfl⟩ := slice_form h.hg
  obtain ⟨a', m'', c', rfl⟩ := slice_form h.hs
  have HX0 := Lib.hid (BoxAt.new (.slice a m' c) (.slice a' m'' c') (i : Int) w)
  clear h
  generalize r1B gs ss i = B at *
  generalize ivA gs ss i = v at *
  unfold plV
  by_cases h0 : 0 ≤ v
  · by_cases h1 : v ≤ 14
    · have HV := Lib.hid (show B = true by rw [HE.out]; exact decide_eq_true ⟨h0, h1⟩)
      go_enter Try.func131, Try.ntmps131
      go_wp2_with fail
      refine (HI.out _ HX0.out.hb).mono ?_
      rintro e w1 ⟨rfl, b1⟩
      have HX1 := Lib.hid (HX0.out.later b1)
      obtain ⟨k0, k1, k2⟩ := HX1.out.cell
      clear b1
      go_wp2_with fail
      refine (HI.out _ HX1.out.hb).mono ?_
      rintro e w2 ⟨rfl, b1⟩
      have HX2 := Lib.hid (HX1.out.later b1)
      obtain ⟨k0, k1, k2⟩ := HX2.out.cell
      clear b1
      go_wp2
      go_ret
      exact ⟨ret_bool (by first | exact HV.out.symm | (rw [HV.out]; exact decide_eq_false (by omega)) | (rw [HV.out]; simp; done) | (rw [HV.out]; simp; omega)), HX2.out.hb⟩
    · have HV := Lib.hid (show B = false by rw [HE.out]; exact decide_eq_false (fun h => h1 h.2))
      go_enter Try.func131, Try.ntmps131
      go_wp2_with fail
      refine (HI.out _ HX0.out.hb).mono ?_
      rintro e w1 ⟨rfl, b1⟩
      have HX1 := Lib.hid (HX0.out.later b1)
      obtain ⟨k0, k1, k2⟩ := HX1.out.cell
      clear b1
      go_wp2_with fail
      refine (HI.out _ HX1.out.hb).mono ?_
      rintro e w2 ⟨rfl, b1⟩
      have HX2 := Lib.hid (HX1.out.later b1)
      obtain ⟨k0, k1, k2⟩ := HX2.out.cell
      clear b1
      go_wp2
      go_ret
      exact ⟨ret_bool (by first | exact HV.out.symm | (rw [HV.out]; exact decide_eq_false (by omega)) | (rw [HV.out]; simp; done) | (rw [HV.out]; simp; omega)), HX2.out.hb⟩
  · have HV := Lib.hid (show B = false by rw [HE.out]; exact decide_eq_false (fun h => h0 h.1))
    go_enter Try.func131, Try.ntmps131
    go_wp2_with fail
    refine (HI.out _ HX0.out.hb).mono ?_
    rintro e w1 ⟨rfl, b1⟩
    have HX1 := Lib.hid (HX0.out.later b1)
    obtain ⟨k0, k1, k2⟩ := HX1.out.cell
    clear b1
    go_wp2
    go_ret
    exact ⟨ret_bool (by first | exact HV.out.symm | (rw [HV.out]; exact decide_eq_false (by omega)) | (rw [HV.out]; simp; done) | (rw [HV.out]; simp; omega)), HX1.out.hb⟩

set_option maxHeartbeats 1000000 in
theorem rule2_any {gs ss : List Int} {g s : Value} {i : Nat} {w : World} (h : PlaceAt gs ss g s i w) :
    Calls Try.prog 132 #[plV g s (i : Int)] w fun e w' => e = .returned (.bool (r2B gs ss i)) ∧ Below w.heap.size w w' := by
  have HI := Lib.hid (fun W (hb : Below w.heap.size w W) => interval_any (h.later hb))
  have HO := Lib.hid (fun W => isOpen_any (ivA gs ss i) W)
  have HS := Lib.hid (fun W => isSweet_any (ivA gs ss i) W)
  have HE := Lib.hid (show r2B gs ss i = (openB (ivA gs ss i) || sweetB (ivA gs ss i)) from rfl)
  obtain ⟨a, m', c, rfl⟩ := slice_form h.hg
  obtain ⟨a', m'', c', rfl⟩ := slice_form h.hs
  have HX0 := Lib.hid (BoxAt.new (.slice a m' c) (.slice a' m'' c') (i : Int) w)
  clear h
  generalize r2B gs ss i = B at *
  generalize ivA gs ss i = v at *
  unfold plV
  generalize sweetB v = S at *
  cases ho : openB v <;> rw [ho] at HO HE
  · have HV := Lib.hid (show B = S by rw [HE.out]; rfl)
    go_enter Try.func132, Try.ntmps132
    go_wp2_with fail
    refine (HI.out _ HX0.out.hb).mono ?_
    rintro e w1 ⟨rfl, b1⟩
    have HX1 := Lib.hid (HX0.out.later b1)
    obtain ⟨k0, k1, k2⟩ := HX1.out.cell
    clear b1
    go_wp2_with fail
    refine (HO.out _).mono ?_
    rintro e w9 ⟨rfl, rfl⟩
    go_wp2_with fail
    refine (HI.out _ HX1.out.hb).mono ?_
    rintro e w2 ⟨rfl, b1⟩
    have HX2 := Lib.hid (HX1.out.later b1)
    obtain ⟨k0, k1, k2⟩ := HX2.out.cell
    clear b1
    go_wp2_with fail
    refine (HS.out _).mono ?_
    rintro e w9 ⟨rfl, rfl⟩
    go_wp2
    go_ret
    exact ⟨ret_bool (by first | exact HV.out.symm | (rw [HV.out]; exact decide_eq_false (by omega)) | (rw [HV.out]; simp; done) | (rw [HV.out]; simp; omega)), HX2.out.hb⟩
  · have HV := Lib.hid (show B = true by rw [HE.out]; rfl)
    go_enter Try.func132, Try.ntmps132
    go_wp2_with fail
    refine (HI.out _ HX0.out.hb).mono ?_
    rintro e w1 ⟨rfl, b1⟩
    have HX1 := Lib.hid (HX0.out.later b1)
    obtain ⟨k0, k1, k2⟩ := HX1.out.cell
    clear b1
    go_wp2_with fail
    refine (HO.out _).mono ?_
    rintro e w9 ⟨rfl, rfl⟩
    go_wp2
    go_ret
    exact ⟨ret_bool (by first | exact HV.out.symm | (rw [HV.out]; exact decide_eq_false (by omega)) | (rw [HV.out]; simp; done) | (rw [HV.out]; simp; omega)), HX1.out.hb⟩

set_option maxHeartbeats 1000000 in
theorem rule3_any {gs ss : List Int} {g s : Value} {i : Nat} {w : World} (h : PlaceAt gs ss g s i w) :
    Calls Try.prog 133 #[plV g s (i : Int)] w fun e w' => e = .returned (.bool (r3B gs ss i)) ∧ Below w.heap.size w w' := by
  have HI := Lib.hid (fun W (hb : Below w.heap.size w W) => interval_any (h.later hb))
  have HE := Lib.hid (show r3B gs ss i = (decide (ivA gs ss i = 0 ∨ ivA gs ss i = 7 ∨ ivA gs ss i = 14) || (if ivA gs ss i = 4 ∨ ivA gs ss i = 11 then decide (i + 1 ≠ gs.length) else decide (i ≠ 0 ∧ i + 1 ≠ gs.length))) from rfl)
  have ig := h.ig
  have lg := h.lg
  obtain ⟨a, c, e, _⟩ := id h.hg
  subst e
  generalize hm' : gs.length = m' at *
  obtain ⟨a', m'', c', rfl⟩ := slice_form h.hs
  have HX0 := Lib.hid (BoxAt.new (.slice a m' c) (.slice a' m'' c') (i : Int) w)
  obtain ⟨W1, hW1⟩ : ∃ W1, w.alloc (.cells #[.slice a m' c, .slice a' m'' c', .int .i64 (i : Int)] 97) = W1 := ⟨_, rfl⟩
  rw [hW1] at HX0
  have HW := Lib.hid hW1
  obtain ⟨k0, k1, k2⟩ := HX0.out.cell
  clear h hW1 hm'
  generalize r3B gs ss i = B at *
  generalize ivA gs ss i = v at *
  unfold plV
  obtain ⟨F, hF⟩ : ∃ F, decide (i = 0) = F := ⟨_, rfl⟩
  obtain ⟨G, hG⟩ : ∃ G, decide (i + 1 = m') = G := ⟨_, rfl⟩
  have q0 : ((i : Int) == 0) = F := by rw [← hF, Bool.eq_iff_iff, beq_iff_eq, decide_eq_true_eq]; omega
  have q1 : ((i : Int) == (m' : Int) - 1) = G := by rw [← hG, Bool.eq_iff_iff, beq_iff_eq, decide_eq_true_eq]; omega
  have HE2 := Lib.hid (show B = (decide (v = 0 ∨ v = 7 ∨ v = 14) || (if v = 4 ∨ v = 11 then !G else !F && !G)) by
    rw [HE.out, ← hF, ← hG]
    congr 1
    split
    · simp
    · simp)
  clear hF hG
  by_cases h1 : v = 0 ∨ v = 7 ∨ v = 14
  · have HV := Lib.hid (show B = true by rw [HE2.out, decide_eq_true h1, Bool.true_or])
    rcases h1 with rfl | rfl | rfl
    · go_enter Try.func133, Try.ntmps133
      go_wp2_with fail
      rw [HW.out]
      go_quiet (fail)
      have HX1 := Lib.hid (HX0.out.later (below_drewN (Below.refl _ _) nq))
      obtain ⟨w1, hw1⟩ : ∃ w1, W1.drewN nq = w1 := ⟨_, rfl⟩
      rw [hw1] at HX1 ⊢
      clear k0 k1 k2 hw1
      obtain ⟨k0, k1, k2⟩ := HX1.out.cell
      go_wp2_with fail
      refine (HI.out _ HX1.out.hb).mono ?_
      rintro e w2 ⟨rfl, b1⟩
      have HX2 := Lib.hid (HX1.out.later b1)
      obtain ⟨k0, k1, k2⟩ := HX2.out.cell
      clear b1
      go_wp2
      go_ret
      exact ⟨ret_bool (by first | exact HV.out.symm | (rw [HV.out]; exact decide_eq_false (by omega)) | (rw [HV.out]; simp; done) | (rw [HV.out]; simp; omega)), HX2.out.hb⟩
    · go_enter Try.func133, Try.ntmps133
      go_wp2_with fail
      rw [HW.out]
      go_quiet (fail)
      have HX1 := Lib.hid (HX0.out.later (below_drewN (Below.refl _ _) nq))
      obtain ⟨w1, hw1⟩ : ∃ w1, W1.drewN nq = w1 := ⟨_, rfl⟩
      rw [hw1] at HX1 ⊢
      clear k0 k1 k2 hw1
      obtain ⟨k0, k1, k2⟩ := HX1.out.cell
      go_wp2_with fail
      refine (HI.out _ HX1.out.hb).mono ?_
      rintro e w2 ⟨rfl, b1⟩
      have HX2 := Lib.hid (HX1.out.later b1)
      obtain ⟨k0, k1, k2⟩ := HX2.out.cell
      clear b1
      go_wp2
      go_ret
      exact ⟨ret_bool (by first | exact HV.out.symm | (rw [HV.out]; exact decide_eq_false (by omega)) | (rw [HV.out]; simp; done) | (rw [HV.out]; simp; omega)), HX2.out.hb⟩
    · go_enter Try.func133, Try.ntmps133
      go_wp2_with fail
      rw [HW.out]
      go_quiet (fail)
      have HX1 := Lib.hid (HX0.out.later (below_drewN (Below.refl _ _) nq))
      obtain ⟨w1, hw1⟩ : ∃ w1, W1.drewN nq = w1 := ⟨_, rfl⟩
      rw [hw1] at HX1 ⊢
      clear k0 k1 k2 hw1
      obtain ⟨k0, k1, k2⟩ := HX1.out.cell
      go_wp2_with fail
      refine (HI.out _ HX1.out.hb).mono ?_
      rintro e w2 ⟨rfl, b1⟩
      have HX2 := Lib.hid (HX1.out.later b1)
      obtain ⟨k0, k1, k2⟩ := HX2.out.cell
      clear b1
      go_wp2
      go_ret
      exact ⟨ret_bool (by first | exact HV.out.symm | (rw [HV.out]; exact decide_eq_false (by omega)) | (rw [HV.out]; simp; done) | (rw [HV.out]; simp; omega)), HX2.out.hb⟩
  · by_cases h2 : v = 4 ∨ v = 11
    · have HV := Lib.hid (show B = !G by rw [HE2.out, decide_eq_false h1, Bool.false_or, if_pos h2])
      clear h1
      rcases h2 with rfl | rfl
      · go_enter Try.func133, Try.ntmps133
        go_wp2_with fail
        rw [HW.out]
        go_quiet (fail)
        have HX1 := Lib.hid (HX0.out.later (below_drewN (Below.refl _ _) nq))
        obtain ⟨w1, hw1⟩ : ∃ w1, W1.drewN nq = w1 := ⟨_, rfl⟩
        rw [hw1] at HX1 ⊢
        clear k0 k1 k2 hw1
        obtain ⟨k0, k1, k2⟩ := HX1.out.cell
        go_wp2_with fail
        refine (HI.out _ HX1.out.hb).mono ?_
        rintro e w2 ⟨rfl, b1⟩
        have HX2 := Lib.hid (HX1.out.later b1)
        obtain ⟨k0, k1, k2⟩ := HX2.out.cell
        clear b1
        go_wp2
        go_ret
        exact ⟨ret_bool (by first | exact HV.out.symm | (rw [HV.out]; exact decide_eq_false (by omega)) | (rw [HV.out]; simp; done) | (rw [HV.out]; simp; omega)), HX2.out.hb⟩
      · go_enter Try.func133, Try.ntmps133
        go_wp2_with fail
        rw [HW.out]
        go_quiet (fail)
        have HX1 := Lib.hid (HX0.out.later (below_drewN (Below.refl _ _) nq))
        obtain ⟨w1, hw1⟩ : ∃ w1, W1.drewN nq = w1 := ⟨_, rfl⟩
        rw [hw1] at HX1 ⊢
        clear k0 k1 k2 hw1
        obtain ⟨k0, k1, k2⟩ := HX1.out.cell
        go_wp2_with fail
        refine (HI.out _ HX1.out.hb).mono ?_
        rintro e w2 ⟨rfl, b1⟩
        have HX2 := Lib.hid (HX1.out.later b1)
        obtain ⟨k0, k1, k2⟩ := HX2.out.cell
        clear b1
        go_wp2
        go_ret
        exact ⟨ret_bool (by first | exact HV.out.symm | (rw [HV.out]; exact decide_eq_false (by omega)) | (rw [HV.out]; simp; done) | (rw [HV.out]; simp; omega)), HX2.out.hb⟩
    · have HV := Lib.hid (show B = (!F && !G) by rw [HE2.out, decide_eq_false h1, Bool.false_or, if_neg h2])
      have v0 : (v == 0) = false := by rw [beq_eq_false_iff_ne]; omega
      have v7 : (v == 7) = false := by rw [beq_eq_false_iff_ne]; omega
      have v14 : (v == 14) = false := by rw [beq_eq_false_iff_ne]; omega
      have v4 : (v == 4) = false := by rw [beq_eq_false_iff_ne]; omega
      have v11 : (v == 11) = false := by rw [beq_eq_false_iff_ne]; omega
      clear h1 h2
      cases F
      · go_enter Try.func133, Try.ntmps133
        go_wp2_with fail
        rw [HW.out]
        go_quiet (fail)
        have HX1 := Lib.hid (HX0.out.later (below_drewN (Below.refl _ _) nq))
        obtain ⟨w1, hw1⟩ : ∃ w1, W1.drewN nq = w1 := ⟨_, rfl⟩
        rw [hw1] at HX1 ⊢
        clear k0 k1 k2 hw1
        obtain ⟨k0, k1, k2⟩ := HX1.out.cell
        go_wp2_with fail
        refine (HI.out _ HX1.out.hb).mono ?_
        rintro e w2 ⟨rfl, b1⟩
        have HX2 := Lib.hid (HX1.out.later b1)
        obtain ⟨k0, k1, k2⟩ := HX2.out.cell
        clear b1
        go_wp2
        go_ret
        exact ⟨ret_bool (by first | exact HV.out.symm | (rw [HV.out]; exact decide_eq_false (by omega)) | (rw [HV.out]; simp; done) | (rw [HV.out]; simp; omega)), HX2.out.hb⟩
      · go_enter Try.func133, Try.ntmps133
        go_wp2_with fail
        rw [HW.out]
        go_quiet (fail)
        have HX1 := Lib.hid (HX0.out.later (below_drewN (Below.refl _ _) nq))
        obtain ⟨w1, hw1⟩ : ∃ w1, W1.drewN nq = w1 := ⟨_, rfl⟩
        rw [hw1] at HX1 ⊢
        clear k0 k1 k2 hw1
        obtain ⟨k0, k1, k2⟩ := HX1.out.cell
        go_wp2_with fail
        refine (HI.out _ HX1.out.hb).mono ?_
        rintro e w2 ⟨rfl, b1⟩
        have HX2 := Lib.hid (HX1.out.later b1)
        obtain ⟨k0, k1, k2⟩ := HX2.out.cell
        clear b1
        go_wp2
        go_ret
        exact ⟨ret_bool (by first | exact HV.out.symm | (rw [HV.out]; exact decide_eq_false (by omega)) | (rw [HV.out]; simp; done) | (rw [HV.out]; simp; omega)), HX2.out.hb⟩

set_option maxHeartbeats 1000000 in
theorem rule4_any {gs ss : List Int} {g s : Value} {i : Nat} {w : World} (h : PlaceAt gs ss g s i w) :
    Calls Try.prog 134 #[plV g s (i : Int)] w fun e w' => e = .returned (.bool (r4B ss i)) ∧ Below w.heap.size w w' := by
  have HM := Lib.hid (fun (hi : 1 ≤ i) W (hb : Below w.heap.size w W) => secondMove_any (h.later hb) hi)
  have HE := Lib.hid (show r4B ss i = (decide (i = 0) || decide ((-4 ≤ mvA ss i ∧ mvA ss i ≤ 4) ∨ mvA ss i = 7 ∨ mvA ss i = -7)) from rfl)
  have hmb := mv_le h.ns h.is
  obtain ⟨a, m', c, rfl⟩ := slice_form h.hg
  obtain ⟨a', m'', c', rfl⟩ := slice_form h.hs
  have HX0 := Lib.hid (BoxAt.new (.slice a m' c) (.slice a' m'' c') (i : Int) w)
  clear h
  generalize r4B ss i = B at *
  generalize mvA ss i = v at *
  unfold plV
  by_cases h0 : i = 0
  · subst h0
    have HV := Lib.hid (show B = true by rw [HE.out]; rfl)
    go_enter Try.func134, Try.ntmps134
    go_wp2
    go_ret
    exact ⟨ret_bool (by first | exact HV.out.symm | (rw [HV.out]; exact decide_eq_false (by omega)) | (rw [HV.out]; simp; done) | (rw [HV.out]; simp; omega)), HX0.out.hb⟩
  · have q0 : ((i : Int) == 0) = false := by rw [beq_eq_false_iff_ne]; omega
    have HM1 := Lib.hid (HM.out (by omega))
    have HE1 := Lib.hid (show B = decide ((-4 ≤ v ∧ v ≤ 4) ∨ v = 7 ∨ v = -7) by rw [HE.out, decide_eq_false h0, Bool.false_or])
    clear h0
    by_cases h1 : -4 ≤ v
    · by_cases h2 : v ≤ 4
      · have HV := Lib.hid (show B = true by rw [HE1.out]; exact decide_eq_true (by omega))
        go_enter Try.func134, Try.ntmps134
        go_wp2_with fail
        refine (HM1.out _ HX0.out.hb).mono ?_
        rintro e w1 ⟨rfl, b1⟩
        have HX1 := Lib.hid (HX0.out.later b1)
        obtain ⟨k0, k1, k2⟩ := HX1.out.cell
        clear b1
        go_wp2
        go_ret
        exact ⟨ret_bool (by first | exact HV.out.symm | (rw [HV.out]; exact decide_eq_false (by omega)) | (rw [HV.out]; simp; done) | (rw [HV.out]; simp; omega)), HX1.out.hb⟩
      · by_cases h3 : v = 7
        · subst h3
          have HV := Lib.hid (show B = true by rw [HE1.out]; rfl)
          go_enter Try.func134, Try.ntmps134
          go_wp2_with fail
          refine (HM1.out _ HX0.out.hb).mono ?_
          rintro e w1 ⟨rfl, b1⟩
          have HX1 := Lib.hid (HX0.out.later b1)
          obtain ⟨k0, k1, k2⟩ := HX1.out.cell
          clear b1
          go_wp2
          go_ret
          exact ⟨ret_bool (by first | exact HV.out.symm | (rw [HV.out]; exact decide_eq_false (by omega)) | (rw [HV.out]; simp; done) | (rw [HV.out]; simp; omega)), HX1.out.hb⟩
        · have HV := Lib.hid (show B = false by rw [HE1.out]; exact decide_eq_false (by omega))
          have q7 : (v == 7) = false := by rw [beq_eq_false_iff_ne]; omega
          have q8 : (v == -7) = false := by rw [beq_eq_false_iff_ne]; omega
          go_enter Try.func134, Try.ntmps134
          go_wp2_with fail
          refine (HM1.out _ HX0.out.hb).mono ?_
          rintro e w1 ⟨rfl, b1⟩
          have HX1 := Lib.hid (HX0.out.later b1)
          obtain ⟨k0, k1, k2⟩ := HX1.out.cell
          clear b1
          go_wp2
          go_ret
          exact ⟨ret_bool (by first | exact HV.out.symm | (rw [HV.out]; exact decide_eq_false (by omega)) | (rw [HV.out]; simp; done) | (rw [HV.out]; simp; omega)), HX1.out.hb⟩
    · by_cases h3 : v = -7
      · subst h3
        have HV := Lib.hid (show B = true by rw [HE1.out]; rfl)
        go_enter Try.func134, Try.ntmps134
        go_wp2_with fail
        refine (HM1.out _ HX0.out.hb).mono ?_
        rintro e w1 ⟨rfl, b1⟩
        have HX1 := Lib.hid (HX0.out.later b1)
        obtain ⟨k0, k1, k2⟩ := HX1.out.cell
        clear b1
        go_wp2
        go_ret
        exact ⟨ret_bool (by first | exact HV.out.symm | (rw [HV.out]; exact decide_eq_false (by omega)) | (rw [HV.out]; simp; done) | (rw [HV.out]; simp; omega)), HX1.out.hb⟩
      · have HV := Lib.hid (show B = false by rw [HE1.out]; exact decide_eq_false (by omega))
        have q7 : (v == 7) = false := by rw [beq_eq_false_iff_ne]; omega
        have q8 : (v == -7) = false := by rw [beq_eq_false_iff_ne]; omega
        go_enter Try.func134, Try.ntmps134
        go_wp2_with fail
        refine (HM1.out _ HX0.out.hb).mono ?_
        rintro e w1 ⟨rfl, b1⟩
        have HX1 := Lib.hid (HX0.out.later b1)
        obtain ⟨k0, k1, k2⟩ := HX1.out.cell
        clear b1
        go_wp2
        go_ret
        exact ⟨ret_bool (by first | exact HV.out.symm | (rw [HV.out]; exact decide_eq_false (by omega)) | (rw [HV.out]; simp; done) | (rw [HV.out]; simp; omega)), HX1.out.hb⟩

set_option maxHeartbeats 1000000 in
theorem rule5_any {gs ss : List Int} {g s : Value} {i : Nat} {w : World} (h : PlaceAt gs ss g s i w) :
    Calls Try.prog 135 #[plV g s (i : Int)] w fun e w' => e = .returned (.bool (r5B gs ss i)) ∧ Below w.heap.size w w' := by
  have HI := Lib.hid (fun W (hb : Below w.heap.size w W) => interval_any (h.later hb))
  have HM := Lib.hid (fun (hi : 1 ≤ i) W (hb : Below w.heap.size w W) => secondMove_any (h.later hb) hi)
  have HBf := Lib.hid (fun (hi : 1 ≤ i) W => before_any g s (slice_form h.hg) (slice_form h.hs) i hi (by have := h.ig; have := h.lg; omega) W)
  have HU := Lib.hid (fun (hi : 1 ≤ i) W (hb : Below w.heap.size w W) => show Calls Try.prog 139 #[plV g s ((i : Int) - 1)] W fun e w' => e = .returned (.int .i64 (ivA gs ss (i - 1))) ∧ Below W.heap.size W w' by
    rw [show (i : Int) - 1 = ((i - 1 : Nat) : Int) by omega]; exact interval_any (h.later hb).back)
  have HO := Lib.hid (fun W => isOpen_any (ivA gs ss i) W)
  have HD := Lib.hid (fun W => dmod_any (ivA gs ss i - ivA gs ss (i - 1)) 7 (by omega) (by omega) W)
  have HE := Lib.hid (show r5B gs ss i = (decide (i = 0) || !openB (ivA gs ss i) || decide ((ivA gs ss i - ivA gs ss (i - 1)) % 7 ≠ 0) || decide (mvA ss i = 0)) from rfl)
  have hv1 := h.iv_le
  have hv2 := h.back.iv_le
  have hmx : Try.prog.follows .mixedOrders = true := by kernel_rfl
  obtain ⟨a, m', c, rfl⟩ := slice_form h.hg
  obtain ⟨a', m'', c', rfl⟩ := slice_form h.hs
  have HX0 := Lib.hid (BoxAt.new (.slice a m' c) (.slice a' m'' c') (i : Int) w)
  obtain ⟨W1, hW1⟩ : ∃ W1, w.alloc (.cells #[.slice a m' c, .slice a' m'' c', .int .i64 (i : Int)] 97) = W1 := ⟨_, rfl⟩
  rw [hW1] at HX0
  have HW := Lib.hid hW1
  obtain ⟨k0, k1, k2⟩ := HX0.out.cell
  clear h hW1
  generalize r5B gs ss i = B at *
  generalize ivA gs ss i = v at *
  generalize ivA gs ss (i - 1) = u at *
  generalize mvA ss i = m at *
  unfold plV at *
  by_cases h0 : i = 0
  · have HV := Lib.hid (show B = true by rw [HE.out, decide_eq_true h0]; rfl)
    have q0 : ((i : Int) == 0) = true := by rw [beq_iff_eq]; omega
    clear h0
    go_enter Try.func135, Try.ntmps135
    go_wp2_with fail
    rw [HW.out]
    refine region_calm hmx (by kernel_rfl) ?_
    intro S hSn f hS1 hS2
    have hxx : ∀ z, BoxAt w w.heap.size _ _ (i : Int) (f z) := fun z => HX0.out.later (hS1 z)
    have l0 := fun z => (hxx z).cell.1
    have l1 := fun z => (hxx z).cell.2.1
    have l2 := fun z => (hxx z).cell.2.2
    repeat (go_big_quiet_step (fail))
    refine wpQuiet_nil ?_
    rintro _ ⟨z, rfl⟩
    have HX1 := Lib.hid (hxx z)
    generalize f z = w1 at HX1 ⊢
    clear l0 l1 l2 hxx hS1 hS2 
    try dsimp only [Exit.then]
    obtain ⟨k0, k1, k2⟩ := HX1.out.cell
    go_wp2
    go_ret
    exact ⟨ret_bool (by first | exact HV.out.symm | (rw [HV.out]; exact decide_eq_false (by omega)) | (rw [HV.out]; simp; done) | (rw [HV.out]; simp; omega)), HX1.out.hb⟩
  · have q0 : ((i : Int) == 0) = false := by rw [beq_eq_false_iff_ne]; omega
    have HM1 := Lib.hid (HM.out (by omega))
    have HBf1 := Lib.hid (HBf.out (by omega))
    have HU1 := Lib.hid (HU.out (by omega))
    have HE1 := Lib.hid (show B = (!openB v || decide ((v - u) % 7 ≠ 0) || decide (m = 0)) by rw [HE.out, decide_eq_false h0, Bool.false_or])
    clear h0
    cases ho : openB v <;> rw [ho] at HO HE1
    · have HV := Lib.hid (show B = true by rw [HE1.out]; rfl)
      go_enter Try.func135, Try.ntmps135
      go_wp2_with fail
      rw [HW.out]
      refine region_calm hmx (by kernel_rfl) ?_
      intro S hSn f hS1 hS2
      have hxx : ∀ z, BoxAt w w.heap.size _ _ (i : Int) (f z) := fun z => HX0.out.later (hS1 z)
      have l0 := fun z => (hxx z).cell.1
      have l1 := fun z => (hxx z).cell.2.1
      have l2 := fun z => (hxx z).cell.2.2
      have qHI := Lib.hid (calm_call hS1 hS2 (fun z => HI.out (f z) (hxx z).hb))
      have qHO := Lib.hid (calm_call0 (fun z => HO.out (f z)))
      repeat (go_big_quiet_step (first | with_reducible exact qHI.out _ | with_reducible exact qHO.out _))
      refine wpQuiet_nil ?_
      rintro _ ⟨z, rfl⟩
      have HX1 := Lib.hid (hxx z)
      generalize f z = w1 at HX1 ⊢
      clear l0 l1 l2 hxx hS1 hS2 qHI qHO
      try dsimp only [Exit.then]
      obtain ⟨k0, k1, k2⟩ := HX1.out.cell
      go_wp2
      go_ret
      exact ⟨ret_bool (by first | exact HV.out.symm | (rw [HV.out]; exact decide_eq_false (by omega)) | (rw [HV.out]; simp; done) | (rw [HV.out]; simp; omega)), HX1.out.hb⟩
    · generalize (v - u) % 7 = r at HD HE1
      by_cases h1 : r = 0
      · subst h1
        by_cases h2 : m = 0
        · subst h2
          have HV := Lib.hid (show B = true by rw [HE1.out]; rfl)
          go_enter Try.func135, Try.ntmps135
          go_wp2_with fail
          rw [HW.out]
          refine region_calm hmx (by kernel_rfl) ?_
          intro S hSn f hS1 hS2
          have hxx : ∀ z, BoxAt w w.heap.size _ _ (i : Int) (f z) := fun z => HX0.out.later (hS1 z)
          have l0 := fun z => (hxx z).cell.1
          have l1 := fun z => (hxx z).cell.2.1
          have l2 := fun z => (hxx z).cell.2.2
          have qHI := Lib.hid (calm_call hS1 hS2 (fun z => HI.out (f z) (hxx z).hb))
          have qHO := Lib.hid (calm_call0 (fun z => HO.out (f z)))
          have qHBf1 := Lib.hid (calm_call hS1 hS2 (fun z => HBf1.out (f z)))
          have qHU1 := Lib.hid (calm_call hS1 hS2 (fun z => HU1.out (f z) (hxx z).hb))
          have qHD := Lib.hid (calm_call0 (fun z => HD.out (f z)))
          repeat (go_big_quiet_step (first | with_reducible exact qHI.out _ | with_reducible exact qHO.out _ | with_reducible exact qHBf1.out _ | with_reducible exact qHU1.out _ | with_reducible exact qHD.out _))
          refine wpQuiet_nil ?_
          rintro _ ⟨z, rfl⟩
          have HX1 := Lib.hid (hxx z)
          generalize f z = w1 at HX1 ⊢
          clear l0 l1 l2 hxx hS1 hS2 qHI qHO qHBf1 qHU1 qHD
          try dsimp only [Exit.then]
          obtain ⟨k0, k1, k2⟩ := HX1.out.cell
          go_wp2_with fail
          refine (HM1.out _ HX1.out.hb).mono ?_
          rintro e w2 ⟨rfl, b1⟩
          have HX2 := Lib.hid (HX1.out.later b1)
          obtain ⟨k0, k1, k2⟩ := HX2.out.cell
          clear b1
          go_wp2
          go_ret
          exact ⟨ret_bool (by first | exact HV.out.symm | (rw [HV.out]; exact decide_eq_false (by omega)) | (rw [HV.out]; simp; done) | (rw [HV.out]; simp; omega)), HX2.out.hb⟩
        · have HV := Lib.hid (show B = false by rw [HE1.out]; simp [h2])
          have q2 : (m == 0) = false := by rw [beq_eq_false_iff_ne]; omega
          go_enter Try.func135, Try.ntmps135
          go_wp2_with fail
          rw [HW.out]
          refine region_calm hmx (by kernel_rfl) ?_
          intro S hSn f hS1 hS2
          have hxx : ∀ z, BoxAt w w.heap.size _ _ (i : Int) (f z) := fun z => HX0.out.later (hS1 z)
          have l0 := fun z => (hxx z).cell.1
          have l1 := fun z => (hxx z).cell.2.1
          have l2 := fun z => (hxx z).cell.2.2
          have qHI := Lib.hid (calm_call hS1 hS2 (fun z => HI.out (f z) (hxx z).hb))
          have qHO := Lib.hid (calm_call0 (fun z => HO.out (f z)))
          have qHBf1 := Lib.hid (calm_call hS1 hS2 (fun z => HBf1.out (f z)))
          have qHU1 := Lib.hid (calm_call hS1 hS2 (fun z => HU1.out (f z) (hxx z).hb))
          have qHD := Lib.hid (calm_call0 (fun z => HD.out (f z)))
          repeat (go_big_quiet_step (first | with_reducible exact qHI.out _ | with_reducible exact qHO.out _ | with_reducible exact qHBf1.out _ | with_reducible exact qHU1.out _ | with_reducible exact qHD.out _))
          refine wpQuiet_nil ?_
          rintro _ ⟨z, rfl⟩
          have HX1 := Lib.hid (hxx z)
          generalize f z = w1 at HX1 ⊢
          clear l0 l1 l2 hxx hS1 hS2 qHI qHO qHBf1 qHU1 qHD
          try dsimp only [Exit.then]
          obtain ⟨k0, k1, k2⟩ := HX1.out.cell
          go_wp2_with fail
          refine (HM1.out _ HX1.out.hb).mono ?_
          rintro e w2 ⟨rfl, b1⟩
          have HX2 := Lib.hid (HX1.out.later b1)
          obtain ⟨k0, k1, k2⟩ := HX2.out.cell
          clear b1
          go_wp2
          go_ret
          exact ⟨ret_bool (by first | exact HV.out.symm | (rw [HV.out]; exact decide_eq_false (by omega)) | (rw [HV.out]; simp; done) | (rw [HV.out]; simp; omega)), HX2.out.hb⟩
      · have HV := Lib.hid (show B = true by rw [HE1.out]; simp [h1])
        have q1 : (r != 0) = true := by rw [bne_iff_ne]; omega
        go_enter Try.func135, Try.ntmps135
        go_wp2_with fail
        rw [HW.out]
        refine region_calm hmx (by kernel_rfl) ?_
        intro S hSn f hS1 hS2
        have hxx : ∀ z, BoxAt w w.heap.size _ _ (i : Int) (f z) := fun z => HX0.out.later (hS1 z)
        have l0 := fun z => (hxx z).cell.1
        have l1 := fun z => (hxx z).cell.2.1
        have l2 := fun z => (hxx z).cell.2.2
        have qHI := Lib.hid (calm_call hS1 hS2 (fun z => HI.out (f z) (hxx z).hb))
        have qHO := Lib.hid (calm_call0 (fun z => HO.out (f z)))
        have qHBf1 := Lib.hid (calm_call hS1 hS2 (fun z => HBf1.out (f z)))
        have qHU1 := Lib.hid (calm_call hS1 hS2 (fun z => HU1.out (f z) (hxx z).hb))
        have qHD := Lib.hid (calm_call0 (fun z => HD.out (f z)))
        repeat (go_big_quiet_step (first | with_reducible exact qHI.out _ | with_reducible exact qHO.out _ | with_reducible exact qHBf1.out _ | with_reducible exact qHU1.out _ | with_reducible exact qHD.out _))
        refine wpQuiet_nil ?_
        rintro _ ⟨z, rfl⟩
        have HX1 := Lib.hid (hxx z)
        generalize f z = w1 at HX1 ⊢
        clear l0 l1 l2 hxx hS1 hS2 qHI qHO qHBf1 qHU1 qHD
        try dsimp only [Exit.then]
        obtain ⟨k0, k1, k2⟩ := HX1.out.cell
        go_wp2
        go_ret
        exact ⟨ret_bool (by first | exact HV.out.symm | (rw [HV.out]; exact decide_eq_false (by omega)) | (rw [HV.out]; simp; done) | (rw [HV.out]; simp; omega)), HX1.out.hb⟩

set_option maxHeartbeats 1000000 in
theorem rule6_any {gs ss : List Int} {g s : Value} {i : Nat} {w : World} (h : PlaceAt gs ss g s i w) :
    Calls Try.prog 136 #[plV g s (i : Int)] w fun e w' => e = .returned (.bool (r6B gs ss i)) ∧ Below w.heap.size w w' := by
  have HI := Lib.hid (fun W (hb : Below w.heap.size w W) => interval_any (h.later hb))
  have HM := Lib.hid (fun (hi : 1 ≤ i) W (hb : Below w.heap.size w W) => secondMove_any (h.later hb) hi)
  have HG := Lib.hid (fun (hi : 1 ≤ i) W (hb : Below w.heap.size w W) => givenMove_any (h.later hb) hi)
  have HO := Lib.hid (fun W => isOpen_any (ivA gs ss i) W)
  have HS := Lib.hid (fun W => isStep_any (mvA ss i) W)
  have HE := Lib.hid (show r6B gs ss i = (decide (i = 0) || !openB (ivA gs ss i) || decide (mvA gs i * mvA ss i ≤ 0) || decide (mvA ss i = 1 ∨ mvA ss i = -1)) from rfl)
  have hv1 := mv_le h.ng h.ig
  have hv2 := mv_le h.ns h.is
  have hpb := mul_400 hv1 hv2
  have hmx : Try.prog.follows .mixedOrders = true := by kernel_rfl
  obtain ⟨a, m', c, rfl⟩ := slice_form h.hg
  obtain ⟨a', m'', c', rfl⟩ := slice_form h.hs
  have HX0 := Lib.hid (BoxAt.new (.slice a m' c) (.slice a' m'' c') (i : Int) w)
  clear h
  generalize r6B gs ss i = B at *
  generalize ivA gs ss i = v at *
  generalize mvA ss i = m at *
  generalize mvA gs i = g at *
  unfold plV at *
  by_cases h0 : i = 0
  · subst h0
    have HV := Lib.hid (show B = true by rw [HE.out]; rfl)
    go_enter Try.func136, Try.ntmps136
    go_wp2
    go_ret
    exact ⟨ret_bool (by first | exact HV.out.symm | (rw [HV.out]; exact decide_eq_false (by omega)) | (rw [HV.out]; simp; done) | (rw [HV.out]; simp; omega)), HX0.out.hb⟩
  · have q0 : ((i : Int) == 0) = false := by rw [beq_eq_false_iff_ne]; omega
    have HM1 := Lib.hid (HM.out (by omega))
    have HG1 := Lib.hid (HG.out (by omega))
    have HE1 := Lib.hid (show B = (!openB v || decide (g * m ≤ 0) || decide (m = 1 ∨ m = -1)) by rw [HE.out, decide_eq_false h0, Bool.false_or])
    clear h0
    cases ho : openB v <;> rw [ho] at HO HE1
    · have HV := Lib.hid (show B = true by rw [HE1.out]; rfl)
      go_enter Try.func136, Try.ntmps136
      go_wp2_with fail
      refine (HI.out _ HX0.out.hb).mono ?_
      rintro e w1 ⟨rfl, b1⟩
      have HX1 := Lib.hid (HX0.out.later b1)
      obtain ⟨k0, k1, k2⟩ := HX1.out.cell
      clear b1
      go_wp2_with fail
      refine (HO.out _).mono ?_
      rintro e w9 ⟨rfl, rfl⟩
      go_wp2
      go_ret
      exact ⟨ret_bool (by first | exact HV.out.symm | (rw [HV.out]; exact decide_eq_false (by omega)) | (rw [HV.out]; simp; done) | (rw [HV.out]; simp; omega)), HX1.out.hb⟩
    · have hw : wrap64 (g * m) = g * m := by unfold wrap64; omega
      generalize hgm : g * m = p at *
      by_cases h1 : p ≤ 0
      · have HV := Lib.hid (show B = true by rw [HE1.out, decide_eq_true h1]; rfl)
        go_enter Try.func136, Try.ntmps136
        go_wp2_with fail
        refine (HI.out _ HX0.out.hb).mono ?_
        rintro e w1 ⟨rfl, b1⟩
        have HX1 := Lib.hid (HX0.out.later b1)
        obtain ⟨k0, k1, k2⟩ := HX1.out.cell
        clear b1
        go_wp2_with fail
        refine (HO.out _).mono ?_
        rintro e w9 ⟨rfl, rfl⟩
        go_wp2_with fail
        refine region_calm hmx (by kernel_rfl) ?_
        intro S hSn f hS1 hS2
        have hxx : ∀ z, BoxAt w w.heap.size _ _ (i : Int) (f z) := fun z => HX1.out.later (hS1 z)
        have l0 := fun z => (hxx z).cell.1
        have l1 := fun z => (hxx z).cell.2.1
        have l2 := fun z => (hxx z).cell.2.2
        have qHM1 := Lib.hid (calm_call hS1 hS2 (fun z => HM1.out (f z) (hxx z).hb))
        have qHG1 := Lib.hid (calm_call hS1 hS2 (fun z => HG1.out (f z) (hxx z).hb))
        repeat (go_big_quiet_step (first | with_reducible exact qHM1.out _ | with_reducible exact qHG1.out _))
        refine wpQuiet_nil ?_
        rintro _ ⟨z, rfl⟩
        have HX2 := Lib.hid (hxx z)
        generalize f z = w2 at HX2 ⊢
        clear l0 l1 l2 hxx hS1 hS2 qHM1 qHG1
        try dsimp only [Exit.then]
        obtain ⟨k0, k1, k2⟩ := HX2.out.cell
        go_wp2
        go_ret
        exact ⟨ret_bool (by first | exact HV.out.symm | (rw [HV.out]; exact decide_eq_false (by omega)) | (rw [HV.out]; simp; done) | (rw [HV.out]; simp; omega)), HX2.out.hb⟩
      · have HV := Lib.hid (show B = decide (m = 1 ∨ m = -1) by rw [HE1.out, decide_eq_false h1]; rfl)
        have hd1 : decide (p ≤ 0) = false := decide_eq_false h1
        generalize decide (m = 1 ∨ m = -1) = S at *
        go_enter Try.func136, Try.ntmps136
        go_wp2_with fail
        refine (HI.out _ HX0.out.hb).mono ?_
        rintro e w1 ⟨rfl, b1⟩
        have HX1 := Lib.hid (HX0.out.later b1)
        obtain ⟨k0, k1, k2⟩ := HX1.out.cell
        clear b1
        go_wp2_with fail
        refine (HO.out _).mono ?_
        rintro e w9 ⟨rfl, rfl⟩
        go_wp2_with fail
        refine region_calm hmx (by kernel_rfl) ?_
        intro S hSn f hS1 hS2
        have hxx : ∀ z, BoxAt w w.heap.size _ _ (i : Int) (f z) := fun z => HX1.out.later (hS1 z)
        have l0 := fun z => (hxx z).cell.1
        have l1 := fun z => (hxx z).cell.2.1
        have l2 := fun z => (hxx z).cell.2.2
        have qHM1 := Lib.hid (calm_call hS1 hS2 (fun z => HM1.out (f z) (hxx z).hb))
        have qHG1 := Lib.hid (calm_call hS1 hS2 (fun z => HG1.out (f z) (hxx z).hb))
        have qHS := Lib.hid (calm_call0 (fun z => HS.out (f z)))
        repeat (go_big_quiet_step (first | with_reducible exact qHM1.out _ | with_reducible exact qHG1.out _ | with_reducible exact qHS.out _))
        refine wpQuiet_nil ?_
        rintro _ ⟨z, rfl⟩
        have HX2 := Lib.hid (hxx z)
        generalize f z = w2 at HX2 ⊢
        clear l0 l1 l2 hxx hS1 hS2 qHM1 qHG1 qHS
        try dsimp only [Exit.then]
        obtain ⟨k0, k1, k2⟩ := HX2.out.cell
        go_wp2
        go_ret
        exact ⟨ret_bool (by first | exact HV.out.symm | (rw [HV.out]; exact decide_eq_false (by omega)) | (rw [HV.out]; simp; done) | (rw [HV.out]; simp; omega)), HX2.out.hb⟩

set_option maxHeartbeats 1000000 in
theorem rule7_any {gs ss : List Int} {g s : Value} {i : Nat} {w : World} (h : PlaceAt gs ss g s i w) :
    Calls Try.prog 137 #[plV g s (i : Int)] w fun e w' => e = .returned (.bool (r7B ss i)) ∧ Below w.heap.size w w' := by
  have HM := Lib.hid (fun (hi : 1 ≤ i) W (hb : Below w.heap.size w W) => secondMove_any (h.later hb) hi)
  have HBf := Lib.hid (fun (hi : 1 ≤ i) W => before_any g s (slice_form h.hg) (slice_form h.hs) i hi (by have := h.ig; have := h.lg; omega) W)
  have HP := Lib.hid (fun (hi : 2 ≤ i) W (hb : Below w.heap.size w W) => show Calls Try.prog 119 #[plV g s ((i : Int) - 1)] W fun e w' => e = .returned (.int .i64 (mvA ss (i - 1))) ∧ Below W.heap.size W w' by
    rw [show (i : Int) - 1 = ((i - 1 : Nat) : Int) by omega]; exact secondMove_any (h.later hb).back (by omega))
  have HL := Lib.hid (fun W => isLeap_any (mvA ss (i - 1)) W)
  have HS := Lib.hid (fun W => isStep_any (mvA ss i) W)
  have HK := Lib.hid (fun W => isSkip_any (mvA ss i) W)
  have HE := Lib.hid (show r7B ss i = (decide (i < 2) || decide (-2 ≤ mvA ss (i - 1) ∧ mvA ss (i - 1) ≤ 2) || (decide (mvA ss (i - 1) * mvA ss i < 0) && decide (mvA ss i = 1 ∨ mvA ss i = -1 ∨ mvA ss i = 2 ∨ mvA ss i = -2))) from rfl)
  have hv1 := mv_le h.ns h.is
  have hv2 := mv_le h.ns h.back.is
  have hpb := mul_400 hv2 hv1
  obtain ⟨a, m', c, rfl⟩ := slice_form h.hg
  obtain ⟨a', m'', c', rfl⟩ := slice_form h.hs
  have HX0 := Lib.hid (BoxAt.new (.slice a m' c) (.slice a' m'' c') (i : Int) w)
  clear h
  generalize r7B ss i = B at *
  generalize mvA ss i = m at *
  generalize mvA ss (i - 1) = p at *
  unfold plV at *
  by_cases h0 : i < 2
  · have HV := Lib.hid (show B = true by rw [HE.out, decide_eq_true h0]; rfl)
    have q0 : (i : Int) < 2 := by omega
    go_enter Try.func137, Try.ntmps137
    go_wp2
    go_ret
    exact ⟨ret_bool (by first | exact HV.out.symm | (rw [HV.out]; exact decide_eq_false (by omega)) | (rw [HV.out]; simp; done) | (rw [HV.out]; simp; omega)), HX0.out.hb⟩
  · have q0 : ¬ (i : Int) < 2 := by omega
    have HM1 := Lib.hid (HM.out (by omega))
    have HBf1 := Lib.hid (HBf.out (by omega))
    have HP1 := Lib.hid (HP.out (by omega))
    have HE1 := Lib.hid (show B = (decide (-2 ≤ p ∧ p ≤ 2) || (decide (p * m < 0) && decide (m = 1 ∨ m = -1 ∨ m = 2 ∨ m = -2))) by rw [HE.out, decide_eq_false h0, Bool.false_or])
    clear h0
    by_cases h1 : p < -2 ∨ 2 < p
    · rw [decide_eq_true h1] at HL
      have HE2 := Lib.hid (show B = (decide (p * m < 0) && decide (m = 1 ∨ m = -1 ∨ m = 2 ∨ m = -2)) by rw [HE1.out, decide_eq_false (show ¬ (-2 ≤ p ∧ p ≤ 2) by omega), Bool.false_or])
      have hw : wrap64 (p * m) = p * m := by unfold wrap64; omega
      clear h1
      generalize hpm : p * m = x at *
      by_cases h2 : x < 0
      · by_cases h3 : m = 1 ∨ m = -1
        · rw [decide_eq_true h3] at HS
          have HV := Lib.hid (show B = true by rw [HE2.out, decide_eq_true h2, decide_eq_true (by omega)]; rfl)
          clear h3
          go_enter Try.func137, Try.ntmps137
          go_wp2_with fail
          refine (HBf1.out _).mono ?_
          rintro e w1 ⟨rfl, b1⟩
          have HX1 := Lib.hid (HX0.out.later b1)
          obtain ⟨k0, k1, k2⟩ := HX1.out.cell
          clear b1
          go_wp2_with fail
          refine (HP1.out _ HX1.out.hb).mono ?_
          rintro e w2 ⟨rfl, b1⟩
          have HX2 := Lib.hid (HX1.out.later b1)
          obtain ⟨k0, k1, k2⟩ := HX2.out.cell
          clear b1
          go_wp2_with fail
          refine (HL.out _).mono ?_
          rintro e w9 ⟨rfl, rfl⟩
          go_wp2_with fail
          refine (HM1.out _ HX2.out.hb).mono ?_
          rintro e w3 ⟨rfl, b1⟩
          have HX3 := Lib.hid (HX2.out.later b1)
          obtain ⟨k0, k1, k2⟩ := HX3.out.cell
          clear b1
          go_wp2_with fail
          refine (HBf1.out _).mono ?_
          rintro e w4 ⟨rfl, b1⟩
          have HX4 := Lib.hid (HX3.out.later b1)
          obtain ⟨k0, k1, k2⟩ := HX4.out.cell
          clear b1
          go_wp2_with fail
          refine (HP1.out _ HX4.out.hb).mono ?_
          rintro e w5 ⟨rfl, b1⟩
          have HX5 := Lib.hid (HX4.out.later b1)
          obtain ⟨k0, k1, k2⟩ := HX5.out.cell
          clear b1
          go_wp2_with fail
          refine (HS.out _).mono ?_
          rintro e w9 ⟨rfl, rfl⟩
          go_wp2
          go_ret
          exact ⟨ret_bool (by first | exact HV.out.symm | (rw [HV.out]; exact decide_eq_false (by omega)) | (rw [HV.out]; simp; done) | (rw [HV.out]; simp; omega)), HX5.out.hb⟩
        · rw [decide_eq_false h3] at HS
          by_cases h4 : m = 2 ∨ m = -2
          · rw [decide_eq_true h4] at HK
            have HV := Lib.hid (show B = true by rw [HE2.out, decide_eq_true h2, decide_eq_true (by omega)]; rfl)
            clear h3 h4
            go_enter Try.func137, Try.ntmps137
            go_wp2_with fail
            refine (HBf1.out _).mono ?_
            rintro e w1 ⟨rfl, b1⟩
            have HX1 := Lib.hid (HX0.out.later b1)
            obtain ⟨k0, k1, k2⟩ := HX1.out.cell
            clear b1
            go_wp2_with fail
            refine (HP1.out _ HX1.out.hb).mono ?_
            rintro e w2 ⟨rfl, b1⟩
            have HX2 := Lib.hid (HX1.out.later b1)
            obtain ⟨k0, k1, k2⟩ := HX2.out.cell
            clear b1
            go_wp2_with fail
            refine (HL.out _).mono ?_
            rintro e w9 ⟨rfl, rfl⟩
            go_wp2_with fail
            refine (HM1.out _ HX2.out.hb).mono ?_
            rintro e w3 ⟨rfl, b1⟩
            have HX3 := Lib.hid (HX2.out.later b1)
            obtain ⟨k0, k1, k2⟩ := HX3.out.cell
            clear b1
            go_wp2_with fail
            refine (HBf1.out _).mono ?_
            rintro e w4 ⟨rfl, b1⟩
            have HX4 := Lib.hid (HX3.out.later b1)
            obtain ⟨k0, k1, k2⟩ := HX4.out.cell
            clear b1
            go_wp2_with fail
            refine (HP1.out _ HX4.out.hb).mono ?_
            rintro e w5 ⟨rfl, b1⟩
            have HX5 := Lib.hid (HX4.out.later b1)
            obtain ⟨k0, k1, k2⟩ := HX5.out.cell
            clear b1
            go_wp2_with fail
            refine (HS.out _).mono ?_
            rintro e w9 ⟨rfl, rfl⟩
            go_wp2_with fail
            refine (HK.out _).mono ?_
            rintro e w9 ⟨rfl, rfl⟩
            go_wp2
            go_ret
            exact ⟨ret_bool (by first | exact HV.out.symm | (rw [HV.out]; exact decide_eq_false (by omega)) | (rw [HV.out]; simp; done) | (rw [HV.out]; simp; omega)), HX5.out.hb⟩
          · rw [decide_eq_false h4] at HK
            have HV := Lib.hid (show B = false by rw [HE2.out, decide_eq_true h2, decide_eq_false (by omega)]; rfl)
            clear h3 h4
            go_enter Try.func137, Try.ntmps137
            go_wp2_with fail
            refine (HBf1.out _).mono ?_
            rintro e w1 ⟨rfl, b1⟩
            have HX1 := Lib.hid (HX0.out.later b1)
            obtain ⟨k0, k1, k2⟩ := HX1.out.cell
            clear b1
            go_wp2_with fail
            refine (HP1.out _ HX1.out.hb).mono ?_
            rintro e w2 ⟨rfl, b1⟩
            have HX2 := Lib.hid (HX1.out.later b1)
            obtain ⟨k0, k1, k2⟩ := HX2.out.cell
            clear b1
            go_wp2_with fail
            refine (HL.out _).mono ?_
            rintro e w9 ⟨rfl, rfl⟩
            go_wp2_with fail
            refine (HM1.out _ HX2.out.hb).mono ?_
            rintro e w3 ⟨rfl, b1⟩
            have HX3 := Lib.hid (HX2.out.later b1)
            obtain ⟨k0, k1, k2⟩ := HX3.out.cell
            clear b1
            go_wp2_with fail
            refine (HBf1.out _).mono ?_
            rintro e w4 ⟨rfl, b1⟩
            have HX4 := Lib.hid (HX3.out.later b1)
            obtain ⟨k0, k1, k2⟩ := HX4.out.cell
            clear b1
            go_wp2_with fail
            refine (HP1.out _ HX4.out.hb).mono ?_
            rintro e w5 ⟨rfl, b1⟩
            have HX5 := Lib.hid (HX4.out.later b1)
            obtain ⟨k0, k1, k2⟩ := HX5.out.cell
            clear b1
            go_wp2_with fail
            refine (HS.out _).mono ?_
            rintro e w9 ⟨rfl, rfl⟩
            go_wp2_with fail
            refine (HK.out _).mono ?_
            rintro e w9 ⟨rfl, rfl⟩
            go_wp2
            go_ret
            exact ⟨ret_bool (by first | exact HV.out.symm | (rw [HV.out]; exact decide_eq_false (by omega)) | (rw [HV.out]; simp; done) | (rw [HV.out]; simp; omega)), HX5.out.hb⟩
      · have HV := Lib.hid (show B = false by rw [HE2.out, decide_eq_false h2]; rfl)
        go_enter Try.func137, Try.ntmps137
        go_wp2_with fail
        refine (HBf1.out _).mono ?_
        rintro e w1 ⟨rfl, b1⟩
        have HX1 := Lib.hid (HX0.out.later b1)
        obtain ⟨k0, k1, k2⟩ := HX1.out.cell
        clear b1
        go_wp2_with fail
        refine (HP1.out _ HX1.out.hb).mono ?_
        rintro e w2 ⟨rfl, b1⟩
        have HX2 := Lib.hid (HX1.out.later b1)
        obtain ⟨k0, k1, k2⟩ := HX2.out.cell
        clear b1
        go_wp2_with fail
        refine (HL.out _).mono ?_
        rintro e w9 ⟨rfl, rfl⟩
        go_wp2_with fail
        refine (HM1.out _ HX2.out.hb).mono ?_
        rintro e w3 ⟨rfl, b1⟩
        have HX3 := Lib.hid (HX2.out.later b1)
        obtain ⟨k0, k1, k2⟩ := HX3.out.cell
        clear b1
        go_wp2_with fail
        refine (HBf1.out _).mono ?_
        rintro e w4 ⟨rfl, b1⟩
        have HX4 := Lib.hid (HX3.out.later b1)
        obtain ⟨k0, k1, k2⟩ := HX4.out.cell
        clear b1
        go_wp2_with fail
        refine (HP1.out _ HX4.out.hb).mono ?_
        rintro e w5 ⟨rfl, b1⟩
        have HX5 := Lib.hid (HX4.out.later b1)
        obtain ⟨k0, k1, k2⟩ := HX5.out.cell
        clear b1
        go_wp2
        go_ret
        exact ⟨ret_bool (by first | exact HV.out.symm | (rw [HV.out]; exact decide_eq_false (by omega)) | (rw [HV.out]; simp; done) | (rw [HV.out]; simp; omega)), HX5.out.hb⟩
    · rw [decide_eq_false h1] at HL
      have HV := Lib.hid (show B = true by rw [HE1.out, decide_eq_true (show -2 ≤ p ∧ p ≤ 2 by omega)]; rfl)
      clear h1
      go_enter Try.func137, Try.ntmps137
      go_wp2_with fail
      refine (HBf1.out _).mono ?_
      rintro e w1 ⟨rfl, b1⟩
      have HX1 := Lib.hid (HX0.out.later b1)
      obtain ⟨k0, k1, k2⟩ := HX1.out.cell
      clear b1
      go_wp2_with fail
      refine (HP1.out _ HX1.out.hb).mono ?_
      rintro e w2 ⟨rfl, b1⟩
      have HX2 := Lib.hid (HX1.out.later b1)
      obtain ⟨k0, k1, k2⟩ := HX2.out.cell
      clear b1
      go_wp2_with fail
      refine (HL.out _).mono ?_
      rintro e w9 ⟨rfl, rfl⟩
      go_wp2
      go_ret
      exact ⟨ret_bool (by first | exact HV.out.symm | (rw [HV.out]; exact decide_eq_false (by omega)) | (rw [HV.out]; simp; done) | (rw [HV.out]; simp; omega)), HX2.out.hb⟩

set_option maxHeartbeats 1000000 in
theorem rule8_any {gs ss : List Int} {g s : Value} {i : Nat} {w : World} (h : PlaceAt gs ss g s i w) :
    Calls Try.prog 138 #[plV g s (i : Int)] w fun e w' => e = .returned (.bool (r8B ss i)) ∧ Below w.heap.size w w' := by
  have HM := Lib.hid (fun (hi : 1 ≤ i) W (hb : Below w.heap.size w W) => secondMove_any (h.later hb) hi)
  have HBf := Lib.hid (fun (hi : 1 ≤ i) W => before_any g s (slice_form h.hg) (slice_form h.hs) i hi (by have := h.ig; have := h.lg; omega) W)
  have HP := Lib.hid (fun (hi : 2 ≤ i) W (hb : Below w.heap.size w W) => show Calls Try.prog 119 #[plV g s ((i : Int) - 1)] W fun e w' => e = .returned (.int .i64 (mvA ss (i - 1))) ∧ Below W.heap.size W w' by
    rw [show (i : Int) - 1 = ((i - 1 : Nat) : Int) by omega]; exact secondMove_any (h.later hb).back (by omega))
  have HE := Lib.hid (show r8B ss i = (decide (i < 2) || decide (mvA ss i ≠ 0) || decide (mvA ss (i - 1) ≠ 0)) from rfl)
  obtain ⟨a, m', c, rfl⟩ := slice_form h.hg
  obtain ⟨a', m'', c', rfl⟩ := slice_form h.hs
  have HX0 := Lib.hid (BoxAt.new (.slice a m' c) (.slice a' m'' c') (i : Int) w)
  clear h
  generalize r8B ss i = B at *
  generalize mvA ss i = m at *
  generalize mvA ss (i - 1) = p at *
  unfold plV at *
  by_cases h0 : i < 2
  · have HV := Lib.hid (show B = true by rw [HE.out, decide_eq_true h0]; rfl)
    have q0 : (i : Int) < 2 := by omega
    go_enter Try.func138, Try.ntmps138
    go_wp2
    go_ret
    exact ⟨ret_bool (by first | exact HV.out.symm | (rw [HV.out]; exact decide_eq_false (by omega)) | (rw [HV.out]; simp; done) | (rw [HV.out]; simp; omega)), HX0.out.hb⟩
  · have q0 : ¬ (i : Int) < 2 := by omega
    have HM1 := Lib.hid (HM.out (by omega))
    have HBf1 := Lib.hid (HBf.out (by omega))
    have HP1 := Lib.hid (HP.out (by omega))
    have HE1 := Lib.hid (show B = (decide (m ≠ 0) || decide (p ≠ 0)) by rw [HE.out, decide_eq_false h0, Bool.false_or])
    clear h0
    by_cases h1 : m = 0
    · subst h1
      by_cases h2 : p = 0
      · subst h2
        have HV := Lib.hid (show B = false by rw [HE1.out]; rfl)
        go_enter Try.func138, Try.ntmps138
        go_wp2_with fail
        refine (HM1.out _ HX0.out.hb).mono ?_
        rintro e w1 ⟨rfl, b1⟩
        have HX1 := Lib.hid (HX0.out.later b1)
        obtain ⟨k0, k1, k2⟩ := HX1.out.cell
        clear b1
        go_wp2_with fail
        refine (HBf1.out _).mono ?_
        rintro e w2 ⟨rfl, b1⟩
        have HX2 := Lib.hid (HX1.out.later b1)
        obtain ⟨k0, k1, k2⟩ := HX2.out.cell
        clear b1
        go_wp2_with fail
        refine (HP1.out _ HX2.out.hb).mono ?_
        rintro e w3 ⟨rfl, b1⟩
        have HX3 := Lib.hid (HX2.out.later b1)
        obtain ⟨k0, k1, k2⟩ := HX3.out.cell
        clear b1
        go_wp2
        go_ret
        exact ⟨ret_bool (by first | exact HV.out.symm | (rw [HV.out]; exact decide_eq_false (by omega)) | (rw [HV.out]; simp; done) | (rw [HV.out]; simp; omega)), HX3.out.hb⟩
      · have HV := Lib.hid (show B = true by rw [HE1.out]; simp [h2])
        have q2 : (p != 0) = true := by rw [bne_iff_ne]; omega
        go_enter Try.func138, Try.ntmps138
        go_wp2_with fail
        refine (HM1.out _ HX0.out.hb).mono ?_
        rintro e w1 ⟨rfl, b1⟩
        have HX1 := Lib.hid (HX0.out.later b1)
        obtain ⟨k0, k1, k2⟩ := HX1.out.cell
        clear b1
        go_wp2_with fail
        refine (HBf1.out _).mono ?_
        rintro e w2 ⟨rfl, b1⟩
        have HX2 := Lib.hid (HX1.out.later b1)
        obtain ⟨k0, k1, k2⟩ := HX2.out.cell
        clear b1
        go_wp2_with fail
        refine (HP1.out _ HX2.out.hb).mono ?_
        rintro e w3 ⟨rfl, b1⟩
        have HX3 := Lib.hid (HX2.out.later b1)
        obtain ⟨k0, k1, k2⟩ := HX3.out.cell
        clear b1
        go_wp2
        go_ret
        exact ⟨ret_bool (by first | exact HV.out.symm | (rw [HV.out]; exact decide_eq_false (by omega)) | (rw [HV.out]; simp; done) | (rw [HV.out]; simp; omega)), HX3.out.hb⟩
    · have HV := Lib.hid (show B = true by rw [HE1.out]; simp [h1])
      have q1 : (m != 0) = true := by rw [bne_iff_ne]; omega
      go_enter Try.func138, Try.ntmps138
      go_wp2_with fail
      refine (HM1.out _ HX0.out.hb).mono ?_
      rintro e w1 ⟨rfl, b1⟩
      have HX1 := Lib.hid (HX0.out.later b1)
      obtain ⟨k0, k1, k2⟩ := HX1.out.cell
      clear b1
      go_wp2
      go_ret
      exact ⟨ret_bool (by first | exact HV.out.symm | (rw [HV.out]; exact decide_eq_false (by omega)) | (rw [HV.out]; simp; done) | (rw [HV.out]; simp; omega)), HX1.out.hb⟩
end Go.Proofs.Ytlmfmfbnbbooaaa
