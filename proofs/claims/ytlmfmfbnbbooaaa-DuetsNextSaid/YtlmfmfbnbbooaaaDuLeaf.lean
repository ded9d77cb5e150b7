/-
  Contracts of the small functions of package duets: intervals, moves, places.
-/
import Derived.Test.YtlmfmfbnbbooaaaLeafA
import Derived.Test.YtlmfmfbnbbooaaaDuMath
import Derived.Test.YtlmfmfbnbbooaaaMem
import Derived.Test.YtlmfmfbnbbooaaaCalm
namespace Go.Proofs.Ytlmfmfbnbbooaaa
open Go.ChangeShapes Go.WideShapes Go.ChangeAt Go.RowKit
set_option maxRecDepth 100000

theorem note_at {l : List Int} {i : Nat} (h : notesB l = true) (hi : i < l.length) : 0 ≤ nAt l i ∧ nAt l i ≤ 20 := by
  unfold notesB at h
  have := List.all_eq_true.1 h l[i] (List.getElem_mem hi)
  unfold noteB at this
  unfold nAt
  rw [List.getElem?_eq_getElem hi]
  exact of_decide_eq_true this

theorem dmod_any (x n : Int) (h0 : 1 ≤ n) (h1 : n ≤ 4294967296) (w : World) :
    Calls Try.prog 142 #[.int .i64 x, .int .i64 n] w fun e w' => e = .returned (.int .i64 (x % n)) ∧ w = w' := by
  have h2 : x.tmod n < n := Int.tmod_lt_of_pos x (by omega)
  have h3 : -n < x.tmod n := Int.lt_tmod_of_pos x (by omega)
  have H := Lib.hid (mod_fix x n)
  go_enter Try.func142, Try.ntmps142
  go_wp2
  go_ret
  exact ⟨ret_int H.out, rfl⟩

theorem isOpen_any (x : Int) (w : World) : Calls Try.prog 140 #[.int .i64 x] w fun e w' => e = .returned (.bool (openB x)) ∧ w = w' := by
  have HM := Lib.hid (fun W => dmod_any x 7 (by omega) (by omega) W)
  have HE := Lib.hid (show openB x = decide (x % 7 = 0 ∨ x % 7 = 4) from rfl)
  generalize openB x = B at *
  generalize x % 7 = r at *
  by_cases h0 : r = 0
  · subst h0
    go_enter Try.func140, Try.ntmps140
    go_wp2_with fail
    refine (HM.out _).mono ?_
    rintro e w1 ⟨rfl, rfl⟩
    go_wp2
    go_ret
    exact ⟨ret_bool (by rw [HE.out]; simp), rfl⟩
  · go_enter Try.func140, Try.ntmps140
    go_wp2_with fail
    refine (HM.out _).mono ?_
    rintro e w1 ⟨rfl, rfl⟩
    go_wp2
    go_ret
    exact ⟨ret_bool (by rw [HE.out]; simp [h0, ← Bool.beq_eq_decide_eq]), rfl⟩

theorem isSweet_any (x : Int) (w : World) : Calls Try.prog 141 #[.int .i64 x] w fun e w' => e = .returned (.bool (sweetB x)) ∧ w = w' := by
  have HM := Lib.hid (fun W => dmod_any x 7 (by omega) (by omega) W)
  have HE := Lib.hid (show sweetB x = decide (x % 7 = 2 ∨ x % 7 = 5) from rfl)
  generalize sweetB x = B at *
  generalize x % 7 = r at *
  by_cases h0 : r = 2
  · subst h0
    go_enter Try.func141, Try.ntmps141
    go_wp2_with fail
    refine (HM.out _).mono ?_
    rintro e w1 ⟨rfl, rfl⟩
    go_wp2
    go_ret
    exact ⟨ret_bool (by rw [HE.out]; simp), rfl⟩
  · go_enter Try.func141, Try.ntmps141
    go_wp2_with fail
    refine (HM.out _).mono ?_
    rintro e w1 ⟨rfl, rfl⟩
    go_wp2
    go_ret
    exact ⟨ret_bool (by rw [HE.out]; simp [h0, ← Bool.beq_eq_decide_eq]), rfl⟩

theorem isStep_any (x : Int) (w : World) : Calls Try.prog 120 #[.int .i64 x] w fun e w' => e = .returned (.bool (decide (x = 1 ∨ x = -1))) ∧ w = w' := by
  by_cases h0 : x = 1
  · subst h0
    go_enter Try.func120, Try.ntmps120
    go_wp2
    go_ret
    exact ⟨ret_bool (by simp), rfl⟩
  · go_enter Try.func120, Try.ntmps120
    go_wp2
    go_ret
    exact ⟨ret_bool (by simp [h0, ← Bool.beq_eq_decide_eq]), rfl⟩
theorem isSkip_any (x : Int) (w : World) : Calls Try.prog 145 #[.int .i64 x] w fun e w' => e = .returned (.bool (decide (x = 2 ∨ x = -2))) ∧ w = w' := by
  by_cases h0 : x = 2
  · subst h0
    go_enter Try.func145, Try.ntmps145
    go_wp2
    go_ret
    exact ⟨ret_bool (by simp), rfl⟩
  · go_enter Try.func145, Try.ntmps145
    go_wp2
    go_ret
    exact ⟨ret_bool (by simp [h0, ← Bool.beq_eq_decide_eq]), rfl⟩
theorem isLeap_any (x : Int) (w : World) : Calls Try.prog 144 #[.int .i64 x] w fun e w' => e = .returned (.bool (decide (x < -2 ∨ 2 < x))) ∧ w = w' := by
  by_cases h0 : x < -2
  · go_enter Try.func144, Try.ntmps144
    go_wp2
    go_ret
    exact ⟨ret_bool (by simp [h0]), rfl⟩
  · go_enter Try.func144, Try.ntmps144
    go_wp2
    go_ret
    exact ⟨ret_bool (by rw [decide_eq_false (show ¬ x < -2 by omega), Bool.false_or]), rfl⟩

/-- A place of two parts. -/
structure PlaceAt (gs ss : List Int) (g s : Value) (i : Nat) (w : World) : Prop where
  hg : IntsV w g gs
  hs : IntsV w s ss
  ig : i < gs.length
  is : i < ss.length
  ng : notesB gs = true
  ns : notesB ss = true
  lg : gs.length ≤ 8
def plV (g s : Value) (j : Int) : Value := .agg #[g, s, .int .i64 j]
theorem PlaceAt.back {gs ss : List Int} {g s : Value} {i : Nat} {w : World} (h : PlaceAt gs ss g s i w) : PlaceAt gs ss g s (i - 1) w :=
  ⟨h.hg, h.hs, by have := h.ig; omega, by have := h.is; omega, h.ng, h.ns, h.lg⟩
theorem PlaceAt.iv_le {gs ss : List Int} {g s : Value} {i : Nat} {w : World} (h : PlaceAt gs ss g s i w) : -20 ≤ ivA gs ss i ∧ ivA gs ss i ≤ 20 := by
  have h1 := note_at h.ng h.ig
  have h2 := note_at h.ns h.is
  unfold ivA; omega
theorem mv_le {l : List Int} {i : Nat} (h : notesB l = true) (hi : i < l.length) : -20 ≤ mvA l i ∧ mvA l i ≤ 20 := by
  have h1 := note_at h hi
  have h2 := note_at h (show i - 1 < l.length by omega)
  unfold mvA; omega

/-- The box of a place. -/
theorem box_facts (g s : Value) (j : Int) (w : World) : Below w.heap.size w (w.alloc (.cells #[g, s, .int .i64 j] 97)) ∧ (w.alloc (.cells #[g, s, .int .i64 j] 97)).heap.size = w.heap.size + 1 ∧
    (w.alloc (.cells #[g, s, .int .i64 j] 97)).cell? ⟨w.heap.size, 0, none⟩ = some g ∧ (w.alloc (.cells #[g, s, .int .i64 j] 97)).cell? ⟨w.heap.size, 1, none⟩ = some s ∧ (w.alloc (.cells #[g, s, .int .i64 j] 97)).cell? ⟨w.heap.size, 2, none⟩ = some (.int .i64 j) := by
  have r := Row.new w 97 [g, s, .int .i64 j]
  exact ⟨(Below.refl _ w).alloc (Nat.le_refl _) _, World.size_alloc _ _, r.cell 0, r.cell 1, r.cell 2⟩
theorem open_cells {W : World} {v : Value} {xs : List Int} (h : IntsV W v xs) {i : Nat} (hi : i < xs.length) : ∃ b off cap, v = .slice (some ⟨b, off, none⟩) xs.length cap ∧ ∀ i, i < xs.length → W.cell? ⟨b, off + i, none⟩ = some (.int .i64 (nAt xs i)) := by
  obtain ⟨ao, cap, rfl, _, hc⟩ := h
  obtain ⟨b, off, rfl, hd⟩ := hc (by omega)
  exact ⟨b, off, cap, rfl, hd⟩

theorem interval_any {gs ss : List Int} {g s : Value} {i : Nat} {w : World} (h : PlaceAt gs ss g s i w) :
    Calls Try.prog 139 #[plV g s (i : Int)] w fun e w' => e = .returned (.int .i64 (ivA gs ss i)) ∧ Below w.heap.size w w' := by
  obtain ⟨b, off, cap, rfl, hc⟩ := open_cells h.hg h.ig
  obtain ⟨b', off', cap', rfl, hd⟩ := open_cells h.hs h.is
  obtain ⟨bw, hsz, k0, k1, k2⟩ := box_facts (.slice (some ⟨b, off, none⟩) gs.length cap) (.slice (some ⟨b', off', none⟩) ss.length cap') (i : Int) w
  have ig := h.ig
  have is := h.is
  have c1 := cell_later bw (hc i ig)
  have c2 := cell_later bw (hd i is)
  have n1 := note_at h.ng ig
  have n2 := note_at h.ns is
  have HE := Lib.hid (show ivA gs ss i = nAt ss i - nAt gs i from rfl)
  have HB := Lib.hid bw
  obtain ⟨W1, hW1⟩ : ∃ W1, w.alloc (.cells #[.slice (some ⟨b, off, none⟩) gs.length cap, .slice (some ⟨b', off', none⟩) ss.length cap', .int .i64 (i : Int)] 97) = W1 := ⟨_, rfl⟩
  rw [hW1] at k0 k1 k2 c1 c2 HB
  have HW := Lib.hid hW1
  clear hW1 hc hd bw hsz h
  generalize ivA gs ss i = v at *
  generalize nAt gs i = x at *
  generalize nAt ss i = y at *
  generalize gs.length = L1 at *
  generalize ss.length = L2 at *
  unfold plV
  go_enter Try.func139, Try.ntmps139
  go_wp2_with fail
  rw [HW.out]
  go_quiet (fail)
  go_wp2
  go_ret
  exact ⟨ret_int (by rw [HE.out]), below_drewN HB.out nq⟩

theorem secondMove_any {gs ss : List Int} {g s : Value} {i : Nat} {w : World} (h : PlaceAt gs ss g s i w) (hi : 1 ≤ i) :
    Calls Try.prog 119 #[plV g s (i : Int)] w fun e w' => e = .returned (.int .i64 (mvA ss i)) ∧ Below w.heap.size w w' := by
  have ig := h.ig
  have is := h.is
  have i8 : i < 8 := by have := h.lg; omega
  obtain ⟨b, off, cap, rfl, hd⟩ := open_cells h.hs h.is
  have n1 := note_at h.ns (show i - 1 < ss.length by omega)
  have n2 := note_at h.ns (show i < ss.length by omega)
  obtain ⟨oa, oc, rfl, _⟩ := h.hg
  obtain ⟨bw, hsz, k0, k1, k2⟩ := box_facts (.slice oa gs.length oc) (.slice (some ⟨b, off, none⟩) ss.length cap) (i : Int) w
  have c1 := cell_later bw (hd i (by omega))
  have c2 := cell_later bw (hd (i - 1) (by omega))
  have HE := Lib.hid (show mvA ss i = nAt ss i - nAt ss (i - 1) from rfl)
  have HB := Lib.hid bw
  have e1 : ((i : Int) - 1).toNat = i - 1 := by omega
  obtain ⟨W1, hW1⟩ : ∃ W1, w.alloc (.cells #[.slice oa gs.length oc, .slice (some ⟨b, off, none⟩) ss.length cap, .int .i64 (i : Int)] 97) = W1 := ⟨_, rfl⟩
  rw [hW1] at k0 k1 k2 c1 c2 HB
  have HW := Lib.hid hW1
  clear hW1 hd bw hsz h
  generalize mvA ss i = v at *
  generalize nAt ss i = x at *
  generalize nAt ss (i - 1) = y at *
  generalize gs.length = L1 at *
  generalize ss.length = L2 at *
  unfold plV
  go_enter Try.func119, Try.ntmps119
  go_wp2_with fail
  rw [HW.out]
  go_quiet (fail)
  go_wp2
  go_ret
  exact ⟨ret_int (by rw [HE.out]), below_drewN HB.out nq⟩

theorem givenMove_any {gs ss : List Int} {g s : Value} {i : Nat} {w : World} (h : PlaceAt gs ss g s i w) (hi : 1 ≤ i) :
    Calls Try.prog 118 #[plV g s (i : Int)] w fun e w' => e = .returned (.int .i64 (mvA gs i)) ∧ Below w.heap.size w w' := by
  have ig := h.ig
  have is := h.is
  have i8 : i < 8 := by have := h.lg; omega
  obtain ⟨b, off, cap, rfl, hd⟩ := open_cells h.hg h.ig
  have n1 := note_at h.ng (show i - 1 < gs.length by omega)
  have n2 := note_at h.ng (show i < gs.length by omega)
  obtain ⟨oa, oc, rfl, _⟩ := h.hs
  obtain ⟨bw, hsz, k0, k1, k2⟩ := box_facts (.slice (some ⟨b, off, none⟩) gs.length cap) (.slice oa ss.length oc) (i : Int) w
  have c1 := cell_later bw (hd i (by omega))
  have c2 := cell_later bw (hd (i - 1) (by omega))
  have HE := Lib.hid (show mvA gs i = nAt gs i - nAt gs (i - 1) from rfl)
  have HB := Lib.hid bw
  have e1 : ((i : Int) - 1).toNat = i - 1 := by omega
  obtain ⟨W1, hW1⟩ : ∃ W1, w.alloc (.cells #[.slice (some ⟨b, off, none⟩) gs.length cap, .slice oa ss.length oc, .int .i64 (i : Int)] 97) = W1 := ⟨_, rfl⟩
  rw [hW1] at k0 k1 k2 c1 c2 HB
  have HW := Lib.hid hW1
  clear hW1 hd bw hsz h
  generalize mvA gs i = v at *
  generalize nAt gs i = x at *
  generalize nAt gs (i - 1) = y at *
  generalize gs.length = L1 at *
  generalize ss.length = L2 at *
  unfold plV
  go_enter Try.func118, Try.ntmps118
  go_wp2_with fail
  rw [HW.out]
  go_quiet (fail)
  go_wp2
  go_ret
  exact ⟨ret_int (by rw [HE.out]), below_drewN HB.out nq⟩

theorem before_any (g s : Value) (hg : ∃ a m c, g = .slice a m c) (hs : ∃ a m c, s = .slice a m c) (i : Nat) (h1 : 1 ≤ i) (hi : i < 4294967296) (w : World) :
    Calls Try.prog 143 #[plV g s (i : Int)] w fun e w' => e = .returned (plV g s ((i : Int) - 1)) ∧ Below w.heap.size w w' := by
  obtain ⟨a, m, c, rfl⟩ := hg
  obtain ⟨a', m', c', rfl⟩ := hs
  unfold plV
  go_enter Try.func143, Try.ntmps143
  go_wp2_with fail
  refine bodyPost_ret (results_cell_row rfl _ _ (w.heap.size + 1) 97 #[.slice a m c, .slice a' m' c', .int .i64 ((i : Int) - 1)] (0, 0) _ rfl (heap_alloc2_new w _ _) Try.underlying97 rfl (by kernel_rfl)) rfl ?_
  exact ⟨rfl, ((Below.refl _ _).alloc (Nat.le_refl _) _).alloc (by simp) _⟩
end Go.Proofs.Ytlmfmfbnbbooaaa
