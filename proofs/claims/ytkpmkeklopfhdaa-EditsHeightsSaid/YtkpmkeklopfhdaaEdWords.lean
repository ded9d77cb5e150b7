/-
  The words for the kinds of edits: price, done, or.
-/
import Derived.Test.YtkpmkeklopfhdaaEdFns
import Derived.Test.YtkpmkeklopfhdaaCalmR
import Derived.Deep.RegionHeld3
import Derived.Deep.Cut
import Derived.Laws.EntriesVeiled
namespace Go.Proofs.Ytkpmkeklopfhdaa
open Go.ChangeShapes Go.WideShapes Go.ChangeAt Go.RowKit
set_option maxRecDepth 100000

abbrev fnV (f : Nat) : Value := .func (.func f) #[] #[]
abbrev wordsV : Array Value := #[.int .i64 1, .bool false, fnV 111, fnV 112, .int .i64 1, .bool true, fnV 113, fnV 114, .int .i64 1, .bool false, fnV 115, fnV 116, .int .i64 0, .bool true, fnV 117, fnV 118]

theorem words_any (w : World) : Calls Try.prog 96 #[] w fun e w' => e = .returned (.agg wordsV) ∧ Below w.heap.size w w' := by
  go_enter Try.func96, Try.ntmps96
  go_wp2
  refine bodyPost_ret (results_cell_row rfl _ _ w.heap.size 152 wordsV (0, 0) _ rfl (World.alloc_heap_new w _) Try.underlying152 rfl (by kernel_rfl)) rfl ?_
  exact ⟨rfl, (Below.refl _ _).alloc (Nat.le_refl _) _⟩

theorem wix0 (w : World) : (Instr.index 152 (.agg wordsV) (.int .i64 0)).run Try.prog w = .ok (.agg #[.int .i64 1, .bool false, fnV 111, fnV 112]) w := by
  simp [Instr.index, run_underlying Try.underlying152, asIntOf, go_sem, part]
theorem wix1 (w : World) : (Instr.index 152 (.agg wordsV) (.int .i64 1)).run Try.prog w = .ok (.agg #[.int .i64 1, .bool true, fnV 113, fnV 114]) w := by
  simp [Instr.index, run_underlying Try.underlying152, asIntOf, go_sem, part]
theorem wix2 (w : World) : (Instr.index 152 (.agg wordsV) (.int .i64 2)).run Try.prog w = .ok (.agg #[.int .i64 1, .bool false, fnV 115, fnV 116]) w := by
  simp [Instr.index, run_underlying Try.underlying152, asIntOf, go_sem, part]
theorem wix3 (w : World) : (Instr.index 152 (.agg wordsV) (.int .i64 3)).run Try.prog w = .ok (.agg #[.int .i64 0, .bool true, fnV 117, fnV 118]) w := by
  simp [Instr.index, run_underlying Try.underlying152, asIntOf, go_sem, part]

theorem wfd0 (w : World) : (Instr.field 151 (.agg #[.int .i64 1, .bool false, fnV 111, fnV 112]) 2).run Try.prog w = .ok (fnV 111) w := by
  simp [Instr.field, run_underlying Try.underlying151, go_sem, part, asAgg]
theorem wfd1 (w : World) : (Instr.field 151 (.agg #[.int .i64 1, .bool true, fnV 113, fnV 114]) 2).run Try.prog w = .ok (fnV 113) w := by
  simp [Instr.field, run_underlying Try.underlying151, go_sem, part, asAgg]
theorem wfd2 (w : World) : (Instr.field 151 (.agg #[.int .i64 1, .bool false, fnV 115, fnV 116]) 2).run Try.prog w = .ok (fnV 115) w := by
  simp [Instr.field, run_underlying Try.underlying151, go_sem, part, asAgg]
theorem wfd3 (w : World) : (Instr.field 151 (.agg #[.int .i64 0, .bool true, fnV 117, fnV 118]) 2).run Try.prog w = .ok (fnV 117) w := by
  simp [Instr.field, run_underlying Try.underlying151, go_sem, part, asAgg]

def hasB (s p : ByteArray) : Bool := decide (p.size ≤ s.size) && ((s.extract 0 p.size).toList == p.toList)
theorem HasPrefixL_any (s p : ByteArray) (w : World) : Calls Try.prog 121 #[.string s, .string p] w fun e w' => e = .returned (.bool (hasB s p)) ∧ w = w' := by
  by_cases h : p.size ≤ s.size
  · have HD := Lib.hid (show hasB s p = ((s.extract 0 p.size).toList == p.toList) by unfold hasB; rw [decide_eq_true h]; rfl)
    have h0 : (p.size : Int) ≤ s.size := by omega
    go_enter Try.func121, Try.ntmps121
    go_wp2
    go_ret
    exact ⟨ret_bool HD.out.symm, rfl⟩
  · have HD := Lib.hid (show hasB s p = false by unfold hasB; rw [decide_eq_false h]; rfl)
    have h0 : ¬ ((p.size : Int) ≤ s.size) := by omega
    go_enter Try.func121, Try.ntmps121
    go_wp2
    go_ret
    exact ⟨ret_bool HD.out.symm, rfl⟩
theorem HasPrefix_any (s p : ByteArray) (w : World) : Calls Try.prog 109 #[.string s, .string p] w fun e w' => e = .returned (.bool (hasB s p)) ∧ w = w' := by
  have H := Lib.hid (HasPrefixL_any s p w)
  go_enter Try.func109, Try.ntmps109
  go_wp2_with fail
  refine H.out.mono ?_
  rintro e w1 ⟨rfl, rfl⟩
  go_wp2
  go_ret
  exact ⟨rfl, rfl⟩

theorem w1_any (pi po ps : Int) (w : World) : Calls Try.prog 111 #[pv pi po ps] w fun e w' => e = .returned (.int .i64 0) ∧ Below w.heap.size w w' := by
  go_enter Try.func111, Try.ntmps111
  go_wp2
  go_ret
  exact ⟨rfl, (Below.refl _ w).alloc (Nat.le_refl _) _⟩
theorem w3_any (pi po ps : Int) (w : World) : Calls Try.prog 113 #[pv pi po ps] w fun e w' => e = .returned (.int .i64 ps) ∧ Below w.heap.size w w' := by
  go_enter Try.func113, Try.ntmps113
  go_wp2
  go_ret
  exact ⟨rfl, (Below.refl _ w).alloc (Nat.le_refl _) _⟩
theorem w5_any (pi po ps : Int) (w : World) : Calls Try.prog 115 #[pv pi po ps] w fun e w' => e = .returned (.int .i64 po) ∧ Below w.heap.size w w' := by
  go_enter Try.func115, Try.ntmps115
  go_wp2
  go_ret
  exact ⟨rfl, (Below.refl _ w).alloc (Nat.le_refl _) _⟩
theorem w7_any (pi po ps : Int) (w : World) : Calls Try.prog 117 #[pv pi po ps] w fun e w' => e = .returned (.int .i64 pi) ∧ Below w.heap.size w w' := by
  go_enter Try.func117, Try.ntmps117
  go_wp2
  go_ret
  exact ⟨rfl, (Below.refl _ w).alloc (Nat.le_refl _) _⟩
theorem w2_any (t o : ByteArray) (w : World) : Calls Try.prog 112 #[.string t, .string o] w fun e w' => e = .returned (.tuple #[.string t, .bool true]) ∧ w = w' := by
  go_enter Try.func112, Try.ntmps112
  go_wp2
  go_ret2
  exact ⟨rfl, rfl⟩
theorem w4_any (t o : ByteArray) (w : World) : Calls Try.prog 114 #[.string t, .string o] w fun e w' => e = .returned (.tuple #[.string o, .bool (!(o.toList == t.toList))]) ∧ w = w' := by
  go_enter Try.func114, Try.ntmps114
  go_wp2
  go_ret2
  exact ⟨rfl, rfl⟩
theorem w6_any (t o : ByteArray) (w : World) : Calls Try.prog 116 #[.string t, .string o] w fun e w' => e = .returned (.tuple #[.string ⟨#[]⟩, .bool true]) ∧ w = w' := by
  go_enter Try.func116, Try.ntmps116
  go_wp2
  go_ret2
  exact ⟨rfl, rfl⟩
theorem w8_any (t o : ByteArray) (w : World) : Calls Try.prog 118 #[.string t, .string o] w fun e w' => e = .returned (.tuple #[.string o, .bool true]) ∧ w = w' := by
  go_enter Try.func118, Try.ntmps118
  go_wp2
  go_ret2
  exact ⟨rfl, rfl⟩

abbrev plC (p : Pl) : Array Value := #[.int .i64 p.c, .int .i64 p.w, .int .i64 p.k, .int .i64 p.b, .int .i64 p.i, .int .i64 p.j]
theorem heap_new3 (w : World) (a b c : Obj) : (((w.alloc a).alloc b).alloc c).heap[w.heap.size + 1 + 1]? = some c := by
  have := World.alloc_heap_new ((w.alloc a).alloc b) c; simpa using this
set_option maxHeartbeats 1000000 in
theorem or_any (x y : Pl) (w : World) : Calls Try.prog 90 #[.agg (plC x), .agg (plC y)] w fun e w' => e = .returned (.agg (plC (orW x y))) ∧ Below w.heap.size w w' := by
  have HB := Lib.hid (fun (a b c : Obj) => (((Below.refl w.heap.size w).alloc (Nat.le_refl _) a).alloc (by simp) b).alloc (by simp; omega) c)
  have fin : ∀ (z : Pl), plC z = #[.int .i64 z.c, .int .i64 z.w, .int .i64 z.k, .int .i64 z.b, .int .i64 z.i, .int .i64 z.j] := fun z => rfl
  by_cases h : x.w = 0
  · have HE := Lib.hid (show orW x y = y by unfold orW; rw [if_pos (Or.inl h)])
    go_enter Try.func90, Try.ntmps90
    go_wp2
    refine bodyPost_ret (results_cell_row rfl _ _ (w.heap.size + 1 + 1) 93 (plC y) (0, 0) _ rfl (heap_new3 w _ _ _) Try.underlying93 rfl (by kernel_rfl)) rfl ?_
    exact ⟨by rw [HE.out], HB.out _ _ _⟩
  · by_cases h2 : y.c < x.c
    · have HE := Lib.hid (show orW x y = y by unfold orW; rw [if_pos (Or.inr h2)])
      go_enter Try.func90, Try.ntmps90
      go_wp2
      refine bodyPost_ret (results_cell_row rfl _ _ (w.heap.size + 1 + 1) 93 (plC y) (0, 0) _ rfl (heap_new3 w _ _ _) Try.underlying93 rfl (by kernel_rfl)) rfl ?_
      exact ⟨by rw [HE.out], HB.out _ _ _⟩
    · by_cases h3 : y.c = x.c
      · have HE := Lib.hid (show orW x y = ⟨x.c, wrap64 (x.w + y.w), x.k, x.b, x.i, x.j⟩ by unfold orW; rw [if_neg (by rintro (h' | h') <;> omega), if_pos h3])
        have HE3 := Lib.hid h3
        have hq : (y.c == x.c) = true := by rw [beq_iff_eq]; exact h3
        clear h3
        go_enter Try.func90, Try.ntmps90
        go_wp2
        refine bodyPost_ret (results_cell_row rfl _ _ (w.heap.size + 1 + 1) 93 (plC (orW x y)) (0, 0) _ rfl (by rw [HE.out]; exact heap_new3 w _ _ _) Try.underlying93 rfl (by kernel_rfl)) rfl ?_
        exact ⟨rfl, HB.out _ _ _⟩
      · have HE := Lib.hid (show orW x y = x by unfold orW; rw [if_neg (by rintro (h' | h') <;> omega), if_neg h3])
        have hq : (y.c == x.c) = false := by rw [beq_eq_false_iff_ne]; exact h3
        go_enter Try.func90, Try.ntmps90
        go_wp2
        refine bodyPost_ret (results_cell_row rfl _ _ (w.heap.size + 1 + 1) 93 (plC x) (0, 0) _ rfl (heap_new3 w _ _ _) Try.underlying93 rfl (by kernel_rfl)) rfl ?_
        exact ⟨by rw [HE.out], HB.out _ _ _⟩

theorem heap2_new (w : World) (a b : Obj) : ((w.alloc a).alloc b).heap.size = w.heap.size + 1 + 1 := by simp

set_option maxHeartbeats 2000000 in
theorem price0_any (b pi po ps : Int) (w : World) : Calls Try.prog 70 #[.agg #[.int .i64 0, .int .i64 b], pv pi po ps] w fun e w' => e = .returned (.int .i64 0) ∧ Below w.heap.size w w' := by
  obtain ⟨W0, hW0⟩ : ∃ W0, (w.alloc (.cells #[.int .i64 0, .int .i64 b] 77)).alloc (.cells #[.int .i64 pi, .int .i64 po, .int .i64 ps] 28) = W0 := ⟨_, rfl⟩
  have hB0 : Below w.heap.size w W0 := by rw [← hW0]; exact ((Below.refl _ w).alloc (Nat.le_refl _) _).alloc (by simp) _
  have k0 : W0.cell? ⟨w.heap.size, 0, none⟩ = some (.int .i64 0) := by rw [← hW0]; simp
  have k1 : W0.cell? ⟨w.heap.size + 1, 0, none⟩ = some (.int .i64 pi) := by rw [← hW0]; simp
  have k2 : W0.cell? ⟨w.heap.size + 1, 1, none⟩ = some (.int .i64 po) := by rw [← hW0]; simp
  have k3 : W0.cell? ⟨w.heap.size + 1, 2, none⟩ = some (.int .i64 ps) := by rw [← hW0]; simp
  obtain ⟨H, hH⟩ : ∃ H, w.heap.size = H := ⟨_, rfl⟩
  rw [hH] at k0 k1 k2 k3
  have hx := wix0
  have hx2 := wfd0
  have hmx : Try.prog.follows .mixedOrders = true := by kernel_rfl
  go_enter Try.func70, Try.ntmps70
  go_wp2_with fail
  try rw [hW0]
  try rw [hH]
  clear hW0
  refine region_calm hmx (by kernel_rfl) ?_
  intro S hSn f hS1 hS2
  have l0 : ∀ s, (f s).cell? ⟨H, 0, none⟩ = some (.int .i64 0) := fun s => cell_later (hS1 s) k0
  have l1 : ∀ s, (f s).cell? ⟨H + 1, 0, none⟩ = some (.int .i64 pi) := fun s => cell_later (hS1 s) k1
  have l2 : ∀ s, (f s).cell? ⟨H + 1, 1, none⟩ = some (.int .i64 po) := fun s => cell_later (hS1 s) k2
  have l3 : ∀ s, (f s).cell? ⟨H + 1, 2, none⟩ = some (.int .i64 ps) := fun s => cell_later (hS1 s) k3
  have hA := Lib.hid (calm_call hS1 hS2 (fun s => words_any (f s)))
  have hP := Lib.hid (calm_call hS1 hS2 (fun s => w1_any pi po ps (f s)))
  repeat (go_big_quiet_step (first | exact hA.out _ | exact hP.out _))
  refine wpQuiet_nil ?_
  rintro _ ⟨s, rfl⟩
  have hbs := below_nx hB0 (hS1 s)
  clear l0 l1 l2 l3 hA hP hS2
  generalize f s = w2 at hbs
  clear hS1
  try dsimp only [Exit.then]
  go_wp2
  go_ret
  exact ⟨rfl, hbs⟩

set_option maxHeartbeats 2000000 in
theorem price1_any (b pi po ps : Int) (w : World) : Calls Try.prog 70 #[.agg #[.int .i64 1, .int .i64 b], pv pi po ps] w fun e w' => e = .returned (.int .i64 ps) ∧ Below w.heap.size w w' := by
  obtain ⟨W0, hW0⟩ : ∃ W0, (w.alloc (.cells #[.int .i64 1, .int .i64 b] 77)).alloc (.cells #[.int .i64 pi, .int .i64 po, .int .i64 ps] 28) = W0 := ⟨_, rfl⟩
  have hB0 : Below w.heap.size w W0 := by rw [← hW0]; exact ((Below.refl _ w).alloc (Nat.le_refl _) _).alloc (by simp) _
  have k0 : W0.cell? ⟨w.heap.size, 0, none⟩ = some (.int .i64 1) := by rw [← hW0]; simp
  have k1 : W0.cell? ⟨w.heap.size + 1, 0, none⟩ = some (.int .i64 pi) := by rw [← hW0]; simp
  have k2 : W0.cell? ⟨w.heap.size + 1, 1, none⟩ = some (.int .i64 po) := by rw [← hW0]; simp
  have k3 : W0.cell? ⟨w.heap.size + 1, 2, none⟩ = some (.int .i64 ps) := by rw [← hW0]; simp
  obtain ⟨H, hH⟩ : ∃ H, w.heap.size = H := ⟨_, rfl⟩
  rw [hH] at k0 k1 k2 k3
  have hx := wix1
  have hx2 := wfd1
  have hmx : Try.prog.follows .mixedOrders = true := by kernel_rfl
  go_enter Try.func70, Try.ntmps70
  go_wp2_with fail
  try rw [hW0]
  try rw [hH]
  clear hW0
  refine region_calm hmx (by kernel_rfl) ?_
  intro S hSn f hS1 hS2
  have l0 : ∀ s, (f s).cell? ⟨H, 0, none⟩ = some (.int .i64 1) := fun s => cell_later (hS1 s) k0
  have l1 : ∀ s, (f s).cell? ⟨H + 1, 0, none⟩ = some (.int .i64 pi) := fun s => cell_later (hS1 s) k1
  have l2 : ∀ s, (f s).cell? ⟨H + 1, 1, none⟩ = some (.int .i64 po) := fun s => cell_later (hS1 s) k2
  have l3 : ∀ s, (f s).cell? ⟨H + 1, 2, none⟩ = some (.int .i64 ps) := fun s => cell_later (hS1 s) k3
  have hA := Lib.hid (calm_call hS1 hS2 (fun s => words_any (f s)))
  have hP := Lib.hid (calm_call hS1 hS2 (fun s => w3_any pi po ps (f s)))
  repeat (go_big_quiet_step (first | exact hA.out _ | exact hP.out _))
  refine wpQuiet_nil ?_
  rintro _ ⟨s, rfl⟩
  have hbs := below_nx hB0 (hS1 s)
  clear l0 l1 l2 l3 hA hP hS2
  generalize f s = w2 at hbs
  clear hS1
  try dsimp only [Exit.then]
  go_wp2
  go_ret
  exact ⟨rfl, hbs⟩

set_option maxHeartbeats 2000000 in
theorem price2_any (b pi po ps : Int) (w : World) : Calls Try.prog 70 #[.agg #[.int .i64 2, .int .i64 b], pv pi po ps] w fun e w' => e = .returned (.int .i64 po) ∧ Below w.heap.size w w' := by
  obtain ⟨W0, hW0⟩ : ∃ W0, (w.alloc (.cells #[.int .i64 2, .int .i64 b] 77)).alloc (.cells #[.int .i64 pi, .int .i64 po, .int .i64 ps] 28) = W0 := ⟨_, rfl⟩
  have hB0 : Below w.heap.size w W0 := by rw [← hW0]; exact ((Below.refl _ w).alloc (Nat.le_refl _) _).alloc (by simp) _
  have k0 : W0.cell? ⟨w.heap.size, 0, none⟩ = some (.int .i64 2) := by rw [← hW0]; simp
  have k1 : W0.cell? ⟨w.heap.size + 1, 0, none⟩ = some (.int .i64 pi) := by rw [← hW0]; simp
  have k2 : W0.cell? ⟨w.heap.size + 1, 1, none⟩ = some (.int .i64 po) := by rw [← hW0]; simp
  have k3 : W0.cell? ⟨w.heap.size + 1, 2, none⟩ = some (.int .i64 ps) := by rw [← hW0]; simp
  obtain ⟨H, hH⟩ : ∃ H, w.heap.size = H := ⟨_, rfl⟩
  rw [hH] at k0 k1 k2 k3
  have hx := wix2
  have hx2 := wfd2
  have hmx : Try.prog.follows .mixedOrders = true := by kernel_rfl
  go_enter Try.func70, Try.ntmps70
  go_wp2_with fail
  try rw [hW0]
  try rw [hH]
  clear hW0
  refine region_calm hmx (by kernel_rfl) ?_
  intro S hSn f hS1 hS2
  have l0 : ∀ s, (f s).cell? ⟨H, 0, none⟩ = some (.int .i64 2) := fun s => cell_later (hS1 s) k0
  have l1 : ∀ s, (f s).cell? ⟨H + 1, 0, none⟩ = some (.int .i64 pi) := fun s => cell_later (hS1 s) k1
  have l2 : ∀ s, (f s).cell? ⟨H + 1, 1, none⟩ = some (.int .i64 po) := fun s => cell_later (hS1 s) k2
  have l3 : ∀ s, (f s).cell? ⟨H + 1, 2, none⟩ = some (.int .i64 ps) := fun s => cell_later (hS1 s) k3
  have hA := Lib.hid (calm_call hS1 hS2 (fun s => words_any (f s)))
  have hP := Lib.hid (calm_call hS1 hS2 (fun s => w5_any pi po ps (f s)))
  repeat (go_big_quiet_step (first | exact hA.out _ | exact hP.out _))
  refine wpQuiet_nil ?_
  rintro _ ⟨s, rfl⟩
  have hbs := below_nx hB0 (hS1 s)
  clear l0 l1 l2 l3 hA hP hS2
  generalize f s = w2 at hbs
  clear hS1
  try dsimp only [Exit.then]
  go_wp2
  go_ret
  exact ⟨rfl, hbs⟩

set_option maxHeartbeats 2000000 in
theorem price3_any (b pi po ps : Int) (w : World) : Calls Try.prog 70 #[.agg #[.int .i64 3, .int .i64 b], pv pi po ps] w fun e w' => e = .returned (.int .i64 pi) ∧ Below w.heap.size w w' := by
  obtain ⟨W0, hW0⟩ : ∃ W0, (w.alloc (.cells #[.int .i64 3, .int .i64 b] 77)).alloc (.cells #[.int .i64 pi, .int .i64 po, .int .i64 ps] 28) = W0 := ⟨_, rfl⟩
  have hB0 : Below w.heap.size w W0 := by rw [← hW0]; exact ((Below.refl _ w).alloc (Nat.le_refl _) _).alloc (by simp) _
  have k0 : W0.cell? ⟨w.heap.size, 0, none⟩ = some (.int .i64 3) := by rw [← hW0]; simp
  have k1 : W0.cell? ⟨w.heap.size + 1, 0, none⟩ = some (.int .i64 pi) := by rw [← hW0]; simp
  have k2 : W0.cell? ⟨w.heap.size + 1, 1, none⟩ = some (.int .i64 po) := by rw [← hW0]; simp
  have k3 : W0.cell? ⟨w.heap.size + 1, 2, none⟩ = some (.int .i64 ps) := by rw [← hW0]; simp
  obtain ⟨H, hH⟩ : ∃ H, w.heap.size = H := ⟨_, rfl⟩
  rw [hH] at k0 k1 k2 k3
  have hx := wix3
  have hx2 := wfd3
  have hmx : Try.prog.follows .mixedOrders = true := by kernel_rfl
  go_enter Try.func70, Try.ntmps70
  go_wp2_with fail
  try rw [hW0]
  try rw [hH]
  clear hW0
  refine region_calm hmx (by kernel_rfl) ?_
  intro S hSn f hS1 hS2
  have l0 : ∀ s, (f s).cell? ⟨H, 0, none⟩ = some (.int .i64 3) := fun s => cell_later (hS1 s) k0
  have l1 : ∀ s, (f s).cell? ⟨H + 1, 0, none⟩ = some (.int .i64 pi) := fun s => cell_later (hS1 s) k1
  have l2 : ∀ s, (f s).cell? ⟨H + 1, 1, none⟩ = some (.int .i64 po) := fun s => cell_later (hS1 s) k2
  have l3 : ∀ s, (f s).cell? ⟨H + 1, 2, none⟩ = some (.int .i64 ps) := fun s => cell_later (hS1 s) k3
  have hA := Lib.hid (calm_call hS1 hS2 (fun s => words_any (f s)))
  have hP := Lib.hid (calm_call hS1 hS2 (fun s => w7_any pi po ps (f s)))
  repeat (go_big_quiet_step (first | exact hA.out _ | exact hP.out _))
  refine wpQuiet_nil ?_
  rintro _ ⟨s, rfl⟩
  have hbs := below_nx hB0 (hS1 s)
  clear l0 l1 l2 l3 hA hP hS2
  generalize f s = w2 at hbs
  clear hS1
  try dsimp only [Exit.then]
  go_wp2
  go_ret
  exact ⟨rfl, hbs⟩

theorem price_any (k : Nat) (hk : k < 4) (b : Int) (pi po ps : Nat) (w : World) : Calls Try.prog 70 #[.agg #[.int .i64 (k : Int), .int .i64 b], pv pi po ps] w fun e w' => e = .returned (.int .i64 (prc pi po ps k : Nat)) ∧ Below w.heap.size w w' := by
  rcases (show k = 0 ∨ k = 1 ∨ k = 2 ∨ k = 3 by omega) with rfl | rfl | rfl | rfl
  · exact price0_any b pi po ps w
  · exact price1_any b pi po ps w
  · exact price2_any b pi po ps w
  · exact price3_any b pi po ps w
end Go.Proofs.Ytkpmkeklopfhdaa
