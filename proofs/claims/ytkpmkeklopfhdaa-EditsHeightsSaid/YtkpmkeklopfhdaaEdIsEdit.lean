/-
  isEdit; all of a slice of edits.
-/
import Derived.Test.YtkpmkeklopfhdaaEdWords
import Derived.Test.YtkpmkeklopfhdaaEdFns
import Derived.Test.YtkpmkeklopfhdaaCalmR
namespace Go.Proofs.Ytkpmkeklopfhdaa
open Go.ChangeShapes Go.WideShapes Go.ChangeAt Go.RowKit
set_option linter.unusedVariables false
set_option maxRecDepth 100000

def editB (k b : Int) : Bool := decide (0 ≤ k) && (decide (k ≤ 3) && (if k = 0 ∨ k = 2 then decide (b = 0) else decide (0 ≤ b) && decide (b ≤ 255)))
theorem editB_even {k b : Int} (h : k = 0 ∨ k = 2) : editB k b = decide (b = 0) := by unfold editB; rcases h with rfl | rfl <;> simp
theorem editB_odd {k b : Int} (h : k = 1 ∨ k = 3) : editB k b = (decide (0 ≤ b) && decide (b ≤ 255)) := by unfold editB; rcases h with rfl | rfl <;> simp
theorem editB_low {k b : Int} (h : k < 0) : editB k b = false := by unfold editB; rw [decide_eq_false (by omega)]; rfl
theorem editB_high {k b : Int} (h : 3 < k) : editB k b = false := by unfold editB; rw [decide_eq_false (by omega : ¬ k ≤ 3)]; simp

theorem wfp0 (w : World) : (Instr.field 151 (.agg #[.int .i64 1, .bool false, fnV 111, fnV 112]) 1).run Try.prog w = .ok (.bool false) w := by
  simp [Instr.field, run_underlying Try.underlying151, go_sem, part, asAgg]
theorem wfp1 (w : World) : (Instr.field 151 (.agg #[.int .i64 1, .bool true, fnV 113, fnV 114]) 1).run Try.prog w = .ok (.bool true) w := by
  simp [Instr.field, run_underlying Try.underlying151, go_sem, part, asAgg]
theorem wfp2 (w : World) : (Instr.field 151 (.agg #[.int .i64 1, .bool false, fnV 115, fnV 116]) 1).run Try.prog w = .ok (.bool false) w := by
  simp [Instr.field, run_underlying Try.underlying151, go_sem, part, asAgg]
theorem wfp3 (w : World) : (Instr.field 151 (.agg #[.int .i64 0, .bool true, fnV 117, fnV 118]) 1).run Try.prog w = .ok (.bool true) w := by
  simp [Instr.field, run_underlying Try.underlying151, go_sem, part, asAgg]

theorem isEdit_low (k b : Int) (h : k < 0) (w : World) : Calls Try.prog 92 #[.agg #[.int .i64 k, .int .i64 b]] w fun e w' => e = .returned (.bool (editB k b)) ∧ Below w.heap.size w w' := by
  have HB := Lib.hid ((Below.refl w.heap.size w).alloc (Nat.le_refl _) (.cells #[.int .i64 k, .int .i64 b] 77))
  have HE := Lib.hid (editB_low (b := b) h)
  go_enter Try.func92, Try.ntmps92
  go_wp2
  go_ret
  exact ⟨ret_bool HE.out.symm, HB.out⟩
theorem isEdit_high (k b : Int) (h : 3 < k) (w : World) : Calls Try.prog 92 #[.agg #[.int .i64 k, .int .i64 b]] w fun e w' => e = .returned (.bool (editB k b)) ∧ Below w.heap.size w w' := by
  have HB := Lib.hid ((Below.refl w.heap.size w).alloc (Nat.le_refl _) (.cells #[.int .i64 k, .int .i64 b] 77))
  have HE := Lib.hid (editB_high (b := b) h)
  have h0 : ¬ k < 0 := by omega
  go_enter Try.func92, Try.ntmps92
  go_wp2
  go_ret
  exact ⟨ret_bool HE.out.symm, HB.out⟩

set_option maxHeartbeats 2000000 in
theorem isEdit0 (b : Int) (w : World) : Calls Try.prog 92 #[.agg #[.int .i64 0, .int .i64 b]] w fun e w' => e = .returned (.bool (editB 0 b)) ∧ Below w.heap.size w w' := by
  have hmx : Try.prog.follows .mixedOrders = true := by kernel_rfl
  have HE := Lib.hid (editB_even (k := 0) (b := b) (by omega))
  obtain ⟨W0, hW0⟩ : ∃ W0, w.alloc (.cells #[.int .i64 0, .int .i64 b] 77) = W0 := ⟨_, rfl⟩
  obtain ⟨H, hH⟩ : ∃ H, w.heap.size = H := ⟨_, rfl⟩
  have hB0 : Below H w W0 := by rw [← hW0, ← hH]; exact (Below.refl _ w).alloc (Nat.le_refl _) _
  have k0 : W0.cell? ⟨H, 0, none⟩ = some (.int .i64 0) := by rw [← hW0, ← hH]; simp
  have k1 : W0.cell? ⟨H, 1, none⟩ = some (.int .i64 b) := by rw [← hW0, ← hH]; simp
  rw [hH]
  have hx := wix0
  have hxp := wfp0
  go_enter Try.func92, Try.ntmps92
  go_wp2_with fail
  try rw [hW0]
  try rw [hH]
  clear hW0
  refine region_calm hmx (by kernel_rfl) ?_
  intro S hSn f hS1 hS2
  have l0 : ∀ s, (f s).cell? ⟨H, 0, none⟩ = some (.int .i64 0) := fun s => cell_later (hS1 s) k0
  have hA := Lib.hid (calm_call hS1 hS2 (fun s => words_any (f s)))
  repeat (go_big_quiet_step (exact hA.out _))
  refine wpQuiet_nil ?_
  rintro _ ⟨s, rfl⟩
  have hbs := Lib.hid (hB0.trans ((hS1 s).mono (by have := hB0.size; omega)))
  have k2 := cell_later (hS1 s) k1
  clear l0 hA hS2
  generalize f s = w2 at hbs k2
  clear hS1
  try dsimp only [Exit.then]
  go_wp2
  go_ret
  exact ⟨ret_bool (by rw [HE.out]; rfl), hbs.out⟩

set_option maxHeartbeats 2000000 in
theorem isEdit1 (b : Int) (w : World) : Calls Try.prog 92 #[.agg #[.int .i64 1, .int .i64 b]] w fun e w' => e = .returned (.bool (editB 1 b)) ∧ Below w.heap.size w w' := by
  have hmx : Try.prog.follows .mixedOrders = true := by kernel_rfl
  have HE := Lib.hid (editB_odd (k := 1) (b := b) (by omega))
  obtain ⟨W0, hW0⟩ : ∃ W0, w.alloc (.cells #[.int .i64 1, .int .i64 b] 77) = W0 := ⟨_, rfl⟩
  obtain ⟨H, hH⟩ : ∃ H, w.heap.size = H := ⟨_, rfl⟩
  have hB0 : Below H w W0 := by rw [← hW0, ← hH]; exact (Below.refl _ w).alloc (Nat.le_refl _) _
  have k0 : W0.cell? ⟨H, 0, none⟩ = some (.int .i64 1) := by rw [← hW0, ← hH]; simp
  have k1 : W0.cell? ⟨H, 1, none⟩ = some (.int .i64 b) := by rw [← hW0, ← hH]; simp
  rw [hH]
  have hx := wix1
  have hxp := wfp1
  go_enter Try.func92, Try.ntmps92
  go_wp2_with fail
  try rw [hW0]
  try rw [hH]
  clear hW0
  refine region_calm hmx (by kernel_rfl) ?_
  intro S hSn f hS1 hS2
  have l0 : ∀ s, (f s).cell? ⟨H, 0, none⟩ = some (.int .i64 1) := fun s => cell_later (hS1 s) k0
  have hA := Lib.hid (calm_call hS1 hS2 (fun s => words_any (f s)))
  repeat (go_big_quiet_step (exact hA.out _))
  refine wpQuiet_nil ?_
  rintro _ ⟨s, rfl⟩
  have hbs := Lib.hid (hB0.trans ((hS1 s).mono (by have := hB0.size; omega)))
  have k2 := cell_later (hS1 s) k1
  clear l0 hA hS2
  generalize f s = w2 at hbs k2
  clear hS1
  try dsimp only [Exit.then]
  by_cases h0 : 0 ≤ b
  · go_wp2
    go_ret
    exact ⟨ret_bool (by rw [HE.out, decide_eq_true h0, Bool.true_and]), hbs.out⟩
  · go_wp2
    go_ret
    exact ⟨ret_bool (by rw [HE.out, decide_eq_false (by omega : ¬ 0 ≤ b)]; rfl), hbs.out⟩

set_option maxHeartbeats 2000000 in
theorem isEdit2 (b : Int) (w : World) : Calls Try.prog 92 #[.agg #[.int .i64 2, .int .i64 b]] w fun e w' => e = .returned (.bool (editB 2 b)) ∧ Below w.heap.size w w' := by
  have hmx : Try.prog.follows .mixedOrders = true := by kernel_rfl
  have HE := Lib.hid (editB_even (k := 2) (b := b) (by omega))
  obtain ⟨W0, hW0⟩ : ∃ W0, w.alloc (.cells #[.int .i64 2, .int .i64 b] 77) = W0 := ⟨_, rfl⟩
  obtain ⟨H, hH⟩ : ∃ H, w.heap.size = H := ⟨_, rfl⟩
  have hB0 : Below H w W0 := by rw [← hW0, ← hH]; exact (Below.refl _ w).alloc (Nat.le_refl _) _
  have k0 : W0.cell? ⟨H, 0, none⟩ = some (.int .i64 2) := by rw [← hW0, ← hH]; simp
  have k1 : W0.cell? ⟨H, 1, none⟩ = some (.int .i64 b) := by rw [← hW0, ← hH]; simp
  rw [hH]
  have hx := wix2
  have hxp := wfp2
  go_enter Try.func92, Try.ntmps92
  go_wp2_with fail
  try rw [hW0]
  try rw [hH]
  clear hW0
  refine region_calm hmx (by kernel_rfl) ?_
  intro S hSn f hS1 hS2
  have l0 : ∀ s, (f s).cell? ⟨H, 0, none⟩ = some (.int .i64 2) := fun s => cell_later (hS1 s) k0
  have hA := Lib.hid (calm_call hS1 hS2 (fun s => words_any (f s)))
  repeat (go_big_quiet_step (exact hA.out _))
  refine wpQuiet_nil ?_
  rintro _ ⟨s, rfl⟩
  have hbs := Lib.hid (hB0.trans ((hS1 s).mono (by have := hB0.size; omega)))
  have k2 := cell_later (hS1 s) k1
  clear l0 hA hS2
  generalize f s = w2 at hbs k2
  clear hS1
  try dsimp only [Exit.then]
  go_wp2
  go_ret
  exact ⟨ret_bool (by rw [HE.out]; rfl), hbs.out⟩

set_option maxHeartbeats 2000000 in
theorem isEdit3 (b : Int) (w : World) : Calls Try.prog 92 #[.agg #[.int .i64 3, .int .i64 b]] w fun e w' => e = .returned (.bool (editB 3 b)) ∧ Below w.heap.size w w' := by
  have hmx : Try.prog.follows .mixedOrders = true := by kernel_rfl
  have HE := Lib.hid (editB_odd (k := 3) (b := b) (by omega))
  obtain ⟨W0, hW0⟩ : ∃ W0, w.alloc (.cells #[.int .i64 3, .int .i64 b] 77) = W0 := ⟨_, rfl⟩
  obtain ⟨H, hH⟩ : ∃ H, w.heap.size = H := ⟨_, rfl⟩
  have hB0 : Below H w W0 := by rw [← hW0, ← hH]; exact (Below.refl _ w).alloc (Nat.le_refl _) _
  have k0 : W0.cell? ⟨H, 0, none⟩ = some (.int .i64 3) := by rw [← hW0, ← hH]; simp
  have k1 : W0.cell? ⟨H, 1, none⟩ = some (.int .i64 b) := by rw [← hW0, ← hH]; simp
  rw [hH]
  have hx := wix3
  have hxp := wfp3
  go_enter Try.func92, Try.ntmps92
  go_wp2_with fail
  try rw [hW0]
  try rw [hH]
  clear hW0
  refine region_calm hmx (by kernel_rfl) ?_
  intro S hSn f hS1 hS2
  have l0 : ∀ s, (f s).cell? ⟨H, 0, none⟩ = some (.int .i64 3) := fun s => cell_later (hS1 s) k0
  have hA := Lib.hid (calm_call hS1 hS2 (fun s => words_any (f s)))
  repeat (go_big_quiet_step (exact hA.out _))
  refine wpQuiet_nil ?_
  rintro _ ⟨s, rfl⟩
  have hbs := Lib.hid (hB0.trans ((hS1 s).mono (by have := hB0.size; omega)))
  have k2 := cell_later (hS1 s) k1
  clear l0 hA hS2
  generalize f s = w2 at hbs k2
  clear hS1
  try dsimp only [Exit.then]
  by_cases h0 : 0 ≤ b
  · go_wp2
    go_ret
    exact ⟨ret_bool (by rw [HE.out, decide_eq_true h0, Bool.true_and]), hbs.out⟩
  · go_wp2
    go_ret
    exact ⟨ret_bool (by rw [HE.out, decide_eq_false (by omega : ¬ 0 ≤ b)]; rfl), hbs.out⟩

theorem isEdit_any (k b : Int) (w : World) : Calls Try.prog 92 #[.agg #[.int .i64 k, .int .i64 b]] w fun e w' => e = .returned (.bool (editB k b)) ∧ Below w.heap.size w w' := by
  by_cases h0 : k < 0
  · exact isEdit_low k b h0 w
  by_cases h3 : 3 < k
  · exact isEdit_high k b h3 w
  rcases (show k = 0 ∨ k = 1 ∨ k = 2 ∨ k = 3 by omega) with rfl | rfl | rfl | rfl
  · exact isEdit0 b w
  · exact isEdit1 b w
  · exact isEdit2 b w
  · exact isEdit3 b w

/-- A slice of edits that can be read. -/
def EdsV (W : World) (v : Value) (es : List (Int × Int)) : Prop :=
  ∃ (ao : Option Addr) (cap : Nat), v = .slice ao es.length cap ∧ es.length ≤ cap ∧ (0 < es.length → ∃ b off, ao = some ⟨b, off, none⟩ ∧ ∀ i, i < es.length → W.cell? ⟨b, off + i * 2, none⟩ = some (.int .i64 (es[i]?.getD (0, 0)).1) ∧ W.cell? ⟨b, off + i * 2 + 1, none⟩ = some (.int .i64 (es[i]?.getD (0, 0)).2))
theorem EdsV.later {W W' : World} {v : Value} {es : List (Int × Int)} (h : EdsV W v es) (hb : Below W.heap.size W W') : EdsV W' v es := by
  obtain ⟨ao, cap, rfl, hlc, hc⟩ := h
  refine ⟨ao, cap, rfl, hlc, fun h0 => ?_⟩
  obtain ⟨b, off, e, hd⟩ := hc h0
  exact ⟨b, off, e, fun i hi => ⟨cell_later hb (hd i hi).1, cell_later hb (hd i hi).2⟩⟩
def editP (e : Int × Int) : Bool := editB e.1 e.2

set_option maxHeartbeats 1000000 in
theorem all_edit (xs : List (Int × Int)) (hl : xs.length ≤ maxLen) (v : Value) (w : World) (hv : EdsV w v xs) :
    Calls Try.prog 91 #[.func (.func 92) #[] #[], v] w fun e w' => e = .returned (.bool (xs.all editP)) ∧ Below w.heap.size w w' := by
  obtain ⟨ao, cap, rfl, hlc, hd⟩ := hv
  have HF := Lib.hid (fun k b w => isEdit_any k b w)
  have HD := Lib.hid hd
  clear hd
  unfold maxLen at hl
  go_enter Try.func91, Try.ntmps91
  go_wp2
  go_loopw [6, 9] (fun _ i wr => ∃ k : Nat, k ≤ xs.length ∧ i = .int .i64 k ∧ (xs.take k).all editP = true ∧ Below w.heap.size w wr) (fun _ i _ => xs.length - (intOf i).toNat)
  case atStart => exact ⟨0, Nat.zero_le _, rfl, by simp, Below.refl _ _⟩
  case round =>
    obtain ⟨k, hk, rfl, ha, hB⟩ := hrel
    by_cases hlk : k < xs.length
    · obtain ⟨b, off, rfl, hdd⟩ := HD.out (by omega)
      have ck := (hdd k hlk).1
      have ck2 := (hdd k hlk).2
      have hge : xs[k]?.getD (0, 0) = xs[k] := by rw [List.getElem?_eq_getElem hlk]; rfl
      rw [hge] at ck ck2
      replace ck := cell_later hB ck
      replace ck2 := cell_later hB ck2
      have HT := Lib.hid (fun hp => all_take_true (p := editP) hlk hp ha)
      have HN := Lib.hid (fun hp => all_take_false (p := editP) hlk hp)
      clear hge hdd ha
      generalize xs[k] = x at ck ck2 HT HN
      obtain ⟨x1, x2⟩ := x
      have HBl := Lib.hid hB
      go_wp2_with fail
      refine (HF.out _ _ _).mono ?_
      rintro e w1 ⟨rfl, b1⟩
      have B1 := Lib.hid (below_nx (HBl.out.alloc HBl.out.size _) b1)
      clear b1 hB
      cases hp : editB x1 x2
      · have HP := Lib.hid (HN.out hp)
        clear HN HT hp
        go_wp2
        go_ret
        exact ⟨ret_bool HP.out.symm, B1.out⟩
      · have HP := Lib.hid (HT.out hp)
        clear HN HT hp
        go_wp2
        go_roundw
        case rel => exact ⟨k + 1, by omega, by go_num, HP.out, B1.out⟩
        case measure => simp only [intOf]; omega
    · have HE := Lib.hid (show xs.all editP = true by rwa [List.take_of_length_le (by omega)] at ha)
      have HBl := Lib.hid hB
      go_wp2
      go_ret
      exact ⟨ret_bool HE.out.symm, HBl.out⟩
end Go.Proofs.Ytkpmkeklopfhdaa
