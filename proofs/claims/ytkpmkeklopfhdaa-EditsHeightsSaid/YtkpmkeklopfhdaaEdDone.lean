/-
  An edit done at the front of a line.
-/
import Derived.Test.YtkpmkeklopfhdaaEdWords
import Derived.Test.YtkpmkeklopfhdaaHeldR
import Derived.Laws.BytesArg
namespace Go.Proofs.Ytkpmkeklopfhdaa
open Go.ChangeShapes Go.WideShapes Go.ChangeAt Go.RowKit
set_option maxRecDepth 100000

theorem bl_al {W0 W : World} (h : Below W0.heap.size W0 W) (o : Obj) : Below W0.heap.size W0 (W.alloc o) := h.alloc h.size o
theorem bl_dr {W0 W : World} (h : Below W0.heap.size W0 W) : Below W0.heap.size W0 W.drew := h.drew
theorem bl_set {W0 W : World} (h : Below W0.heap.size W0 W) {g i : Nat} (hg : W0.heap.size ≤ g) (v : Value) : Below W0.heap.size W0 (W.setCell ⟨g, i, none⟩ v) := h.setCell (p := ⟨g, i, none⟩) hg v

theorem alloc_cell1 (W : World) (v : Value) (t : TypeId) : ((W.alloc (.cells #[v] t)).drew).cell? ⟨W.heap.size, 0 + 0, none⟩ = some v := by
  show (W.alloc (.cells #[v] t)).cell? ⟨W.heap.size, 0, none⟩ = some v
  simp

/-- One byte as a string. -/
def oneS (b : Int) : ByteArray := strOfNums [IntKind.u8.wrap b]
abbrev noS : ByteArray := ⟨#[]⟩
theorem conv1 (b : Int) (W2 : World) : (convert 99 9 (.slice (some ⟨W2.heap.size, 0, none⟩) 1 1)).run Try.prog (W2.alloc (.cells #[.int .u8 (IntKind.u8.wrap b)] 5)).drew = .ok (.string (oneS b)) (W2.alloc (.cells #[.int .u8 (IntKind.u8.wrap b)] 5)).drew :=
  run_convert_bytes_arg _ 99 5 Try.underlying99 Try.underlying5 W2.heap.size 0 1 1 [IntKind.u8.wrap b] rfl (fun i hi => by
    obtain rfl : i = 0 := by omega
    exact alloc_cell1 W2 _ _) 9 Try.underlying9

/-- What an edit gives at the front of a line: what comes, what is left, whether it can be done. -/
def doneC (k : Nat) (b : Int) (s : ByteArray) : ByteArray × ByteArray × Bool :=
  if k = 3 then (oneS b, s, true)
  else if s.size = 0 then (noS, noS, false)
  else if k = 0 then (s.extract 0 1, s.extract 1 s.size, true)
  else if k = 1 then (oneS b, s.extract 1 s.size, !((oneS b).toList == (s.extract 0 1).toList))
  else (noS, s.extract 1 s.size, true)

set_option maxHeartbeats 4000000 in
theorem done0_bad (b : Int) (s : ByteArray) (hs : s.size = 0) (w : World) : Calls Try.prog 93 #[.agg #[.int .i64 0, .int .i64 b], .string s] w fun e w' => e = .returned (.tuple #[.string (doneC 0 b s).1, .string (doneC 0 b s).2.1, .bool (doneC 0 b s).2.2]) ∧ Below w.heap.size w w' := by
  have HX := Lib.hid (show doneC 0 b s = _ by unfold doneC; first | rw [if_pos (by rfl)] | rw [if_neg (by omega), if_pos hs] | rw [if_neg (by omega), if_neg hs, if_pos (by rfl)] | rw [if_neg (by omega), if_neg hs, if_neg (by omega), if_pos (by rfl)] | rw [if_neg (by omega), if_neg hs, if_neg (by omega), if_neg (by omega)])
  obtain ⟨W0, hW0⟩ : ∃ W0, w.alloc (.cells #[.int .i64 0, .int .i64 b] 77) = W0 := ⟨_, rfl⟩
  have hB0 : Below w.heap.size w W0 := by rw [← hW0]; exact (Below.refl _ w).alloc (Nat.le_refl _) _
  have k0 : W0.cell? ⟨w.heap.size, 0, none⟩ = some (.int .i64 0) := by rw [← hW0]; simp
  have k1 : W0.cell? ⟨w.heap.size, 1, none⟩ = some (.int .i64 b) := by rw [← hW0]; simp
  obtain ⟨H, hH⟩ : ∃ H, w.heap.size = H := ⟨_, rfl⟩
  have hH0 : H < W0.heap.size := by rw [← hW0, ← hH]; simp
  rw [hH] at k0 k1
  have hx := wix0
  have hmx : Try.prog.follows .mixedOrders = true := by kernel_rfl
  have HA := Lib.hid (fun W => words_any W)
  go_enter Try.func93, Try.ntmps93
  go_wp2_with fail
  try rw [hW0]
  try rw [hH]
  clear hW0
  have HK := Lib.hid (fun W (hb : Below W0.heap.size W0 W) => (⟨hb, cell_later hb k0, cell_later hb k1⟩ : Below W0.heap.size W0 W ∧ W.cell? ⟨H, 0, none⟩ = some (.int .i64 0) ∧ W.cell? ⟨H, 1, none⟩ = some (.int .i64 b)))
  clear k0 k1
  have rz : Row (W0.alloc (.cells #[.int .i64 0, .bool false, .nilFunc, .nilFunc] 151)).drew W0.heap.size 151 [.int .i64 0, .bool false, .nilFunc, .nilFunc] := (Row.new W0 _ _).drew
  have RZ := Lib.hid rz
  clear rz
  go_region_held3 (fun W => Below W0.heap.size W0 W ∧ W.cell? ⟨H, 0, none⟩ = some (.int .i64 0) ∧ W.cell? ⟨H, 1, none⟩ = some (.int .i64 b)) (first | assumption | (refine HK.out _ ?_; repeat (first | assumption | exact (Below.refl _ _).drew | exact Below.refl _ _ | refine bl_dr ?_ | refine bl_al ?_ _ | refine bl_set ?_ (Nat.le_refl _) _ | (refine below_nx ?_ (by assumption))))) (first | (go_at_call 96; refine (HA.out _).mono ?_; rintro e w1 ⟨rfl, b1⟩; (try (have rz1 := RZ.out.later b1; have z0 := rz1.cell 0; have z1 := rz1.cell 1; have z2 := rz1.cell 2; have z3 := rz1.cell 3; have y0 := rz1.frozen 0; have y1 := rz1.frozen 1; have y2 := rz1.frozen 2; have y3 := rz1.frozen 3; simp only [List.getElem?_cons_zero, List.getElem?_cons_succ] at z0 z1 z2 z3))))
  all_goals
    have hS := ‹Below W0.heap.size W0 _ ∧ _›
    first
      | (have R : Row (w1.alloc (.cells #[.int .i64 1, .bool false, fnV 111, fnV 112] 151)) w1.heap.size 151 [.int .i64 1, .bool false, fnV 111, fnV 112] := Row.new w1 _ _
         have hG : W0.heap.size ≤ w1.heap.size := b1.size
         clear b1
         generalize w1.alloc (.cells #[.int .i64 1, .bool false, fnV 111, fnV 112] 151) = W2 at hS R ⊢
         generalize w1.heap.size = G at R hG ⊢)
      | (have R := (((rz1.set 0 (.int .i64 1)).set 1 (.bool false)).set 2 (fnV 111)).set 3 (fnV 112)
         simp only [List.set_cons_zero, List.set_cons_succ] at R
         have hG : W0.heap.size ≤ W0.heap.size := Nat.le_refl _
         clear b1 rz1 z0 z1 z2 z3 y0 y1 y2 y3
         generalize (((w1.setCell ⟨W0.heap.size, 0, none⟩ (.int .i64 1)).setCell ⟨W0.heap.size, 1, none⟩ (.bool false)).setCell ⟨W0.heap.size, 2, none⟩ (fnV 111)).setCell ⟨W0.heap.size, 3, none⟩ (fnV 112) = W2 at hS R ⊢
         generalize hGe : W0.heap.size = G at R ⊢)
    dsimp only [Exit.then]
    obtain ⟨hb2, k0, k1⟩ := hS
    have g0 := R.cell 0
    have g3 := R.cell 3
    simp only [List.getElem?_cons_zero, List.getElem?_cons_succ] at g0 g3
    have hBd := hB0.trans (hb2.mono hB0.size)
    clear R hb2 HK RZ HA hx
    go_wp2
    go_ret3
    exact ⟨by rw [HX.out]; rfl, hBd⟩

set_option maxHeartbeats 4000000 in
theorem done0_ok (b : Int) (s : ByteArray) (hs : ¬ s.size = 0) (w : World) : Calls Try.prog 93 #[.agg #[.int .i64 0, .int .i64 b], .string s] w fun e w' => e = .returned (.tuple #[.string (doneC 0 b s).1, .string (doneC 0 b s).2.1, .bool (doneC 0 b s).2.2]) ∧ Below w.heap.size w w' := by
  have HX := Lib.hid (show doneC 0 b s = _ by unfold doneC; first | rw [if_pos (by rfl)] | rw [if_neg (by omega), if_pos hs] | rw [if_neg (by omega), if_neg hs, if_pos (by rfl)] | rw [if_neg (by omega), if_neg hs, if_neg (by omega), if_pos (by rfl)] | rw [if_neg (by omega), if_neg hs, if_neg (by omega), if_neg (by omega)])
  obtain ⟨W0, hW0⟩ : ∃ W0, w.alloc (.cells #[.int .i64 0, .int .i64 b] 77) = W0 := ⟨_, rfl⟩
  have hB0 : Below w.heap.size w W0 := by rw [← hW0]; exact (Below.refl _ w).alloc (Nat.le_refl _) _
  have k0 : W0.cell? ⟨w.heap.size, 0, none⟩ = some (.int .i64 0) := by rw [← hW0]; simp
  have k1 : W0.cell? ⟨w.heap.size, 1, none⟩ = some (.int .i64 b) := by rw [← hW0]; simp
  obtain ⟨H, hH⟩ : ∃ H, w.heap.size = H := ⟨_, rfl⟩
  have hH0 : H < W0.heap.size := by rw [← hW0, ← hH]; simp
  rw [hH] at k0 k1
  have hx := wix0
  have hmx : Try.prog.follows .mixedOrders = true := by kernel_rfl
  have HA := Lib.hid (fun W => words_any W)
  go_enter Try.func93, Try.ntmps93
  go_wp2_with fail
  try rw [hW0]
  try rw [hH]
  clear hW0
  have HK := Lib.hid (fun W (hb : Below W0.heap.size W0 W) => (⟨hb, cell_later hb k0, cell_later hb k1⟩ : Below W0.heap.size W0 W ∧ W.cell? ⟨H, 0, none⟩ = some (.int .i64 0) ∧ W.cell? ⟨H, 1, none⟩ = some (.int .i64 b)))
  clear k0 k1
  have rz : Row (W0.alloc (.cells #[.int .i64 0, .bool false, .nilFunc, .nilFunc] 151)).drew W0.heap.size 151 [.int .i64 0, .bool false, .nilFunc, .nilFunc] := (Row.new W0 _ _).drew
  have RZ := Lib.hid rz
  clear rz
  go_region_held3 (fun W => Below W0.heap.size W0 W ∧ W.cell? ⟨H, 0, none⟩ = some (.int .i64 0) ∧ W.cell? ⟨H, 1, none⟩ = some (.int .i64 b)) (first | assumption | (refine HK.out _ ?_; repeat (first | assumption | exact (Below.refl _ _).drew | exact Below.refl _ _ | refine bl_dr ?_ | refine bl_al ?_ _ | refine bl_set ?_ (Nat.le_refl _) _ | (refine below_nx ?_ (by assumption))))) (first | (go_at_call 96; refine (HA.out _).mono ?_; rintro e w1 ⟨rfl, b1⟩; (try (have rz1 := RZ.out.later b1; have z0 := rz1.cell 0; have z1 := rz1.cell 1; have z2 := rz1.cell 2; have z3 := rz1.cell 3; have y0 := rz1.frozen 0; have y1 := rz1.frozen 1; have y2 := rz1.frozen 2; have y3 := rz1.frozen 3; simp only [List.getElem?_cons_zero, List.getElem?_cons_succ] at z0 z1 z2 z3))))
  all_goals
    have hS := ‹Below W0.heap.size W0 _ ∧ _›
    first
      | (have R : Row (w1.alloc (.cells #[.int .i64 1, .bool false, fnV 111, fnV 112] 151)) w1.heap.size 151 [.int .i64 1, .bool false, fnV 111, fnV 112] := Row.new w1 _ _
         have hG : W0.heap.size ≤ w1.heap.size := b1.size
         clear b1
         generalize w1.alloc (.cells #[.int .i64 1, .bool false, fnV 111, fnV 112] 151) = W2 at hS R ⊢
         generalize w1.heap.size = G at R hG ⊢)
      | (have R := (((rz1.set 0 (.int .i64 1)).set 1 (.bool false)).set 2 (fnV 111)).set 3 (fnV 112)
         simp only [List.set_cons_zero, List.set_cons_succ] at R
         have hG : W0.heap.size ≤ W0.heap.size := Nat.le_refl _
         clear b1 rz1 z0 z1 z2 z3 y0 y1 y2 y3
         generalize (((w1.setCell ⟨W0.heap.size, 0, none⟩ (.int .i64 1)).setCell ⟨W0.heap.size, 1, none⟩ (.bool false)).setCell ⟨W0.heap.size, 2, none⟩ (fnV 111)).setCell ⟨W0.heap.size, 3, none⟩ (fnV 112) = W2 at hS R ⊢
         generalize hGe : W0.heap.size = G at R ⊢)
    dsimp only [Exit.then]
    obtain ⟨hb2, k0, k1⟩ := hS
    have g0 := R.cell 0
    have g3 := R.cell 3
    simp only [List.getElem?_cons_zero, List.getElem?_cons_succ] at g0 g3
    have hBd := hB0.trans (hb2.mono hB0.size)
    clear R hb2 HK RZ HA hx
    have hs1 : (1 : Int) ≤ s.size := by omega
    have hs2 : ¬ ((s.size : Int) < 1) := by omega
    have HBd := Lib.hid hBd
    have HK2 := Lib.hid (fun W (hb : Below W2.heap.size W2 W) => (⟨hb, cell_later hb k1, cell_later hb g0, cell_later hb g3⟩ : Below W2.heap.size W2 W ∧ W.cell? ⟨H, 1, none⟩ = some (.int .i64 b) ∧ W.cell? ⟨G, 0, none⟩ = some (.int .i64 1) ∧ W.cell? ⟨G, 3, none⟩ = some (fnV 112)))
    have hcv := conv1 b W2
    clear hBd k0
    go_wp2_with fail
    clear k1 g0 g3
    refine wp_region_held_drew (S := fun W => Below W2.heap.size W2 W ∧ W.cell? ⟨H, 1, none⟩ = some (.int .i64 b) ∧ W.cell? ⟨G, 0, none⟩ = some (.int .i64 1) ∧ W.cell? ⟨G, 3, none⟩ = some (fnV 112)) hmx (HK2.out _ (Below.refl _ W2).drew) (fun hS => ?_)
    refine take_held (i := 0) (v := .pointer (some ⟨G, 3, none⟩)) rfl (by kernel_rfl) (by kernel_rfl) (by kernel_rfl) (fun _ _ _ h => h) (by rfl) (by rintro W4 ⟨q0, q1, q2, q3⟩; go_simp) hS ?_
    refine take_held (i := 1) (v := fnV 112) rfl (by kernel_rfl) (by kernel_rfl) (by kernel_rfl) (fun _ _ _ h => h) (by rfl) (by rintro W4 ⟨q0, q1, q2, q3⟩; go_simp) hS ?_
    refine take_held (i := 2) (v := .string s) rfl (by kernel_rfl) (by kernel_rfl) (by kernel_rfl) (fun _ _ _ h => h) (by rfl) (by rintro W4 ⟨q0, q1, q2, q3⟩; go_simp) hS ?_
    refine take_held (i := 3) (v := .pointer (some ⟨G, 0, none⟩)) rfl (by kernel_rfl) (by kernel_rfl) (by kernel_rfl) (fun _ _ _ h => h) (by rfl) (by rintro W4 ⟨q0, q1, q2, q3⟩; go_simp) hS ?_
    refine take_held (i := 4) (v := .int .i64 1) rfl (by kernel_rfl) (by kernel_rfl) (by kernel_rfl) (fun _ _ _ h => h) (by rfl) (by rintro W4 ⟨q0, q1, q2, q3⟩; go_simp) hS ?_
    refine take_held (i := 5) (v := .string (s.extract 0 1)) rfl (by kernel_rfl) (by kernel_rfl) (by kernel_rfl) (fun _ _ _ h => h) (by rfl) (by rintro W4 ⟨q0, q1, q2, q3⟩; go_simp) hS ?_
    refine take_held (i := 6) (v := .pointer (some ⟨H, 1, none⟩)) rfl (by kernel_rfl) (by kernel_rfl) (by kernel_rfl) (fun _ _ _ h => h) (by rfl) (by rintro W4 ⟨q0, q1, q2, q3⟩; go_simp) hS ?_
    refine take_held (i := 7) (v := .int .i64 b) rfl (by kernel_rfl) (by kernel_rfl) (by kernel_rfl) (fun _ _ _ h => h) (by rfl) (by rintro W4 ⟨q0, q1, q2, q3⟩; go_simp) hS ?_
    refine take_held (i := 8) (v := .int .u8 (IntKind.u8.wrap b)) rfl (by kernel_rfl) (by kernel_rfl) (by kernel_rfl) (fun _ _ _ h => h) (by rfl) (by rintro W4 ⟨q0, q1, q2, q3⟩; go_simp) hS ?_
    refine step_held (i := 9) rfl (by kernel_rfl) (by rfl) (fun K' hK' => ?_)
    go_simp
    refine hK'.out _ _ (HK2.out _ (bl_al (Below.refl _ W2) _).drew) (fun hS => ?_)
    clear hK' K'
    refine step_held (i := 10) rfl (by kernel_rfl) (by rfl) (fun K' hK' => ?_)
    go_simp
    refine hK'.out _ _ hS (fun _ => ?_)
    clear hK' K'
    refine step_held (i := 11) rfl (by kernel_rfl) (by rfl) (fun K' hK' => ?_)
    go_simp
    refine (w2_any _ _ _).mono ?_
    rintro e w3 ⟨rfl, rfl⟩
    refine hK'.out _ _ hS (fun _ => ?_)
    clear hK' K'
    refine take_held (i := 12) (v := .tuple #[.string (s.extract 0 1), .bool (true)]) rfl (by kernel_rfl) (by kernel_rfl) (by kernel_rfl) (fun _ _ _ h => h) (by rfl) (by rintro W4 ⟨q0, q1, q2, q3⟩; go_simp) hS ?_
    refine take_held (i := 13) (v := .string (s.extract 0 1)) rfl (by kernel_rfl) (by kernel_rfl) (by kernel_rfl) (fun _ _ _ h => h) (by rfl) (by rintro W4 ⟨q0, q1, q2, q3⟩; go_simp) hS ?_
    refine take_held (i := 14) (v := .bool (true)) rfl (by kernel_rfl) (by kernel_rfl) (by kernel_rfl) (fun _ _ _ h => h) (by rfl) (by rintro W4 ⟨q0, q1, q2, q3⟩; go_simp) hS ?_
    refine step_held (i := 15) rfl (by kernel_rfl) (by rfl) (fun K' hK' => ?_)
    go_simp
    refine hK'.out _ _ hS (fun _ => ?_)
    clear hK' K'
    refine step_held (i := 16) rfl (by kernel_rfl) (by rfl) (fun K' hK' => ?_)
    go_simp
    refine hK'.out _ _ hS (fun _ => ?_)
    clear hK' K'
    refine wpAnyH_done (by kernel_rfl) ?_ _
    have hS3 := hS
    obtain ⟨hb3, k3, g4, g5⟩ := hS3
    have hB3 := below_nx HBd.out hb3
    clear hb3 HK2 hcv HBd hS
    generalize (W2.alloc (.cells #[.int .u8 (IntKind.u8.wrap b)] 5)).drew = W3 at *
    have HB3 := Lib.hid hB3
    clear hB3
    dsimp only [Exit.then]
    go_wp2_with fail
    go_quiet (fail)
    go_wp2
    go_ret3
    exact ⟨by rw [HX.out]; rfl, below_drewN HB3.out _⟩

set_option maxHeartbeats 4000000 in
theorem done1_bad (b : Int) (s : ByteArray) (hs : s.size = 0) (w : World) : Calls Try.prog 93 #[.agg #[.int .i64 1, .int .i64 b], .string s] w fun e w' => e = .returned (.tuple #[.string (doneC 1 b s).1, .string (doneC 1 b s).2.1, .bool (doneC 1 b s).2.2]) ∧ Below w.heap.size w w' := by
  have HX := Lib.hid (show doneC 1 b s = _ by unfold doneC; first | rw [if_pos (by rfl)] | rw [if_neg (by omega), if_pos hs] | rw [if_neg (by omega), if_neg hs, if_pos (by rfl)] | rw [if_neg (by omega), if_neg hs, if_neg (by omega), if_pos (by rfl)] | rw [if_neg (by omega), if_neg hs, if_neg (by omega), if_neg (by omega)])
  obtain ⟨W0, hW0⟩ : ∃ W0, w.alloc (.cells #[.int .i64 1, .int .i64 b] 77) = W0 := ⟨_, rfl⟩
  have hB0 : Below w.heap.size w W0 := by rw [← hW0]; exact (Below.refl _ w).alloc (Nat.le_refl _) _
  have k0 : W0.cell? ⟨w.heap.size, 0, none⟩ = some (.int .i64 1) := by rw [← hW0]; simp
  have k1 : W0.cell? ⟨w.heap.size, 1, none⟩ = some (.int .i64 b) := by rw [← hW0]; simp
  obtain ⟨H, hH⟩ : ∃ H, w.heap.size = H := ⟨_, rfl⟩
  have hH0 : H < W0.heap.size := by rw [← hW0, ← hH]; simp
  rw [hH] at k0 k1
  have hx := wix1
  have hmx : Try.prog.follows .mixedOrders = true := by kernel_rfl
  have HA := Lib.hid (fun W => words_any W)
  go_enter Try.func93, Try.ntmps93
  go_wp2_with fail
  try rw [hW0]
  try rw [hH]
  clear hW0
  have HK := Lib.hid (fun W (hb : Below W0.heap.size W0 W) => (⟨hb, cell_later hb k0, cell_later hb k1⟩ : Below W0.heap.size W0 W ∧ W.cell? ⟨H, 0, none⟩ = some (.int .i64 1) ∧ W.cell? ⟨H, 1, none⟩ = some (.int .i64 b)))
  clear k0 k1
  have rz : Row (W0.alloc (.cells #[.int .i64 0, .bool false, .nilFunc, .nilFunc] 151)).drew W0.heap.size 151 [.int .i64 0, .bool false, .nilFunc, .nilFunc] := (Row.new W0 _ _).drew
  have RZ := Lib.hid rz
  clear rz
  go_region_held3 (fun W => Below W0.heap.size W0 W ∧ W.cell? ⟨H, 0, none⟩ = some (.int .i64 1) ∧ W.cell? ⟨H, 1, none⟩ = some (.int .i64 b)) (first | assumption | (refine HK.out _ ?_; repeat (first | assumption | exact (Below.refl _ _).drew | exact Below.refl _ _ | refine bl_dr ?_ | refine bl_al ?_ _ | refine bl_set ?_ (Nat.le_refl _) _ | (refine below_nx ?_ (by assumption))))) (first | (go_at_call 96; refine (HA.out _).mono ?_; rintro e w1 ⟨rfl, b1⟩; (try (have rz1 := RZ.out.later b1; have z0 := rz1.cell 0; have z1 := rz1.cell 1; have z2 := rz1.cell 2; have z3 := rz1.cell 3; have y0 := rz1.frozen 0; have y1 := rz1.frozen 1; have y2 := rz1.frozen 2; have y3 := rz1.frozen 3; simp only [List.getElem?_cons_zero, List.getElem?_cons_succ] at z0 z1 z2 z3))))
  all_goals
    have hS := ‹Below W0.heap.size W0 _ ∧ _›
    first
      | (have R : Row (w1.alloc (.cells #[.int .i64 1, .bool true, fnV 113, fnV 114] 151)) w1.heap.size 151 [.int .i64 1, .bool true, fnV 113, fnV 114] := Row.new w1 _ _
         have hG : W0.heap.size ≤ w1.heap.size := b1.size
         clear b1
         generalize w1.alloc (.cells #[.int .i64 1, .bool true, fnV 113, fnV 114] 151) = W2 at hS R ⊢
         generalize w1.heap.size = G at R hG ⊢)
      | (have R := (((rz1.set 0 (.int .i64 1)).set 1 (.bool true)).set 2 (fnV 113)).set 3 (fnV 114)
         simp only [List.set_cons_zero, List.set_cons_succ] at R
         have hG : W0.heap.size ≤ W0.heap.size := Nat.le_refl _
         clear b1 rz1 z0 z1 z2 z3 y0 y1 y2 y3
         generalize (((w1.setCell ⟨W0.heap.size, 0, none⟩ (.int .i64 1)).setCell ⟨W0.heap.size, 1, none⟩ (.bool true)).setCell ⟨W0.heap.size, 2, none⟩ (fnV 113)).setCell ⟨W0.heap.size, 3, none⟩ (fnV 114) = W2 at hS R ⊢
         generalize hGe : W0.heap.size = G at R ⊢)
    dsimp only [Exit.then]
    obtain ⟨hb2, k0, k1⟩ := hS
    have g0 := R.cell 0
    have g3 := R.cell 3
    simp only [List.getElem?_cons_zero, List.getElem?_cons_succ] at g0 g3
    have hBd := hB0.trans (hb2.mono hB0.size)
    clear R hb2 HK RZ HA hx
    go_wp2
    go_ret3
    exact ⟨by rw [HX.out]; rfl, hBd⟩

set_option maxHeartbeats 4000000 in
theorem done1_ok (b : Int) (s : ByteArray) (hs : ¬ s.size = 0) (w : World) : Calls Try.prog 93 #[.agg #[.int .i64 1, .int .i64 b], .string s] w fun e w' => e = .returned (.tuple #[.string (doneC 1 b s).1, .string (doneC 1 b s).2.1, .bool (doneC 1 b s).2.2]) ∧ Below w.heap.size w w' := by
  have HX := Lib.hid (show doneC 1 b s = _ by unfold doneC; first | rw [if_pos (by rfl)] | rw [if_neg (by omega), if_pos hs] | rw [if_neg (by omega), if_neg hs, if_pos (by rfl)] | rw [if_neg (by omega), if_neg hs, if_neg (by omega), if_pos (by rfl)] | rw [if_neg (by omega), if_neg hs, if_neg (by omega), if_neg (by omega)])
  obtain ⟨W0, hW0⟩ : ∃ W0, w.alloc (.cells #[.int .i64 1, .int .i64 b] 77) = W0 := ⟨_, rfl⟩
  have hB0 : Below w.heap.size w W0 := by rw [← hW0]; exact (Below.refl _ w).alloc (Nat.le_refl _) _
  have k0 : W0.cell? ⟨w.heap.size, 0, none⟩ = some (.int .i64 1) := by rw [← hW0]; simp
  have k1 : W0.cell? ⟨w.heap.size, 1, none⟩ = some (.int .i64 b) := by rw [← hW0]; simp
  obtain ⟨H, hH⟩ : ∃ H, w.heap.size = H := ⟨_, rfl⟩
  have hH0 : H < W0.heap.size := by rw [← hW0, ← hH]; simp
  rw [hH] at k0 k1
  have hx := wix1
  have hmx : Try.prog.follows .mixedOrders = true := by kernel_rfl
  have HA := Lib.hid (fun W => words_any W)
  go_enter Try.func93, Try.ntmps93
  go_wp2_with fail
  try rw [hW0]
  try rw [hH]
  clear hW0
  have HK := Lib.hid (fun W (hb : Below W0.heap.size W0 W) => (⟨hb, cell_later hb k0, cell_later hb k1⟩ : Below W0.heap.size W0 W ∧ W.cell? ⟨H, 0, none⟩ = some (.int .i64 1) ∧ W.cell? ⟨H, 1, none⟩ = some (.int .i64 b)))
  clear k0 k1
  have rz : Row (W0.alloc (.cells #[.int .i64 0, .bool false, .nilFunc, .nilFunc] 151)).drew W0.heap.size 151 [.int .i64 0, .bool false, .nilFunc, .nilFunc] := (Row.new W0 _ _).drew
  have RZ := Lib.hid rz
  clear rz
  go_region_held3 (fun W => Below W0.heap.size W0 W ∧ W.cell? ⟨H, 0, none⟩ = some (.int .i64 1) ∧ W.cell? ⟨H, 1, none⟩ = some (.int .i64 b)) (first | assumption | (refine HK.out _ ?_; repeat (first | assumption | exact (Below.refl _ _).drew | exact Below.refl _ _ | refine bl_dr ?_ | refine bl_al ?_ _ | refine bl_set ?_ (Nat.le_refl _) _ | (refine below_nx ?_ (by assumption))))) (first | (go_at_call 96; refine (HA.out _).mono ?_; rintro e w1 ⟨rfl, b1⟩; (try (have rz1 := RZ.out.later b1; have z0 := rz1.cell 0; have z1 := rz1.cell 1; have z2 := rz1.cell 2; have z3 := rz1.cell 3; have y0 := rz1.frozen 0; have y1 := rz1.frozen 1; have y2 := rz1.frozen 2; have y3 := rz1.frozen 3; simp only [List.getElem?_cons_zero, List.getElem?_cons_succ] at z0 z1 z2 z3))))
  all_goals
    have hS := ‹Below W0.heap.size W0 _ ∧ _›
    first
      | (have R : Row (w1.alloc (.cells #[.int .i64 1, .bool true, fnV 113, fnV 114] 151)) w1.heap.size 151 [.int .i64 1, .bool true, fnV 113, fnV 114] := Row.new w1 _ _
         have hG : W0.heap.size ≤ w1.heap.size := b1.size
         clear b1
         generalize w1.alloc (.cells #[.int .i64 1, .bool true, fnV 113, fnV 114] 151) = W2 at hS R ⊢
         generalize w1.heap.size = G at R hG ⊢)
      | (have R := (((rz1.set 0 (.int .i64 1)).set 1 (.bool true)).set 2 (fnV 113)).set 3 (fnV 114)
         simp only [List.set_cons_zero, List.set_cons_succ] at R
         have hG : W0.heap.size ≤ W0.heap.size := Nat.le_refl _
         clear b1 rz1 z0 z1 z2 z3 y0 y1 y2 y3
         generalize (((w1.setCell ⟨W0.heap.size, 0, none⟩ (.int .i64 1)).setCell ⟨W0.heap.size, 1, none⟩ (.bool true)).setCell ⟨W0.heap.size, 2, none⟩ (fnV 113)).setCell ⟨W0.heap.size, 3, none⟩ (fnV 114) = W2 at hS R ⊢
         generalize hGe : W0.heap.size = G at R ⊢)
    dsimp only [Exit.then]
    obtain ⟨hb2, k0, k1⟩ := hS
    have g0 := R.cell 0
    have g3 := R.cell 3
    simp only [List.getElem?_cons_zero, List.getElem?_cons_succ] at g0 g3
    have hBd := hB0.trans (hb2.mono hB0.size)
    clear R hb2 HK RZ HA hx
    have hs1 : (1 : Int) ≤ s.size := by omega
    have hs2 : ¬ ((s.size : Int) < 1) := by omega
    have HBd := Lib.hid hBd
    have HK2 := Lib.hid (fun W (hb : Below W2.heap.size W2 W) => (⟨hb, cell_later hb k1, cell_later hb g0, cell_later hb g3⟩ : Below W2.heap.size W2 W ∧ W.cell? ⟨H, 1, none⟩ = some (.int .i64 b) ∧ W.cell? ⟨G, 0, none⟩ = some (.int .i64 1) ∧ W.cell? ⟨G, 3, none⟩ = some (fnV 114)))
    have hcv := conv1 b W2
    clear hBd k0
    go_wp2_with fail
    clear k1 g0 g3
    refine wp_region_held_drew (S := fun W => Below W2.heap.size W2 W ∧ W.cell? ⟨H, 1, none⟩ = some (.int .i64 b) ∧ W.cell? ⟨G, 0, none⟩ = some (.int .i64 1) ∧ W.cell? ⟨G, 3, none⟩ = some (fnV 114)) hmx (HK2.out _ (Below.refl _ W2).drew) (fun hS => ?_)
    refine take_held (i := 0) (v := .pointer (some ⟨G, 3, none⟩)) rfl (by kernel_rfl) (by kernel_rfl) (by kernel_rfl) (fun _ _ _ h => h) (by rfl) (by rintro W4 ⟨q0, q1, q2, q3⟩; go_simp) hS ?_
    refine take_held (i := 1) (v := fnV 114) rfl (by kernel_rfl) (by kernel_rfl) (by kernel_rfl) (fun _ _ _ h => h) (by rfl) (by rintro W4 ⟨q0, q1, q2, q3⟩; go_simp) hS ?_
    refine take_held (i := 2) (v := .string s) rfl (by kernel_rfl) (by kernel_rfl) (by kernel_rfl) (fun _ _ _ h => h) (by rfl) (by rintro W4 ⟨q0, q1, q2, q3⟩; go_simp) hS ?_
    refine take_held (i := 3) (v := .pointer (some ⟨G, 0, none⟩)) rfl (by kernel_rfl) (by kernel_rfl) (by kernel_rfl) (fun _ _ _ h => h) (by rfl) (by rintro W4 ⟨q0, q1, q2, q3⟩; go_simp) hS ?_
    refine take_held (i := 4) (v := .int .i64 1) rfl (by kernel_rfl) (by kernel_rfl) (by kernel_rfl) (fun _ _ _ h => h) (by rfl) (by rintro W4 ⟨q0, q1, q2, q3⟩; go_simp) hS ?_
    refine take_held (i := 5) (v := .string (s.extract 0 1)) rfl (by kernel_rfl) (by kernel_rfl) (by kernel_rfl) (fun _ _ _ h => h) (by rfl) (by rintro W4 ⟨q0, q1, q2, q3⟩; go_simp) hS ?_
    refine take_held (i := 6) (v := .pointer (some ⟨H, 1, none⟩)) rfl (by kernel_rfl) (by kernel_rfl) (by kernel_rfl) (fun _ _ _ h => h) (by rfl) (by rintro W4 ⟨q0, q1, q2, q3⟩; go_simp) hS ?_
    refine take_held (i := 7) (v := .int .i64 b) rfl (by kernel_rfl) (by kernel_rfl) (by kernel_rfl) (fun _ _ _ h => h) (by rfl) (by rintro W4 ⟨q0, q1, q2, q3⟩; go_simp) hS ?_
    refine take_held (i := 8) (v := .int .u8 (IntKind.u8.wrap b)) rfl (by kernel_rfl) (by kernel_rfl) (by kernel_rfl) (fun _ _ _ h => h) (by rfl) (by rintro W4 ⟨q0, q1, q2, q3⟩; go_simp) hS ?_
    refine step_held (i := 9) rfl (by kernel_rfl) (by rfl) (fun K' hK' => ?_)
    go_simp
    refine hK'.out _ _ (HK2.out _ (bl_al (Below.refl _ W2) _).drew) (fun hS => ?_)
    clear hK' K'
    refine step_held (i := 10) rfl (by kernel_rfl) (by rfl) (fun K' hK' => ?_)
    go_simp
    refine hK'.out _ _ hS (fun _ => ?_)
    clear hK' K'
    refine step_held (i := 11) rfl (by kernel_rfl) (by rfl) (fun K' hK' => ?_)
    go_simp
    refine (w4_any _ _ _).mono ?_
    rintro e w3 ⟨rfl, rfl⟩
    refine hK'.out _ _ hS (fun _ => ?_)
    clear hK' K'
    refine take_held (i := 12) (v := .tuple #[.string (oneS b), .bool (!((oneS b).toList == (s.extract 0 1).toList))]) rfl (by kernel_rfl) (by kernel_rfl) (by kernel_rfl) (fun _ _ _ h => h) (by rfl) (by rintro W4 ⟨q0, q1, q2, q3⟩; go_simp) hS ?_
    refine take_held (i := 13) (v := .string (oneS b)) rfl (by kernel_rfl) (by kernel_rfl) (by kernel_rfl) (fun _ _ _ h => h) (by rfl) (by rintro W4 ⟨q0, q1, q2, q3⟩; go_simp) hS ?_
    refine take_held (i := 14) (v := .bool (!((oneS b).toList == (s.extract 0 1).toList))) rfl (by kernel_rfl) (by kernel_rfl) (by kernel_rfl) (fun _ _ _ h => h) (by rfl) (by rintro W4 ⟨q0, q1, q2, q3⟩; go_simp) hS ?_
    refine step_held (i := 15) rfl (by kernel_rfl) (by rfl) (fun K' hK' => ?_)
    go_simp
    refine hK'.out _ _ hS (fun _ => ?_)
    clear hK' K'
    refine step_held (i := 16) rfl (by kernel_rfl) (by rfl) (fun K' hK' => ?_)
    go_simp
    refine hK'.out _ _ hS (fun _ => ?_)
    clear hK' K'
    refine wpAnyH_done (by kernel_rfl) ?_ _
    have hS3 := hS
    obtain ⟨hb3, k3, g4, g5⟩ := hS3
    have hB3 := below_nx HBd.out hb3
    clear hb3 HK2 hcv HBd hS
    generalize (W2.alloc (.cells #[.int .u8 (IntKind.u8.wrap b)] 5)).drew = W3 at *
    have HB3 := Lib.hid hB3
    clear hB3
    dsimp only [Exit.then]
    go_wp2_with fail
    go_quiet (fail)
    go_wp2
    go_ret3
    exact ⟨by rw [HX.out]; rfl, below_drewN HB3.out _⟩

set_option maxHeartbeats 4000000 in
theorem done2_bad (b : Int) (s : ByteArray) (hs : s.size = 0) (w : World) : Calls Try.prog 93 #[.agg #[.int .i64 2, .int .i64 b], .string s] w fun e w' => e = .returned (.tuple #[.string (doneC 2 b s).1, .string (doneC 2 b s).2.1, .bool (doneC 2 b s).2.2]) ∧ Below w.heap.size w w' := by
  have HX := Lib.hid (show doneC 2 b s = _ by unfold doneC; first | rw [if_pos (by rfl)] | rw [if_neg (by omega), if_pos hs] | rw [if_neg (by omega), if_neg hs, if_pos (by rfl)] | rw [if_neg (by omega), if_neg hs, if_neg (by omega), if_pos (by rfl)] | rw [if_neg (by omega), if_neg hs, if_neg (by omega), if_neg (by omega)])
  obtain ⟨W0, hW0⟩ : ∃ W0, w.alloc (.cells #[.int .i64 2, .int .i64 b] 77) = W0 := ⟨_, rfl⟩
  have hB0 : Below w.heap.size w W0 := by rw [← hW0]; exact (Below.refl _ w).alloc (Nat.le_refl _) _
  have k0 : W0.cell? ⟨w.heap.size, 0, none⟩ = some (.int .i64 2) := by rw [← hW0]; simp
  have k1 : W0.cell? ⟨w.heap.size, 1, none⟩ = some (.int .i64 b) := by rw [← hW0]; simp
  obtain ⟨H, hH⟩ : ∃ H, w.heap.size = H := ⟨_, rfl⟩
  have hH0 : H < W0.heap.size := by rw [← hW0, ← hH]; simp
  rw [hH] at k0 k1
  have hx := wix2
  have hmx : Try.prog.follows .mixedOrders = true := by kernel_rfl
  have HA := Lib.hid (fun W => words_any W)
  go_enter Try.func93, Try.ntmps93
  go_wp2_with fail
  try rw [hW0]
  try rw [hH]
  clear hW0
  have HK := Lib.hid (fun W (hb : Below W0.heap.size W0 W) => (⟨hb, cell_later hb k0, cell_later hb k1⟩ : Below W0.heap.size W0 W ∧ W.cell? ⟨H, 0, none⟩ = some (.int .i64 2) ∧ W.cell? ⟨H, 1, none⟩ = some (.int .i64 b)))
  clear k0 k1
  have rz : Row (W0.alloc (.cells #[.int .i64 0, .bool false, .nilFunc, .nilFunc] 151)).drew W0.heap.size 151 [.int .i64 0, .bool false, .nilFunc, .nilFunc] := (Row.new W0 _ _).drew
  have RZ := Lib.hid rz
  clear rz
  go_region_held3 (fun W => Below W0.heap.size W0 W ∧ W.cell? ⟨H, 0, none⟩ = some (.int .i64 2) ∧ W.cell? ⟨H, 1, none⟩ = some (.int .i64 b)) (first | assumption | (refine HK.out _ ?_; repeat (first | assumption | exact (Below.refl _ _).drew | exact Below.refl _ _ | refine bl_dr ?_ | refine bl_al ?_ _ | refine bl_set ?_ (Nat.le_refl _) _ | (refine below_nx ?_ (by assumption))))) (first | (go_at_call 96; refine (HA.out _).mono ?_; rintro e w1 ⟨rfl, b1⟩; (try (have rz1 := RZ.out.later b1; have z0 := rz1.cell 0; have z1 := rz1.cell 1; have z2 := rz1.cell 2; have z3 := rz1.cell 3; have y0 := rz1.frozen 0; have y1 := rz1.frozen 1; have y2 := rz1.frozen 2; have y3 := rz1.frozen 3; simp only [List.getElem?_cons_zero, List.getElem?_cons_succ] at z0 z1 z2 z3))))
  all_goals
    have hS := ‹Below W0.heap.size W0 _ ∧ _›
    first
      | (have R : Row (w1.alloc (.cells #[.int .i64 1, .bool false, fnV 115, fnV 116] 151)) w1.heap.size 151 [.int .i64 1, .bool false, fnV 115, fnV 116] := Row.new w1 _ _
         have hG : W0.heap.size ≤ w1.heap.size := b1.size
         clear b1
         generalize w1.alloc (.cells #[.int .i64 1, .bool false, fnV 115, fnV 116] 151) = W2 at hS R ⊢
         generalize w1.heap.size = G at R hG ⊢)
      | (have R := (((rz1.set 0 (.int .i64 1)).set 1 (.bool false)).set 2 (fnV 115)).set 3 (fnV 116)
         simp only [List.set_cons_zero, List.set_cons_succ] at R
         have hG : W0.heap.size ≤ W0.heap.size := Nat.le_refl _
         clear b1 rz1 z0 z1 z2 z3 y0 y1 y2 y3
         generalize (((w1.setCell ⟨W0.heap.size, 0, none⟩ (.int .i64 1)).setCell ⟨W0.heap.size, 1, none⟩ (.bool false)).setCell ⟨W0.heap.size, 2, none⟩ (fnV 115)).setCell ⟨W0.heap.size, 3, none⟩ (fnV 116) = W2 at hS R ⊢
         generalize hGe : W0.heap.size = G at R ⊢)
    dsimp only [Exit.then]
    obtain ⟨hb2, k0, k1⟩ := hS
    have g0 := R.cell 0
    have g3 := R.cell 3
    simp only [List.getElem?_cons_zero, List.getElem?_cons_succ] at g0 g3
    have hBd := hB0.trans (hb2.mono hB0.size)
    clear R hb2 HK RZ HA hx
    go_wp2
    go_ret3
    exact ⟨by rw [HX.out]; rfl, hBd⟩

set_option maxHeartbeats 4000000 in
theorem done2_ok (b : Int) (s : ByteArray) (hs : ¬ s.size = 0) (w : World) : Calls Try.prog 93 #[.agg #[.int .i64 2, .int .i64 b], .string s] w fun e w' => e = .returned (.tuple #[.string (doneC 2 b s).1, .string (doneC 2 b s).2.1, .bool (doneC 2 b s).2.2]) ∧ Below w.heap.size w w' := by
  have HX := Lib.hid (show doneC 2 b s = _ by unfold doneC; first | rw [if_pos (by rfl)] | rw [if_neg (by omega), if_pos hs] | rw [if_neg (by omega), if_neg hs, if_pos (by rfl)] | rw [if_neg (by omega), if_neg hs, if_neg (by omega), if_pos (by rfl)] | rw [if_neg (by omega), if_neg hs, if_neg (by omega), if_neg (by omega)])
  obtain ⟨W0, hW0⟩ : ∃ W0, w.alloc (.cells #[.int .i64 2, .int .i64 b] 77) = W0 := ⟨_, rfl⟩
  have hB0 : Below w.heap.size w W0 := by rw [← hW0]; exact (Below.refl _ w).alloc (Nat.le_refl _) _
  have k0 : W0.cell? ⟨w.heap.size, 0, none⟩ = some (.int .i64 2) := by rw [← hW0]; simp
  have k1 : W0.cell? ⟨w.heap.size, 1, none⟩ = some (.int .i64 b) := by rw [← hW0]; simp
  obtain ⟨H, hH⟩ : ∃ H, w.heap.size = H := ⟨_, rfl⟩
  have hH0 : H < W0.heap.size := by rw [← hW0, ← hH]; simp
  rw [hH] at k0 k1
  have hx := wix2
  have hmx : Try.prog.follows .mixedOrders = true := by kernel_rfl
  have HA := Lib.hid (fun W => words_any W)
  go_enter Try.func93, Try.ntmps93
  go_wp2_with fail
  try rw [hW0]
  try rw [hH]
  clear hW0
  have HK := Lib.hid (fun W (hb : Below W0.heap.size W0 W) => (⟨hb, cell_later hb k0, cell_later hb k1⟩ : Below W0.heap.size W0 W ∧ W.cell? ⟨H, 0, none⟩ = some (.int .i64 2) ∧ W.cell? ⟨H, 1, none⟩ = some (.int .i64 b)))
  clear k0 k1
  have rz : Row (W0.alloc (.cells #[.int .i64 0, .bool false, .nilFunc, .nilFunc] 151)).drew W0.heap.size 151 [.int .i64 0, .bool false, .nilFunc, .nilFunc] := (Row.new W0 _ _).drew
  have RZ := Lib.hid rz
  clear rz
  go_region_held3 (fun W => Below W0.heap.size W0 W ∧ W.cell? ⟨H, 0, none⟩ = some (.int .i64 2) ∧ W.cell? ⟨H, 1, none⟩ = some (.int .i64 b)) (first | assumption | (refine HK.out _ ?_; repeat (first | assumption | exact (Below.refl _ _).drew | exact Below.refl _ _ | refine bl_dr ?_ | refine bl_al ?_ _ | refine bl_set ?_ (Nat.le_refl _) _ | (refine below_nx ?_ (by assumption))))) (first | (go_at_call 96; refine (HA.out _).mono ?_; rintro e w1 ⟨rfl, b1⟩; (try (have rz1 := RZ.out.later b1; have z0 := rz1.cell 0; have z1 := rz1.cell 1; have z2 := rz1.cell 2; have z3 := rz1.cell 3; have y0 := rz1.frozen 0; have y1 := rz1.frozen 1; have y2 := rz1.frozen 2; have y3 := rz1.frozen 3; simp only [List.getElem?_cons_zero, List.getElem?_cons_succ] at z0 z1 z2 z3))))
  all_goals
    have hS := ‹Below W0.heap.size W0 _ ∧ _›
    first
      | (have R : Row (w1.alloc (.cells #[.int .i64 1, .bool false, fnV 115, fnV 116] 151)) w1.heap.size 151 [.int .i64 1, .bool false, fnV 115, fnV 116] := Row.new w1 _ _
         have hG : W0.heap.size ≤ w1.heap.size := b1.size
         clear b1
         generalize w1.alloc (.cells #[.int .i64 1, .bool false, fnV 115, fnV 116] 151) = W2 at hS R ⊢
         generalize w1.heap.size = G at R hG ⊢)
      | (have R := (((rz1.set 0 (.int .i64 1)).set 1 (.bool false)).set 2 (fnV 115)).set 3 (fnV 116)
         simp only [List.set_cons_zero, List.set_cons_succ] at R
         have hG : W0.heap.size ≤ W0.heap.size := Nat.le_refl _
         clear b1 rz1 z0 z1 z2 z3 y0 y1 y2 y3
         generalize (((w1.setCell ⟨W0.heap.size, 0, none⟩ (.int .i64 1)).setCell ⟨W0.heap.size, 1, none⟩ (.bool false)).setCell ⟨W0.heap.size, 2, none⟩ (fnV 115)).setCell ⟨W0.heap.size, 3, none⟩ (fnV 116) = W2 at hS R ⊢
         generalize hGe : W0.heap.size = G at R ⊢)
    dsimp only [Exit.then]
    obtain ⟨hb2, k0, k1⟩ := hS
    have g0 := R.cell 0
    have g3 := R.cell 3
    simp only [List.getElem?_cons_zero, List.getElem?_cons_succ] at g0 g3
    have hBd := hB0.trans (hb2.mono hB0.size)
    clear R hb2 HK RZ HA hx
    have hs1 : (1 : Int) ≤ s.size := by omega
    have hs2 : ¬ ((s.size : Int) < 1) := by omega
    have HBd := Lib.hid hBd
    have HK2 := Lib.hid (fun W (hb : Below W2.heap.size W2 W) => (⟨hb, cell_later hb k1, cell_later hb g0, cell_later hb g3⟩ : Below W2.heap.size W2 W ∧ W.cell? ⟨H, 1, none⟩ = some (.int .i64 b) ∧ W.cell? ⟨G, 0, none⟩ = some (.int .i64 1) ∧ W.cell? ⟨G, 3, none⟩ = some (fnV 116)))
    have hcv := conv1 b W2
    clear hBd k0
    go_wp2_with fail
    clear k1 g0 g3
    refine wp_region_held_drew (S := fun W => Below W2.heap.size W2 W ∧ W.cell? ⟨H, 1, none⟩ = some (.int .i64 b) ∧ W.cell? ⟨G, 0, none⟩ = some (.int .i64 1) ∧ W.cell? ⟨G, 3, none⟩ = some (fnV 116)) hmx (HK2.out _ (Below.refl _ W2).drew) (fun hS => ?_)
    refine take_held (i := 0) (v := .pointer (some ⟨G, 3, none⟩)) rfl (by kernel_rfl) (by kernel_rfl) (by kernel_rfl) (fun _ _ _ h => h) (by rfl) (by rintro W4 ⟨q0, q1, q2, q3⟩; go_simp) hS ?_
    refine take_held (i := 1) (v := fnV 116) rfl (by kernel_rfl) (by kernel_rfl) (by kernel_rfl) (fun _ _ _ h => h) (by rfl) (by rintro W4 ⟨q0, q1, q2, q3⟩; go_simp) hS ?_
    refine take_held (i := 2) (v := .string s) rfl (by kernel_rfl) (by kernel_rfl) (by kernel_rfl) (fun _ _ _ h => h) (by rfl) (by rintro W4 ⟨q0, q1, q2, q3⟩; go_simp) hS ?_
    refine take_held (i := 3) (v := .pointer (some ⟨G, 0, none⟩)) rfl (by kernel_rfl) (by kernel_rfl) (by kernel_rfl) (fun _ _ _ h => h) (by rfl) (by rintro W4 ⟨q0, q1, q2, q3⟩; go_simp) hS ?_
    refine take_held (i := 4) (v := .int .i64 1) rfl (by kernel_rfl) (by kernel_rfl) (by kernel_rfl) (fun _ _ _ h => h) (by rfl) (by rintro W4 ⟨q0, q1, q2, q3⟩; go_simp) hS ?_
    refine take_held (i := 5) (v := .string (s.extract 0 1)) rfl (by kernel_rfl) (by kernel_rfl) (by kernel_rfl) (fun _ _ _ h => h) (by rfl) (by rintro W4 ⟨q0, q1, q2, q3⟩; go_simp) hS ?_
    refine take_held (i := 6) (v := .pointer (some ⟨H, 1, none⟩)) rfl (by kernel_rfl) (by kernel_rfl) (by kernel_rfl) (fun _ _ _ h => h) (by rfl) (by rintro W4 ⟨q0, q1, q2, q3⟩; go_simp) hS ?_
    refine take_held (i := 7) (v := .int .i64 b) rfl (by kernel_rfl) (by kernel_rfl) (by kernel_rfl) (fun _ _ _ h => h) (by rfl) (by rintro W4 ⟨q0, q1, q2, q3⟩; go_simp) hS ?_
    refine take_held (i := 8) (v := .int .u8 (IntKind.u8.wrap b)) rfl (by kernel_rfl) (by kernel_rfl) (by kernel_rfl) (fun _ _ _ h => h) (by rfl) (by rintro W4 ⟨q0, q1, q2, q3⟩; go_simp) hS ?_
    refine step_held (i := 9) rfl (by kernel_rfl) (by rfl) (fun K' hK' => ?_)
    go_simp
    refine hK'.out _ _ (HK2.out _ (bl_al (Below.refl _ W2) _).drew) (fun hS => ?_)
    clear hK' K'
    refine step_held (i := 10) rfl (by kernel_rfl) (by rfl) (fun K' hK' => ?_)
    go_simp
    refine hK'.out _ _ hS (fun _ => ?_)
    clear hK' K'
    refine step_held (i := 11) rfl (by kernel_rfl) (by rfl) (fun K' hK' => ?_)
    go_simp
    refine (w6_any _ _ _).mono ?_
    rintro e w3 ⟨rfl, rfl⟩
    refine hK'.out _ _ hS (fun _ => ?_)
    clear hK' K'
    refine take_held (i := 12) (v := .tuple #[.string (noS), .bool (true)]) rfl (by kernel_rfl) (by kernel_rfl) (by kernel_rfl) (fun _ _ _ h => h) (by rfl) (by rintro W4 ⟨q0, q1, q2, q3⟩; go_simp) hS ?_
    refine take_held (i := 13) (v := .string (noS)) rfl (by kernel_rfl) (by kernel_rfl) (by kernel_rfl) (fun _ _ _ h => h) (by rfl) (by rintro W4 ⟨q0, q1, q2, q3⟩; go_simp) hS ?_
    refine take_held (i := 14) (v := .bool (true)) rfl (by kernel_rfl) (by kernel_rfl) (by kernel_rfl) (fun _ _ _ h => h) (by rfl) (by rintro W4 ⟨q0, q1, q2, q3⟩; go_simp) hS ?_
    refine step_held (i := 15) rfl (by kernel_rfl) (by rfl) (fun K' hK' => ?_)
    go_simp
    refine hK'.out _ _ hS (fun _ => ?_)
    clear hK' K'
    refine step_held (i := 16) rfl (by kernel_rfl) (by rfl) (fun K' hK' => ?_)
    go_simp
    refine hK'.out _ _ hS (fun _ => ?_)
    clear hK' K'
    refine wpAnyH_done (by kernel_rfl) ?_ _
    have hS3 := hS
    obtain ⟨hb3, k3, g4, g5⟩ := hS3
    have hB3 := below_nx HBd.out hb3
    clear hb3 HK2 hcv HBd hS
    generalize (W2.alloc (.cells #[.int .u8 (IntKind.u8.wrap b)] 5)).drew = W3 at *
    have HB3 := Lib.hid hB3
    clear hB3
    dsimp only [Exit.then]
    go_wp2_with fail
    go_quiet (fail)
    go_wp2
    go_ret3
    exact ⟨by rw [HX.out]; rfl, below_drewN HB3.out _⟩

set_option maxHeartbeats 4000000 in
theorem done3_ok (b : Int) (s : ByteArray) (w : World) : Calls Try.prog 93 #[.agg #[.int .i64 3, .int .i64 b], .string s] w fun e w' => e = .returned (.tuple #[.string (doneC 3 b s).1, .string (doneC 3 b s).2.1, .bool (doneC 3 b s).2.2]) ∧ Below w.heap.size w w' := by
  have HX := Lib.hid (show doneC 3 b s = _ by unfold doneC; first | rw [if_pos (by rfl)] | rw [if_neg (by omega), if_pos hs] | rw [if_neg (by omega), if_neg hs, if_pos (by rfl)] | rw [if_neg (by omega), if_neg hs, if_neg (by omega), if_pos (by rfl)] | rw [if_neg (by omega), if_neg hs, if_neg (by omega), if_neg (by omega)])
  obtain ⟨W0, hW0⟩ : ∃ W0, w.alloc (.cells #[.int .i64 3, .int .i64 b] 77) = W0 := ⟨_, rfl⟩
  have hB0 : Below w.heap.size w W0 := by rw [← hW0]; exact (Below.refl _ w).alloc (Nat.le_refl _) _
  have k0 : W0.cell? ⟨w.heap.size, 0, none⟩ = some (.int .i64 3) := by rw [← hW0]; simp
  have k1 : W0.cell? ⟨w.heap.size, 1, none⟩ = some (.int .i64 b) := by rw [← hW0]; simp
  obtain ⟨H, hH⟩ : ∃ H, w.heap.size = H := ⟨_, rfl⟩
  have hH0 : H < W0.heap.size := by rw [← hW0, ← hH]; simp
  rw [hH] at k0 k1
  have hx := wix3
  have hmx : Try.prog.follows .mixedOrders = true := by kernel_rfl
  have HA := Lib.hid (fun W => words_any W)
  go_enter Try.func93, Try.ntmps93
  go_wp2_with fail
  try rw [hW0]
  try rw [hH]
  clear hW0
  have HK := Lib.hid (fun W (hb : Below W0.heap.size W0 W) => (⟨hb, cell_later hb k0, cell_later hb k1⟩ : Below W0.heap.size W0 W ∧ W.cell? ⟨H, 0, none⟩ = some (.int .i64 3) ∧ W.cell? ⟨H, 1, none⟩ = some (.int .i64 b)))
  clear k0 k1
  have rz : Row (W0.alloc (.cells #[.int .i64 0, .bool false, .nilFunc, .nilFunc] 151)).drew W0.heap.size 151 [.int .i64 0, .bool false, .nilFunc, .nilFunc] := (Row.new W0 _ _).drew
  have RZ := Lib.hid rz
  clear rz
  go_region_held3 (fun W => Below W0.heap.size W0 W ∧ W.cell? ⟨H, 0, none⟩ = some (.int .i64 3) ∧ W.cell? ⟨H, 1, none⟩ = some (.int .i64 b)) (first | assumption | (refine HK.out _ ?_; repeat (first | assumption | exact (Below.refl _ _).drew | exact Below.refl _ _ | refine bl_dr ?_ | refine bl_al ?_ _ | refine bl_set ?_ (Nat.le_refl _) _ | (refine below_nx ?_ (by assumption))))) (first | (go_at_call 96; refine (HA.out _).mono ?_; rintro e w1 ⟨rfl, b1⟩; (try (have rz1 := RZ.out.later b1; have z0 := rz1.cell 0; have z1 := rz1.cell 1; have z2 := rz1.cell 2; have z3 := rz1.cell 3; have y0 := rz1.frozen 0; have y1 := rz1.frozen 1; have y2 := rz1.frozen 2; have y3 := rz1.frozen 3; simp only [List.getElem?_cons_zero, List.getElem?_cons_succ] at z0 z1 z2 z3))))
  all_goals
    have hS := ‹Below W0.heap.size W0 _ ∧ _›
    first
      | (have R : Row (w1.alloc (.cells #[.int .i64 0, .bool true, fnV 117, fnV 118] 151)) w1.heap.size 151 [.int .i64 0, .bool true, fnV 117, fnV 118] := Row.new w1 _ _
         have hG : W0.heap.size ≤ w1.heap.size := b1.size
         clear b1
         generalize w1.alloc (.cells #[.int .i64 0, .bool true, fnV 117, fnV 118] 151) = W2 at hS R ⊢
         generalize w1.heap.size = G at R hG ⊢)
      | (have R := (((rz1.set 0 (.int .i64 0)).set 1 (.bool true)).set 2 (fnV 117)).set 3 (fnV 118)
         simp only [List.set_cons_zero, List.set_cons_succ] at R
         have hG : W0.heap.size ≤ W0.heap.size := Nat.le_refl _
         clear b1 rz1 z0 z1 z2 z3 y0 y1 y2 y3
         generalize (((w1.setCell ⟨W0.heap.size, 0, none⟩ (.int .i64 0)).setCell ⟨W0.heap.size, 1, none⟩ (.bool true)).setCell ⟨W0.heap.size, 2, none⟩ (fnV 117)).setCell ⟨W0.heap.size, 3, none⟩ (fnV 118) = W2 at hS R ⊢
         generalize hGe : W0.heap.size = G at R ⊢)
    dsimp only [Exit.then]
    obtain ⟨hb2, k0, k1⟩ := hS
    have g0 := R.cell 0
    have g3 := R.cell 3
    simp only [List.getElem?_cons_zero, List.getElem?_cons_succ] at g0 g3
    have hBd := hB0.trans (hb2.mono hB0.size)
    clear R hb2 HK RZ HA hx
    have HBd := Lib.hid hBd
    have HK2 := Lib.hid (fun W (hb : Below W2.heap.size W2 W) => (⟨hb, cell_later hb k1, cell_later hb g0, cell_later hb g3⟩ : Below W2.heap.size W2 W ∧ W.cell? ⟨H, 1, none⟩ = some (.int .i64 b) ∧ W.cell? ⟨G, 0, none⟩ = some (.int .i64 0) ∧ W.cell? ⟨G, 3, none⟩ = some (fnV 118)))
    have hcv := conv1 b W2
    clear hBd k0
    go_wp2_with fail
    clear k1 g0 g3
    refine wp_region_held_drew (S := fun W => Below W2.heap.size W2 W ∧ W.cell? ⟨H, 1, none⟩ = some (.int .i64 b) ∧ W.cell? ⟨G, 0, none⟩ = some (.int .i64 0) ∧ W.cell? ⟨G, 3, none⟩ = some (fnV 118)) hmx (HK2.out _ (Below.refl _ W2).drew) (fun hS => ?_)
    refine take_held (i := 0) (v := .pointer (some ⟨G, 3, none⟩)) rfl (by kernel_rfl) (by kernel_rfl) (by kernel_rfl) (fun _ _ _ h => h) (by rfl) (by rintro W4 ⟨q0, q1, q2, q3⟩; go_simp) hS ?_
    refine take_held (i := 1) (v := fnV 118) rfl (by kernel_rfl) (by kernel_rfl) (by kernel_rfl) (fun _ _ _ h => h) (by rfl) (by rintro W4 ⟨q0, q1, q2, q3⟩; go_simp) hS ?_
    refine take_held (i := 2) (v := .string s) rfl (by kernel_rfl) (by kernel_rfl) (by kernel_rfl) (fun _ _ _ h => h) (by rfl) (by rintro W4 ⟨q0, q1, q2, q3⟩; go_simp) hS ?_
    refine take_held (i := 3) (v := .pointer (some ⟨G, 0, none⟩)) rfl (by kernel_rfl) (by kernel_rfl) (by kernel_rfl) (fun _ _ _ h => h) (by rfl) (by rintro W4 ⟨q0, q1, q2, q3⟩; go_simp) hS ?_
    refine take_held (i := 4) (v := .int .i64 0) rfl (by kernel_rfl) (by kernel_rfl) (by kernel_rfl) (fun _ _ _ h => h) (by rfl) (by rintro W4 ⟨q0, q1, q2, q3⟩; go_simp) hS ?_
    refine take_held (i := 5) (v := .string (s.extract 0 0)) rfl (by kernel_rfl) (by kernel_rfl) (by kernel_rfl) (fun _ _ _ h => h) (by rfl) (by rintro W4 ⟨q0, q1, q2, q3⟩; go_simp) hS ?_
    refine take_held (i := 6) (v := .pointer (some ⟨H, 1, none⟩)) rfl (by kernel_rfl) (by kernel_rfl) (by kernel_rfl) (fun _ _ _ h => h) (by rfl) (by rintro W4 ⟨q0, q1, q2, q3⟩; go_simp) hS ?_
    refine take_held (i := 7) (v := .int .i64 b) rfl (by kernel_rfl) (by kernel_rfl) (by kernel_rfl) (fun _ _ _ h => h) (by rfl) (by rintro W4 ⟨q0, q1, q2, q3⟩; go_simp) hS ?_
    refine take_held (i := 8) (v := .int .u8 (IntKind.u8.wrap b)) rfl (by kernel_rfl) (by kernel_rfl) (by kernel_rfl) (fun _ _ _ h => h) (by rfl) (by rintro W4 ⟨q0, q1, q2, q3⟩; go_simp) hS ?_
    refine step_held (i := 9) rfl (by kernel_rfl) (by rfl) (fun K' hK' => ?_)
    go_simp
    refine hK'.out _ _ (HK2.out _ (bl_al (Below.refl _ W2) _).drew) (fun hS => ?_)
    clear hK' K'
    refine step_held (i := 10) rfl (by kernel_rfl) (by rfl) (fun K' hK' => ?_)
    go_simp
    refine hK'.out _ _ hS (fun _ => ?_)
    clear hK' K'
    refine step_held (i := 11) rfl (by kernel_rfl) (by rfl) (fun K' hK' => ?_)
    go_simp
    refine (w8_any _ _ _).mono ?_
    rintro e w3 ⟨rfl, rfl⟩
    refine hK'.out _ _ hS (fun _ => ?_)
    clear hK' K'
    refine take_held (i := 12) (v := .tuple #[.string (oneS b), .bool (true)]) rfl (by kernel_rfl) (by kernel_rfl) (by kernel_rfl) (fun _ _ _ h => h) (by rfl) (by rintro W4 ⟨q0, q1, q2, q3⟩; go_simp) hS ?_
    refine take_held (i := 13) (v := .string (oneS b)) rfl (by kernel_rfl) (by kernel_rfl) (by kernel_rfl) (fun _ _ _ h => h) (by rfl) (by rintro W4 ⟨q0, q1, q2, q3⟩; go_simp) hS ?_
    refine take_held (i := 14) (v := .bool (true)) rfl (by kernel_rfl) (by kernel_rfl) (by kernel_rfl) (fun _ _ _ h => h) (by rfl) (by rintro W4 ⟨q0, q1, q2, q3⟩; go_simp) hS ?_
    refine step_held (i := 15) rfl (by kernel_rfl) (by rfl) (fun K' hK' => ?_)
    go_simp
    refine hK'.out _ _ hS (fun _ => ?_)
    clear hK' K'
    refine step_held (i := 16) rfl (by kernel_rfl) (by rfl) (fun K' hK' => ?_)
    go_simp
    refine hK'.out _ _ hS (fun _ => ?_)
    clear hK' K'
    refine wpAnyH_done (by kernel_rfl) ?_ _
    have hS3 := hS
    obtain ⟨hb3, k3, g4, g5⟩ := hS3
    have hB3 := below_nx HBd.out hb3
    clear hb3 HK2 hcv HBd hS
    generalize (W2.alloc (.cells #[.int .u8 (IntKind.u8.wrap b)] 5)).drew = W3 at *
    have HB3 := Lib.hid hB3
    clear hB3
    dsimp only [Exit.then]
    go_wp2_with fail
    go_quiet (fail)
    go_wp2
    go_ret3
    exact ⟨by rw [HX.out]; rfl, below_drewN HB3.out _⟩
end Go.Proofs.Ytkpmkeklopfhdaa
