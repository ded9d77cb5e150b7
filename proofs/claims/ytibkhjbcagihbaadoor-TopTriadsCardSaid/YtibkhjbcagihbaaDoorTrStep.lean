/-
  Contracts of the steps: isDark, root, numbered, rise, step, and the reference's Step.
-/
import Derived.Test.YtibkhjbcagihbaaDoorLeafA
import Derived.Test.YtibkhjbcagihbaaDoorCalm
namespace Go.Proofs.YtibkhjbcagihbaaDoor
open Go.ChangeShapes Go.WideShapes Go.ChangeAt Go.RowKit
set_option maxRecDepth 100000

/-- A Kind in a block of its own. -/
abbrev kcells (n a b : Int) : Obj := .cells #[.int .i64 n, .int .i64 a, .int .i64 b] 27

theorem isDark_any (n a b t : Int) (w : World) :
    Calls Tryd.prog 34 #[kv n a b, .int .i64 t] w fun e w' => e = .returned (.bool (decide (n ≤ t))) ∧ Below w.heap.size w w' := by
  have hal := Lib.hid ((Below.refl w.heap.size w).alloc (Nat.le_refl _) (kcells n a b))
  go_enter Tryd.func34, Tryd.ntmps34
  go_wp2
  go_ret
  exact ⟨rfl, hal.out⟩

theorem root_any (n a b t : Int) (h0 : 1 ≤ n) (w : World) :
    Calls Tryd.prog 33 #[kv n a b, .int .i64 t] w fun e w' => e = .returned (.int .i64 (t.tmod n)) ∧ Below w.heap.size w w' := by
  have hal := Lib.hid ((Below.refl w.heap.size w).alloc (Nat.le_refl _) (kcells n a b))
  have hnz : (n == 0) = false := by rw [beq_eq_false_iff_ne]; omega
  go_enter Tryd.func33, Tryd.ntmps33
  go_wp2
  go_ret
  exact ⟨rfl, hal.out⟩

theorem tri_int (n : Nat) (hn : 0 < n) (d : Bool) (z : Int) : ((tri n d z : Nat) : Int) = (if d then (n : Int) else 0) + z % n := by
  have := (emod_nat hn z).1
  unfold tri; cases d <;> simp <;> omega

theorem numbered_any (n : Nat) (a b z : Int) (d : Bool) (h0 : 1 ≤ n) (h1 : n ≤ 16) (w : World) :
    Calls Tryd.prog 32 #[kv n a b, .int .i64 z, .bool d] w fun e w' => e = .returned (.int .i64 (tri n d z : Nat)) ∧ Below w.heap.size w w' := by
  obtain ⟨W0, hW0⟩ : ∃ W0, w.alloc (kcells n a b) = W0 := ⟨_, rfl⟩
  have b0 : Below w.heap.size w W0 := by rw [← hW0]; exact (Below.refl _ w).alloc (Nat.le_refl _) _
  have k0 : W0.cell? ⟨w.heap.size, 0, none⟩ = some (.int .i64 n) := by rw [← hW0]; simp
  have HW := Lib.hid hW0
  have HM := Lib.hid (modulo_any z n (by omega) (by omega))
  have HT := Lib.hid (tri_int n (by omega) d z)
  have h2 : 0 ≤ z % n := Int.emod_nonneg _ (by omega)
  have h3 : z % n < n := Int.emod_lt_of_pos _ (by omega)
  clear hW0
  cases d
  · go_enter Tryd.func32, Tryd.ntmps32
    go_wp2_with fail
    rw [HW.out]
    refine (HM.out _).mono ?_
    rintro e w1 ⟨rfl, rfl⟩
    go_wp2
    go_ret
    exact ⟨ret_int (by rw [HT.out]; simp), b0⟩
  · generalize z % (n : Int) = r at HM HT h2 h3
    go_enter Tryd.func32, Tryd.ntmps32
    go_wp2_with fail
    rw [HW.out]
    have hmx : Tryd.prog.follows .mixedOrders = true := by kernel_rfl
    refine region_calm hmx (by kernel_rfl) ?_
    intro S hSn f hS1 hS2
    have hld : ∀ s, (f s).cell? ⟨w.heap.size, 0, none⟩ = some (.int .i64 n) := fun s => cell_later (hS1 s) k0
    have hC := Lib.hid (show ∀ s, Calls Tryd.prog 31 #[.int .i64 z, .int .i64 n] (f s) (fun e w' => e = .returned (.int .i64 r) ∧ ∃ s', w' = f s') from
      fun s => (HM.out (f s)).mono fun e w' h => ⟨h.1, s, h.2.symm⟩)
    repeat (go_big_quiet_step (exact hC.out _))
    refine wpQuiet_nil ?_
    rintro _ ⟨s, rfl⟩
    have hbs := hS1 s
    generalize f s = w2 at hbs
    clear hld hC hS1 hS2
    dsimp only [Exit.then]
    go_wp2
    go_ret
    exact ⟨ret_int (by rw [HT.out]; simp), below_nx b0 hbs⟩

theorem rise_any (n a b c : Nat) (hk : KOk n a b) (hc : c < 2 ^ 31) (w : World) :
    Calls Tryd.prog 55 #[kv n a b, .int .i32 c] w fun e w' => e = .returned (.int .i64 (byL a b c : Nat)) ∧ Below w.heap.size w w' := by
  have hal := Lib.hid ((Below.refl w.heap.size w).alloc (Nat.le_refl _) (kcells n a b))
  have h1 := hk.h16
  have h2 := hk.hab
  have h3 := hk.hbn
  by_cases e1 : c = 80
  · subst e1
    go_enter Tryd.func55, Tryd.ntmps55
    go_wp2
    go_ret
    exact ⟨rfl, hal.out⟩
  · have q1 : ((c : Int) == 80) = false := by rw [beq_eq_false_iff_ne]; omega
    by_cases e2 : c = 76
    · subst e2
      go_enter Tryd.func55, Tryd.ntmps55
      go_wp2
      go_ret
      exact ⟨rfl, hal.out⟩
    · have q2 : ((c : Int) == 76) = false := by rw [beq_eq_false_iff_ne]; omega
      have HB := Lib.hid (show byL a b c = a by unfold byL; rw [if_neg e1, if_neg e2])
      clear e1 e2
      go_enter Tryd.func55, Tryd.ntmps55
      go_wp2
      go_ret
      exact ⟨ret_int (by rw [HB.out]), hal.out⟩

set_option maxHeartbeats 1000000 in
theorem step_any (n a b t c : Nat) (hk : KOk n a b) (ht : t < 2 * n) (hc : c < 2 ^ 31) (w : World) :
    Calls Tryd.prog 49 #[kv n a b, .int .i64 t, .int .i32 c] w fun e w' => e = .returned (.int .i64 (stepN n a b t c : Nat)) ∧ Below w.heap.size w w' := by
  have h0 := hk.h6
  have h1 := hk.h16
  obtain ⟨W0, hW0⟩ : ∃ W0, w.alloc (kcells n a b) = W0 := ⟨_, rfl⟩
  have b0 : Below w.heap.size w W0 := by rw [← hW0]; exact (Below.refl _ w).alloc (Nat.le_refl _) _
  have k0 : W0.cell? ⟨w.heap.size, 0, none⟩ = some (.int .i64 n) := by rw [← hW0]; simp
  have k1 : W0.cell? ⟨w.heap.size, 1, none⟩ = some (.int .i64 a) := by rw [← hW0]; simp
  have k2 : W0.cell? ⟨w.heap.size, 2, none⟩ = some (.int .i64 b) := by rw [← hW0]; simp
  have HW := Lib.hid hW0
  have HD := Lib.hid (isDark_any n a b t)
  have HR := Lib.hid (root_any n a b t (by omega))
  have HI := Lib.hid (rise_any n a b c hk hc)
  have hby := hk.by_le c
  have hmod : (t : Int).tmod n = ((t % n : Nat) : Int) := by rw [Int.tmod_eq_emod_of_nonneg (by omega)]; simp
  rw [hmod] at HR
  have hlt : t % n < n := Nat.mod_lt _ (by omega)
  have hmx : Tryd.prog.follows .mixedOrders = true := by kernel_rfl
  have hstep : ∀ d : Bool, decide ((n : Int) ≤ t) = d → stepN n a b t c = tri n (!d) (if d then ((t % n : Nat) : Int) - (byL a b c : Nat) else ((t % n : Nat) : Int) + (byL a b c : Nat)) := by
    intro d hd
    have e := tri_step hk d t c
    have hd' : decide (n ≤ t) = d := by rw [← hd, Bool.eq_iff_iff, decide_eq_true_eq, decide_eq_true_eq]; omega
    have ht2 := tri_of ht
    rw [hd'] at ht2
    rw [← ht2] at e
    rw [e]
    refine tri_congr ?_
    cases d
    · simp only [Bool.false_eq_true, if_false]; rw [Int.natCast_emod, Int.emod_add_emod]
    · simp only [if_true]; rw [Int.natCast_emod, Int.emod_sub_emod]
  have HN := Lib.hid (fun z d => numbered_any n a b z d (by omega) h1)
  clear hW0 hmod
  generalize byL a b c = r at HI hby hstep
  generalize t % n = q at HR hlt hstep
  cases hd : decide ((n : Int) ≤ t)
  · have HS := Lib.hid (hstep false hd)
    rw [hd] at HD
    simp only [Bool.false_eq_true, if_false, Bool.not_false] at HS
    clear hstep hd
    go_enter Tryd.func49, Tryd.ntmps49
    go_wp2_with fail
    rw [HW.out]
    refine (HD.out _).mono ?_
    rintro e w1 ⟨rfl, b1⟩
    have k0 := cell_later b1 k0
    have k1 := cell_later b1 k1
    have k2 := cell_later b1 k2
    have c1 := below_nx b0 b1
    clear b0 b1
    go_wp2_with fail
    refine region_calm hmx (by kernel_rfl) ?_
    intro S hSn f hS1 hS2
    have l0 : ∀ s, (f s).cell? ⟨w.heap.size, 0, none⟩ = some (.int .i64 n) := fun s => cell_later (hS1 s) k0
    have l1 : ∀ s, (f s).cell? ⟨w.heap.size, 1, none⟩ = some (.int .i64 a) := fun s => cell_later (hS1 s) k1
    have l2 : ∀ s, (f s).cell? ⟨w.heap.size, 2, none⟩ = some (.int .i64 b) := fun s => cell_later (hS1 s) k2
    have hC1 := Lib.hid (calm_call hS1 hS2 (fun s => HR.out (f s)))
    have hC2 := Lib.hid (calm_call hS1 hS2 (fun s => HI.out (f s)))
    have hC3 := Lib.hid (calm_call hS1 hS2 (fun s => HN.out ((q : Int) + (r : Int)) true (f s)))
    repeat (go_big_quiet_step (first | exact hC1.out _ | exact hC2.out _ | exact hC3.out _))
    refine wpQuiet_nil ?_
    rintro _ ⟨s, rfl⟩
    have hbs := hS1 s
    generalize f s = w2 at hbs
    clear l0 l1 l2 hC1 hC2 hC3 hS1 hS2
    dsimp only [Exit.then]
    go_wp2
    go_ret
    exact ⟨ret_int (by rw [HS.out]), below_nx c1 hbs⟩
  · have HS := Lib.hid (hstep true hd)
    rw [hd] at HD
    simp only [if_true, Bool.not_true] at HS
    clear hstep hd
    go_enter Tryd.func49, Tryd.ntmps49
    go_wp2_with fail
    rw [HW.out]
    refine (HD.out _).mono ?_
    rintro e w1 ⟨rfl, b1⟩
    have k0 := cell_later b1 k0
    have k1 := cell_later b1 k1
    have k2 := cell_later b1 k2
    have c1 := below_nx b0 b1
    clear b0 b1
    go_wp2_with fail
    refine region_calm hmx (by kernel_rfl) ?_
    intro S hSn f hS1 hS2
    have l0 : ∀ s, (f s).cell? ⟨w.heap.size, 0, none⟩ = some (.int .i64 n) := fun s => cell_later (hS1 s) k0
    have l1 : ∀ s, (f s).cell? ⟨w.heap.size, 1, none⟩ = some (.int .i64 a) := fun s => cell_later (hS1 s) k1
    have l2 : ∀ s, (f s).cell? ⟨w.heap.size, 2, none⟩ = some (.int .i64 b) := fun s => cell_later (hS1 s) k2
    have hC1 := Lib.hid (calm_call hS1 hS2 (fun s => HR.out (f s)))
    have hC2 := Lib.hid (calm_call hS1 hS2 (fun s => HI.out (f s)))
    have hC3 := Lib.hid (calm_call hS1 hS2 (fun s => HN.out ((q : Int) - (r : Int)) false (f s)))
    repeat (go_big_quiet_step (first | exact hC1.out _ | exact hC2.out _ | exact hC3.out _))
    refine wpQuiet_nil ?_
    rintro _ ⟨s, rfl⟩
    have hbs := hS1 s
    generalize f s = w2 at hbs
    clear l0 l1 l2 hC1 hC2 hC3 hS1 hS2
    dsimp only [Exit.then]
    go_wp2
    go_ret
    exact ⟨ret_int (by rw [HS.out]), below_nx c1 hbs⟩
end Go.Proofs.YtibkhjbcagihbaaDoor
