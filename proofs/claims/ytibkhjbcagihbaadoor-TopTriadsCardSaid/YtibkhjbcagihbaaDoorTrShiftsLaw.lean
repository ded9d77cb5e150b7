/-
  Shift of package triads and of the reference, and the statement on it.
-/
import Derived.Test.YtibkhjbcagihbaaDoorTrWalksLaw
namespace Go.Proofs.YtibkhjbcagihbaaDoor
open Go.ChangeShapes Go.WideShapes Go.ChangeAt Go.RowKit
set_option maxRecDepth 100000

theorem Shift_bad (n a b t k : Int) (tu : Bool) (h : (kindB n a b && triB n t) = false) (w : World) :
    Calls Tryd.prog 18 #[kv n a b, .int .i64 t, .int .i64 k, .bool tu] w fun e w' => e = .returned (.tuple #[.int .i64 0, .int .i64 2]) ∧ Below w.heap.size w w' := by
  have HV := Lib.hid (valid1 n a b t false h (w.heap.size + 1) 1 (laid1 w n a b t) (by simp))
  have HA := Lib.hid (below_laid1 w n a b t)
  clear h
  go_enter Tryd.func18, Tryd.ntmps18
  go_wp2_with fail
  refine HV.out.mono ?_
  rintro e w1 ⟨rfl, b1⟩
  go_wp2
  go_ret2
  exact ⟨rfl, below_nx HA.out b1⟩

theorem shift_root {n t : Nat} (k : Int) (tu d : Bool) (hd : decide ((n : Int) ≤ t) = d) :
    shiftN n t k tu = tri n (xor d tu) (if tu then k % n - ((t % n : Nat) : Int) else k % n + ((t % n : Nat) : Int)) := by
  have e : decide (n ≤ t) = d := by rw [← hd, Bool.eq_iff_iff, decide_eq_true_eq, decide_eq_true_eq]; omega
  unfold shiftN
  rw [e]
  refine tri_congr ?_
  cases tu
  · simp only [Bool.false_eq_true, if_false]; rw [Int.natCast_emod, Int.emod_add_emod, Int.add_emod_emod]
  · simp only [if_true]; rw [Int.natCast_emod, Int.emod_sub_emod, Int.sub_emod_emod]

set_option maxHeartbeats 2000000 in
theorem Shift_ok (n a b t : Nat) (k : Int) (tu : Bool) (hk : KOk n a b) (ht : t < 2 * n) (w : World) :
    Calls Tryd.prog 18 #[kv n a b, .int .i64 t, .int .i64 k, .bool tu] w fun e w' => e = .returned (.tuple #[.int .i64 (shiftN n t k tu : Nat), .int .i64 0]) ∧ Below w.heap.size w w' := by
  have h0 := hk.h6
  have h1 := hk.h16
  have HV := Lib.hid (valid1 n a b t true (by rw [kindB_of_nat hk, triB_nat ht]; rfl) (w.heap.size + 1) 1 (laid1 w n a b t) (by simp))
  have HA := Lib.hid (below_laid1 w n a b t)
  have k0 : (laid1 w n a b t).cell? ⟨w.heap.size, 0, none⟩ = some (.int .i64 n) := by simp
  have k1 : (laid1 w n a b t).cell? ⟨w.heap.size, 1, none⟩ = some (.int .i64 a) := by simp
  have k2 : (laid1 w n a b t).cell? ⟨w.heap.size, 2, none⟩ = some (.int .i64 b) := by simp
  have HM := Lib.hid (modulo_any k n (by omega) (by omega))
  have HD := Lib.hid (isDark_any n a b t)
  have HR := Lib.hid (root_any n a b t (by omega))
  have HN := Lib.hid (fun z d => numbered_any n a b z d (by omega) h1)
  have hmod : (t : Int).tmod n = ((t % n : Nat) : Int) := by rw [Int.tmod_eq_emod_of_nonneg (by omega)]; simp
  rw [hmod] at HR
  have hlt : t % n < n := Nat.mod_lt _ (by omega)
  have hmx : Tryd.prog.follows .mixedOrders = true := by kernel_rfl
  obtain ⟨d, hd⟩ : ∃ d, decide ((n : Int) ≤ t) = d := ⟨_, rfl⟩
  have HS := Lib.hid (shift_root (n := n) (t := t) k tu d hd)
  rw [hd] at HD
  have hm1 : 0 ≤ k % n := Int.emod_nonneg _ (by omega)
  have hm2 : k % n < n := Int.emod_lt_of_pos _ (by omega)
  clear hmod hd
  generalize k % (n : Int) = m at HM HS hm1 hm2
  generalize t % n = q at HR hlt HS
  cases tu
  · simp only [Bool.false_eq_true, if_false, Bool.xor_false] at HS
    go_enter Tryd.func18, Tryd.ntmps18
    go_wp2_with fail
    refine HV.out.mono ?_
    rintro e w1 ⟨rfl, b1⟩
    have k0 := cell_later b1 k0
    have k1 := cell_later b1 k1
    have k2 := cell_later b1 k2
    have HA1 := Lib.hid (below_nx HA.out b1)
    go_wp2_with fail
    refine (HM.out _).mono ?_
    rintro e w2 ⟨rfl, rfl⟩
    go_wp2_with fail
    refine region_calm hmx (by kernel_rfl) ?_
    intro S hSn f hS1 hS2
    have l0 : ∀ s, (f s).cell? ⟨w.heap.size, 0, none⟩ = some (.int .i64 n) := fun s => cell_later (hS1 s) k0
    have l1 : ∀ s, (f s).cell? ⟨w.heap.size, 1, none⟩ = some (.int .i64 a) := fun s => cell_later (hS1 s) k1
    have l2 : ∀ s, (f s).cell? ⟨w.heap.size, 2, none⟩ = some (.int .i64 b) := fun s => cell_later (hS1 s) k2
    have hC1 := Lib.hid (calm_call hS1 hS2 (fun s => HR.out (f s)))
    have hC2 := Lib.hid (calm_call hS1 hS2 (fun s => HD.out (f s)))
    have hC3 := Lib.hid (calm_call hS1 hS2 (fun s => HN.out (m + (q : Int)) d (f s)))
    repeat (go_big_quiet_step (first | exact hC1.out _ | exact hC2.out _ | exact hC3.out _))
    refine wpQuiet_nil ?_
    rintro _ ⟨s, rfl⟩
    have hbs := hS1 s
    generalize f s = w2 at hbs
    clear l0 l1 l2 hC1 hC2 hC3 hS1 hS2
    try dsimp only [Exit.then]
    go_wp2
    go_ret2
    exact ⟨by rw [HS.out]; rfl, below_nx HA1.out hbs⟩
  · simp only [if_true, Bool.xor_true] at HS
    go_enter Tryd.func18, Tryd.ntmps18
    go_wp2_with fail
    refine HV.out.mono ?_
    rintro e w1 ⟨rfl, b1⟩
    have k0 := cell_later b1 k0
    have k1 := cell_later b1 k1
    have k2 := cell_later b1 k2
    have HA1 := Lib.hid (below_nx HA.out b1)
    go_wp2_with fail
    refine (HM.out _).mono ?_
    rintro e w2 ⟨rfl, rfl⟩
    go_wp2_with fail
    refine region_calm hmx (by kernel_rfl) ?_
    intro S hSn f hS1 hS2
    have l0 : ∀ s, (f s).cell? ⟨w.heap.size, 0, none⟩ = some (.int .i64 n) := fun s => cell_later (hS1 s) k0
    have l1 : ∀ s, (f s).cell? ⟨w.heap.size, 1, none⟩ = some (.int .i64 a) := fun s => cell_later (hS1 s) k1
    have l2 : ∀ s, (f s).cell? ⟨w.heap.size, 2, none⟩ = some (.int .i64 b) := fun s => cell_later (hS1 s) k2
    have hC1 := Lib.hid (calm_call hS1 hS2 (fun s => HR.out (f s)))
    have hC2 := Lib.hid (calm_call hS1 hS2 (fun s => HD.out (f s)))
    have hC3 := Lib.hid (calm_call hS1 hS2 (fun s => HN.out (m - (q : Int)) (!d) (f s)))
    repeat (go_big_quiet_step (first | exact hC1.out _ | exact hC2.out _ | exact hC3.out _))
    refine wpQuiet_nil ?_
    rintro _ ⟨s, rfl⟩
    have hbs := hS1 s
    generalize f s = w2 at hbs
    clear l0 l1 l2 hC1 hC2 hC3 hS1 hS2
    try dsimp only [Exit.then]
    go_wp2
    go_ret2
    exact ⟨by rw [HS.out]; rfl, below_nx HA1.out hbs⟩

theorem rshift_val {n t : Nat} (hn : 0 < n) (ht : t < 2 * n) (k : Int) (tu : Bool) :
    ((shiftN n t k tu : Nat) : Int) = if tu then (1 - (t : Int) / n) * n + (k % n - (t : Int) % n) % n else (t : Int) / n * n + ((t : Int) % n + k % n) % n := by
  have e1 : (t : Int) / n = ((t / n : Nat) : Int) := by simp
  have e2 : (t : Int) % n = ((t % n : Nat) : Int) := by simp
  rw [shift_root k tu _ rfl, tri_int n hn, e1, e2]
  have h0 : 0 ≤ k % n := Int.emod_nonneg _ (by omega)
  rw [Int.add_comm ((t % n : Nat) : Int) (k % n)]
  by_cases h : n ≤ t
  · have e4 : t / n = 1 := Nat.div_eq_of_lt_le (k := 1) (by omega) (by omega)
    have e5 : decide ((n : Int) ≤ t) = true := decide_eq_true (by omega)
    rw [e4, e5]
    cases tu <;> simp
  · have e4 : t / n = 0 := Nat.div_eq_of_lt (by omega)
    have e5 : decide ((n : Int) ≤ t) = false := decide_eq_false (by omega)
    rw [e4, e5]
    cases tu <;> simp

theorem rshift_wrap {n t : Nat} (hn : 0 < n) (hn2 : n ≤ 16) (ht : t < 2 * n) (m : Int) :
    wrap64 (wrap64 (wrap64 ((t : Int) / n) * n) + ((t : Int) + m) % n) = (t : Int) / n * n + ((t : Int) % n + m) % n ∧
    wrap64 (wrap64 (wrap64 (1 - wrap64 ((t : Int) / n)) * n) + (m - (t : Int)) % n) = (1 - (t : Int) / n) * n + (m - (t : Int) % n) % n := by
  have a1 : 0 ≤ (t : Int) % n := Int.emod_nonneg _ (by omega)
  have a2 : (t : Int) % n < n := Int.emod_lt_of_pos _ (by omega)
  have q1 : (t : Int) / n = 0 ∨ (t : Int) / n = 1 := by
    have := Int.ediv_lt_of_lt_mul (a := (t : Int)) (b := 2) (c := n) (by omega) (by omega)
    have := Int.ediv_nonneg (a := (t : Int)) (b := n) (by omega) (by omega)
    omega
  have b3 : 0 ≤ ((t : Int) % n + m) % n := Int.emod_nonneg _ (by omega)
  have b4 : ((t : Int) % n + m) % n < n := Int.emod_lt_of_pos _ (by omega)
  have b5 : 0 ≤ (m - (t : Int) % n) % n := Int.emod_nonneg _ (by omega)
  have b6 : (m - (t : Int) % n) % n < n := Int.emod_lt_of_pos _ (by omega)
  rw [← Int.emod_add_emod (t : Int) n m, ← Int.sub_emod_emod m (t : Int) n]
  generalize ((t : Int) % n + m) % n = x at b3 b4
  generalize (m - (t : Int) % n) % n = y at b5 b6
  have c0 : wrap64 0 = 0 := wrap64_fix (by omega) (by omega)
  have c1 : wrap64 1 = 1 := wrap64_fix (by omega) (by omega)
  have cn : wrap64 (n : Int) = n := wrap64_fix (by omega) (by omega)
  have d0 : (1 : Int) - 0 = 1 := rfl
  have d1 : (1 : Int) - 1 = 0 := rfl
  rcases q1 with q | q
  · rw [q, c0, d0, c1, Int.zero_mul, Int.one_mul, c0, cn]
    exact ⟨wrap64_fix (by omega) (by omega), wrap64_fix (by omega) (by omega)⟩
  · rw [q, c1, d1, c0, Int.zero_mul, Int.one_mul, c0, cn]
    exact ⟨wrap64_fix (by omega) (by omega), wrap64_fix (by omega) (by omega)⟩

theorem kwrap_fix {x : Int} (h1 : -9223372036854775808 ≤ x) (h2 : x < 9223372036854775808) : IntKind.i64.wrap x = x := by rw [IntKind.wrap_i64]; omega

end Go.Proofs.YtibkhjbcagihbaaDoor
