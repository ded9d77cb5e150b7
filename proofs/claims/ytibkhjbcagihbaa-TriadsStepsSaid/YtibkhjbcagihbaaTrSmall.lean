/-
  The reference's tests (Valid, Triad, IsWalk), its Walk, and the statements' own small functions (fine, text, Of).
-/
import Derived.Test.YtibkhjbcagihbaaTrRef
namespace Go.Proofs.Ytibkhjbcagihbaa
open Go.ChangeShapes Go.WideShapes Go.ChangeAt Go.RowKit
set_option maxRecDepth 100000

theorem Of_any (n a b : Int) (w : World) :
    Calls Try.prog 16 #[kv n a b] w fun e w' => e = .returned (kv n a b) ∧ Below w.heap.size w w' := by
  go_enter Try.func16, Try.ntmps16
  go_wp2
  refine bodyPost_ret (results_cell_row rfl _ _ (w.heap.size + 1) 27 #[.int .i64 n, .int .i64 a, .int .i64 b] (0, 0) _ rfl (heap_alloc2_new w _ _) Try.underlying27 rfl (by kernel_rfl)) rfl ?_
  exact ⟨rfl, ((Below.refl _ _).alloc (Nat.le_refl _) _).alloc (by simp) _⟩

theorem text_any (s : ByteArray) (w : World) :
    Calls Try.prog 17 #[.string s] w fun e w' => e = .returned (.string (s.extract 0 (min s.size 70))) ∧ w = w' := by
  go_enter Try.func17, Try.ntmps17
  have h0 : (0 : Int) ≤ min (s.size : Int) 70 := by omega
  have h1 : min (s.size : Int) 70 ≤ s.size := by omega
  go_wp2
  go_ret
  exact ⟨by show Ending.returned (.string (s.extract 0 (min (s.size : Int) 70).toNat)) = _; rw [show (min (s.size : Int) 70).toNat = min s.size 70 by omega], rfl⟩

theorem RTriad_any (n a b t : Int) (w : World) :
    Calls Try.prog 28 #[kv n a b, .int .i64 t] w fun e w' => e = .returned (.bool (decide (0 ≤ t) && decide (t < wrap64 (2 * n)))) ∧ Below w.heap.size w w' := by
  have hal := Lib.hid ((Below.refl w.heap.size w).alloc (Nat.le_refl _) (rcells n a b))
  by_cases h : 0 ≤ t
  · have HD := Lib.hid (show decide (0 ≤ t) = true from decide_eq_true h)
    go_enter Try.func28, Try.ntmps28
    go_wp2
    go_ret
    exact ⟨ret_bool (by rw [HD.out]; rfl), hal.out⟩
  · have HD := Lib.hid (show decide (0 ≤ t) = false from decide_eq_false h)
    go_enter Try.func28, Try.ntmps28
    go_wp2
    go_ret
    exact ⟨ret_bool (by rw [HD.out]; rfl), hal.out⟩


theorem notLet (c : Nat) (h : isLetN c = false) : ((c : Int) != 80) = true ∧ ((c : Int) != 76) = true ∧ ((c : Int) != 82) = true := by
  have h' : ¬ (c = 76 ∨ c = 80 ∨ c = 82) := by rw [← isLetN_iff, h]; simp
  refine ⟨?_, ?_, ?_⟩ <;> rw [bne_iff_ne] <;> omega

set_option maxHeartbeats 2000000 in
theorem RIsWalk_any (s : ByteArray) (hs : s.size ≤ maxLen) (w : World) :
    Calls Try.prog 20 #[.string s] w fun e w' => e = .returned (.bool (walkB s)) ∧ w = w' := by
  have hm : maxLen = 9223372036854775807 := rfl
  have HD := Lib.hid (show walkB s = (decide ((s.size : Int) ≤ 60) && (bsN s).all isLetN) by
    unfold walkB; congr 1; rw [Bool.eq_iff_iff, decide_eq_true_eq, decide_eq_true_eq]; omega)
  go_enter Try.func20, Try.ntmps20
  go_wp2
  go_loopw [6] (fun i wr => ∃ k : Nat, k ≤ s.size ∧ i = .int .i64 k ∧ ((bsN s).take k).all isLetN = true ∧ w = wr) (fun i _ => s.size - (intOf i).toNat)
  case atStart => exact ⟨0, Nat.zero_le _, rfl, by simp, rfl⟩
  case round =>
    obtain ⟨k, hk, rfl, hall, rfl⟩ := hrel
    have HA := Lib.hid hall
    clear hall
    by_cases hlt : k < s.size
    · have HT := Lib.hid (bsN_take s k hlt)
      have HM := Lib.hid (show (s[k]'hlt).toNat ∈ bsN s by rw [← bsN_getElem s k hlt]; exact List.getElem_mem _)
      cases hl : isLetN (s[k]'hlt).toNat
      · have HN := Lib.hid (all_false HM.out hl)
        obtain ⟨q1, q2, q3⟩ := notLet _ hl
        clear hl
        go_wp2
        go_ret
        exact ⟨ret_bool (by rw [HD.out, ← HN.out, Bool.and_false]), rfl⟩
      · have HL := Lib.hid hl
        have hc := (isLetN_iff _).1 hl
        clear hl
        rcases hc with hc | hc | hc
        · have q1 : ((((s[k]'hlt).toNat : Int)) != 80) = true := by rw [hc]; rfl
          have q2 : ((((s[k]'hlt).toNat : Int)) != 76) = false := by rw [hc]; rfl
          clear hc
          go_wp2
          go_round
          case rel => exact ⟨k + 1, by omega, by go_num, by rw [HT.out, List.all_append, HA.out]; simp [HL.out], by trivial⟩
          case measure => simp [intOf]; omega
        · have q1 : ((((s[k]'hlt).toNat : Int)) != 80) = false := by rw [hc]; rfl
          clear hc
          go_wp2
          go_round
          case rel => exact ⟨k + 1, by omega, by go_num, by rw [HT.out, List.all_append, HA.out]; simp [HL.out], by trivial⟩
          case measure => simp [intOf]; omega
        · have q1 : ((((s[k]'hlt).toNat : Int)) != 80) = true := by rw [hc]; rfl
          have q2 : ((((s[k]'hlt).toNat : Int)) != 76) = true := by rw [hc]; rfl
          have q3 : ((((s[k]'hlt).toNat : Int)) != 82) = false := by rw [hc]; rfl
          clear hc
          go_wp2
          go_round
          case rel => exact ⟨k + 1, by omega, by go_num, by rw [HT.out, List.all_append, HA.out]; simp [HL.out], by trivial⟩
          case measure => simp [intOf]; omega
    · have HL := Lib.hid (show (bsN s).all isLetN = true by have := HA.out; rwa [List.take_of_length_le (by rw [bsN_length]; omega)] at this)
      go_wp2
      go_ret
      exact ⟨ret_bool (by rw [HD.out, HL.out, Bool.and_true]), rfl⟩

set_option maxHeartbeats 2000000 in
theorem RWalk_any (n a b t : Nat) (hk : KOk n a b) (ht : t < 2 * n) (s : ByteArray) (hs : s.size ≤ maxLen) (w : World) :
    Calls Try.prog 21 #[kv n a b, .int .i64 t, .string s] w fun e w' => e = .returned (.int .i64 (walkN n a b t (bsN s) : Nat)) ∧ Below w.heap.size w w' := by
  have hm : maxLen = 9223372036854775807 := rfl
  obtain ⟨W0, hW0⟩ : ∃ W0, w.alloc (rcells n a b) = W0 := ⟨_, rfl⟩
  have b0 : Below w.heap.size w W0 := by rw [← hW0]; exact (Below.refl _ w).alloc (Nat.le_refl _) _
  have s0 : w.heap.size < W0.heap.size := by rw [← hW0]; simp
  have k0 : W0.cell? ⟨w.heap.size, 0, none⟩ = some (.int .i64 n) := by rw [← hW0]; simp
  have k1 : W0.cell? ⟨w.heap.size, 1, none⟩ = some (.int .i64 a) := by rw [← hW0]; simp
  have k2 : W0.cell? ⟨w.heap.size, 2, none⟩ = some (.int .i64 b) := by rw [← hW0]; simp
  have HW := Lib.hid hW0
  have HS := Lib.hid (fun t c ht hc => RStep_any n a b t c hk ht hc)
  have HLt := Lib.hid (fun t c (ht : t < 2 * n) => step_lt hk t c ht)
  have hmx : Try.prog.follows .mixedOrders = true := by kernel_rfl
  have hn := hk.h16
  clear hW0
  go_enter Try.func21, Try.ntmps21
  go_wp2
  rw [HW.out]
  go_loopw [1, 10] (fun u i wr => ∃ k : Nat, k ≤ s.size ∧ i = .int .i64 k ∧ u = .int .i64 (walkN n a b t ((bsN s).take k) : Nat) ∧ walkN n a b t ((bsN s).take k) < 2 * n ∧ Below W0.heap.size W0 wr) (fun _ i _ => s.size - (intOf i).toNat)
  case atStart => exact ⟨0, Nat.zero_le _, rfl, rfl, ht, Below.refl _ _⟩
  case round =>
    obtain ⟨k, hk', rfl, rfl, hu, hB⟩ := hrel
    have HB := Lib.hid hB
    have c0 := (hB.cell (p := ⟨w.heap.size, 0, none⟩) s0).trans k0
    have c1 := (hB.cell (p := ⟨w.heap.size, 1, none⟩) s0).trans k1
    have c2 := (hB.cell (p := ⟨w.heap.size, 2, none⟩) s0).trans k2
    clear hB k0 k1 k2
    by_cases hlt : k < s.size
    · have HT := Lib.hid (show walkN n a b t ((bsN s).take (k + 1)) = stepN n a b (walkN n a b t ((bsN s).take k)) (s[k]'hlt).toNat by rw [bsN_take s k hlt, walk_append]; rfl)
      have hv := Lib.hid (HLt.out _ (s[k]'hlt).toNat hu)
      have HSt := Lib.hid (fun W => HS.out _ (s[k]'hlt).toNat hu (by have := UInt8.toNat_lt (s[k]'hlt); omega) W)
      generalize walkN n a b t ((bsN s).take k) = v at hu HSt HT hv
      generalize hv' : stepN n a b v (s[k]'hlt).toNat = v' at HSt HT hv
      clear hv'
      go_wp2_with fail
      refine region_calm hmx (by kernel_rfl) ?_
      intro S hSn f hS1 hS2
      have l0 : ∀ z, (f z).cell? ⟨w.heap.size, 0, none⟩ = some (.int .i64 n) := fun z => cell_later (hS1 z) c0
      have l1 : ∀ z, (f z).cell? ⟨w.heap.size, 1, none⟩ = some (.int .i64 a) := fun z => cell_later (hS1 z) c1
      have l2 : ∀ z, (f z).cell? ⟨w.heap.size, 2, none⟩ = some (.int .i64 b) := fun z => cell_later (hS1 z) c2
      have hC1 := Lib.hid (calm_call hS1 hS2 (fun z => HSt.out (f z)))
      repeat (go_big_quiet_step (exact hC1.out _))
      refine wpQuiet_nil ?_
      rintro _ ⟨z, rfl⟩
      have hbs := hS1 z
      generalize f z = w2 at hbs
      clear l0 l1 l2 hC1 hS1 hS2
      try dsimp only [Exit.then]
      go_wp2
      go_roundw
      case rel => exact ⟨k + 1, by omega, by go_num, by rw [HT.out], by rw [HT.out]; exact hv.out, HB.out.trans (hbs.mono HB.out.size)⟩
      case measure => simp [intOf]; omega
    · have hall2 := Lib.hid (show (bsN s).take k = bsN s from List.take_of_length_le (by rw [bsN_length]; omega))
      go_wp2
      go_ret
      exact ⟨ret_int (by rw [hall2.out]), b0.trans (HB.out.mono (by omega))⟩
end Go.Proofs.Ytibkhjbcagihbaa
