/-
  Walk of package triads, awake, and the statement on Walk.
-/
import Derived.Test.YtibkhjbcagihbaaDoorTrFine
namespace Go.Proofs.YtibkhjbcagihbaaDoor
open Go.ChangeShapes Go.WideShapes Go.ChangeAt Go.RowKit
set_option maxRecDepth 100000

/-- A Kind's block, and one triad's behind it. -/
abbrev laid1 (w : World) (n a b t : Int) : World := (w.alloc (kcells n a b)).alloc (.cells #[.int .i64 t] 3)
theorem below_laid1 (w : World) (n a b t : Int) : Below w.heap.size w (laid1 w n a b t) := ((Below.refl w.heap.size w).alloc (Nat.le_refl _) _).alloc (by simp) _

theorem Walk_bad (n a b t : Int) (s : ByteArray) (h : (kindB n a b && triB n t) = false) (w : World) :
    Calls Tryd.prog 25 #[kv n a b, .int .i64 t, .string s] w fun e w' => e = .returned (.tuple #[.int .i64 0, .int .i64 2]) ∧ Below w.heap.size w w' := by
  have HV := Lib.hid (valid1 n a b t false h (w.heap.size + 1) 1 (laid1 w n a b t) (by simp))
  have HA := Lib.hid (below_laid1 w n a b t)
  clear h
  go_enter Tryd.func25, Tryd.ntmps25
  go_wp2_with fail
  refine HV.out.mono ?_
  rintro e w1 ⟨rfl, b1⟩
  go_wp2
  go_ret2
  exact ⟨rfl, below_nx HA.out b1⟩

theorem Walk_form (n a b t : Int) (s : ByteArray) (hs : s.size ≤ maxLen) (h : (kindB n a b && triB n t) = true) (hf : walkB s = false) (w : World) :
    Calls Tryd.prog 25 #[kv n a b, .int .i64 t, .string s] w fun e w' => e = .returned (.tuple #[.int .i64 0, .int .i64 3]) ∧ Below w.heap.size w w' := by
  have HV := Lib.hid (valid1 n a b t true h (w.heap.size + 1) 1 (laid1 w n a b t) (by simp))
  have HA := Lib.hid (below_laid1 w n a b t)
  have HI := Lib.hid (isWalk_any s hs)
  rw [hf] at HI
  clear h hf
  go_enter Tryd.func25, Tryd.ntmps25
  go_wp2_with fail
  refine HV.out.mono ?_
  rintro e w1 ⟨rfl, b1⟩
  have HA1 := Lib.hid (below_nx HA.out b1)
  go_wp2_with fail
  refine (HI.out _).mono ?_
  rintro e w2 ⟨rfl, b2⟩
  go_wp2
  go_ret2
  exact ⟨rfl, below_nx HA1.out b2⟩

theorem walkB_let {s : ByteArray} (h : walkB s = true) : (bsN s).all isLetN = true ∧ s.size ≤ 60 := by
  unfold walkB at h
  rw [Bool.and_eq_true, decide_eq_true_eq] at h
  exact ⟨h.2, h.1⟩

theorem triB_nat {n : Nat} {t : Nat} (h : t < 2 * n) : triB n t = true := by unfold triB; exact decide_eq_true (by omega)

theorem Walk_ok (n a b t : Nat) (hk : KOk n a b) (ht : t < 2 * n) (s : ByteArray) (hs : s.size ≤ maxLen) (hf : walkB s = true) (w : World) :
    Calls Tryd.prog 25 #[kv n a b, .int .i64 t, .string s] w fun e w' => e = .returned (.tuple #[.int .i64 (walkN n a b t (bsN s) : Nat), .int .i64 0]) ∧ Below w.heap.size w w' := by
  have HV := Lib.hid (valid1 n a b t true (by rw [kindB_of_nat hk, triB_nat ht]; rfl) (w.heap.size + 1) 1 (laid1 w n a b t) (by simp))
  have HA := Lib.hid (below_laid1 w n a b t)
  have HI := Lib.hid (isWalk_any s hs)
  have HF := Lib.hid (follow_any n a b t hk ht s hs (walkB_let hf).1)
  have k0 : (laid1 w n a b t).cell? ⟨w.heap.size, 0, none⟩ = some (.int .i64 n) := by simp
  have k1 : (laid1 w n a b t).cell? ⟨w.heap.size, 1, none⟩ = some (.int .i64 a) := by simp
  have k2 : (laid1 w n a b t).cell? ⟨w.heap.size, 2, none⟩ = some (.int .i64 b) := by simp
  rw [hf] at HI
  clear hf
  go_enter Tryd.func25, Tryd.ntmps25
  go_wp2_with fail
  refine HV.out.mono ?_
  rintro e w1 ⟨rfl, b1⟩
  have k0 := cell_later b1 k0
  have k1 := cell_later b1 k1
  have k2 := cell_later b1 k2
  have HA1 := Lib.hid (below_nx HA.out b1)
  go_wp2_with fail
  refine (HI.out _).mono ?_
  rintro e w2 ⟨rfl, b2⟩
  have k0 := cell_later b2 k0
  have k1 := cell_later b2 k1
  have k2 := cell_later b2 k2
  have HA2 := Lib.hid (below_nx HA1.out b2)
  go_wp2_with fail
  refine (HF.out _).mono ?_
  rintro e w3 ⟨rfl, b3⟩
  go_wp2
  go_ret2
  exact ⟨rfl, below_nx HA2.out b3⟩

theorem awake_any (w : World) : Calls Tryd.prog 11 #[] w fun e w' => e = .returned (.bool true) ∧ Below w.heap.size w w' := by
  have HW := Lib.hid (Walk_ok 12 4 7 0 ⟨by omega, by omega, by omega, by omega, by omega, by omega, by omega, by omega⟩ (by omega) ⟨#[80]⟩ (by unfold maxLen; decide) (by decide +kernel))
  have e : ((walkN 12 4 7 0 (bsN ⟨#[80]⟩) : Nat) : Int) = 19 := by decide +kernel
  rw [e] at HW
  clear e
  go_enter Tryd.func11, Tryd.ntmps11
  go_wp2_with fail
  refine (HW.out _).mono ?_
  rintro e w1 ⟨rfl, b1⟩
  go_wp2
  go_ret
  exact ⟨rfl, b1⟩

theorem text_walk (s : ByteArray) : walkB (s.extract 0 (min s.size 70)) = walkB s ∧ (walkB s = true → s.extract 0 (min s.size 70) = s) := by
  by_cases h : s.size ≤ 70
  · have e : s.extract 0 (min s.size 70) = s := by rw [Nat.min_eq_left h, ByteArray.extract_zero_size]
    rw [e]; exact ⟨rfl, fun _ => rfl⟩
  · have e : walkB s = false := by unfold walkB; rw [decide_eq_false (by omega)]; rfl
    refine ⟨?_, fun h => by rw [e] at h; cases h⟩
    rw [e]; unfold walkB
    rw [decide_eq_false (by rw [ByteArray.size_extract]; omega)]; rfl

theorem text_size (s : ByteArray) (hs : s.size ≤ maxLen) : (s.extract 0 (min s.size 70)).size ≤ maxLen := by
  rw [ByteArray.size_extract]; unfold maxLen at *; omega

/-- The reference's Kind's block, and one triad's behind it. -/
abbrev rlaid1 (w : World) (n a b t : Int) : World := (w.alloc (rcells n a b)).alloc (.cells #[.int .i64 t] 3)

theorem fine1 (n a b t : Int) (v : Bool) (h : (kindB n a b && triB n t) = v) (bk cap : Nat) (w : World) (hc : w.cell? ⟨bk, 0, none⟩ = some (.int .i64 t)) :
    Calls Tryd.prog 8 #[kv n a b, .slice (some ⟨bk, 0, none⟩) 1 cap] w fun e w' => e = .returned (.bool v) ∧ Below w.heap.size w w' := by
  refine (fine_any n a b [t] bk cap w (by simp) (fun i hi => ?_)).mono ?_
  · obtain rfl : i = 0 := by simpa using hi
    exact hc
  · rintro e w' ⟨rfl, hb⟩
    exact ⟨ret_bool (by rw [← h]; simp), hb⟩

end Go.Proofs.YtibkhjbcagihbaaDoor
