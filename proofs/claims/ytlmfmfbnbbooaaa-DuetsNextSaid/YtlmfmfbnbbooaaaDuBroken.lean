/-
  The reference's rules at a place, first part.
-/
import Derived.Test.YtlmfmfbnbbooaaaDuBrkA
namespace Go.Proofs.Ytlmfmfbnbbooaaa

section
open Go.ChangeShapes Go.WideShapes Go.ChangeAt Go.RowKit
set_option maxRecDepth 100000

set_option maxHeartbeats 40000000 in
theorem RBr_1 (i Lg Ls : Nat) (x y x1 y1 y2 v rv ru m am p gm : Int) (b1 o1 c1 b2 o2 c2 : Nat) (w : World) (hi : i < Ls) (hig : i < Lg) (g8 : Lg ≤ 8) (nx : 0 ≤ x ∧ x ≤ 20) (ny : 0 ≤ y ∧ y ≤ 20) (nx1 : 0 ≤ x1 ∧ x1 ≤ 20) (ny1 : 0 ≤ y1 ∧ y1 ≤ 20) (ny2 : 0 ≤ y2 ∧ y2 ≤ 20)
    (a1 : w.cell? ⟨b1, o1 + i, none⟩ = some (.int .i64 x)) (a2 : w.cell? ⟨b2, o2 + i, none⟩ = some (.int .i64 y)) (a3 : w.cell? ⟨b1, o1 + (i - 1), none⟩ = some (.int .i64 x1)) (a4 : w.cell? ⟨b2, o2 + (i - 1), none⟩ = some (.int .i64 y1)) (a5 : w.cell? ⟨b2, o2 + (i - 1 - 1), none⟩ = some (.int .i64 y2))
    (hv : y - x = v) (hrv : v % 7 = rv) (hru : (y1 - x1) % 7 = ru) (hm : y - y1 = m) (ham : absI m = am) (hgm : x - x1 = gm) (hp : y1 - y2 = p) (hcl : (v < 0 ∨ 14 < v)) :
    Calls Try.prog 85 #[.slice (some ⟨b1, o1, none⟩) Lg c1, .slice (some ⟨b2, o2, none⟩) Ls c2, .int .i64 (i : Int)] w fun e w' => e = .returned (.int .i64 (brk v rv ru m am p gm i Lg : Nat)) ∧ ∃ q, w' = w.drewN q := by
  have HCL := Lib.hid hcl
  clear hcl
  have HOv := Lib.hid (fun W => ropen_any v (by omega) W)
  have HOu := Lib.hid (fun W => ropen_any (y1 - x1) (by omega) W)
  have HSv := Lib.hid (fun W => rsort_any v (by omega) W)
  have HSu := Lib.hid (fun W => rsort_any (y1 - x1) (by omega) W)
  have HAm := Lib.hid (fun W => rabs_any m (by omega) W)
  rw [show openB v = decide (v % 7 = 0 ∨ v % 7 = 4) from rfl, hrv] at HOv
  rw [show openB (y1 - x1) = decide ((y1 - x1) % 7 = 0 ∨ (y1 - x1) % 7 = 4) from rfl, hru] at HOu
  rw [hrv] at HSv
  rw [hru] at HSu
  rw [ham] at HAm
  have HTv := Lib.hid (show 0 ≤ v → v.tmod 7 = rv from fun h => by rw [← hrv]; exact Int.tmod_eq_emod_of_nonneg h)
  have HVe := Lib.hid hv
  have HMe := Lib.hid hm
  have HGe := Lib.hid hgm
  have HPe := Lib.hid hp
  have hmb : -20 ≤ m ∧ m ≤ 20 := by omega
  have hpb : -20 ≤ p ∧ p ≤ 20 := by omega
  obtain ⟨u, hu⟩ : ∃ u, y1 - x1 = u := ⟨_, rfl⟩
  have HUe := Lib.hid hu
  rw [hu] at HOu HSu
  have hvb : -20 ≤ v ∧ v ≤ 20 := by omega
  clear hv hrv hru hm ham hgm hp hu
  obtain ⟨bk, hbk⟩ : ∃ bk, brk v rv ru m am p gm i Lg = bk := ⟨_, rfl⟩
  have HBK := Lib.hid hbk
  rw [hbk]
  clear hbk
  go_enter Try.func85, Try.ntmps85
  go_upto_region 1 with fail
  go_quiet (fail)
  obtain ⟨w1, hw1⟩ : ∃ W, w.drewN nq = W := ⟨_, rfl⟩
  have HW1 := Lib.hid (show ∃ q, w1 = w.drewN q from ⟨_, hw1.symm⟩)
  have k1 : ∀ a v, w.cell? a = some v → w1.cell? a = some v := fun a v e => by rw [← hw1]; exact e
  have a3 := k1 _ _ a3
  have a4 := k1 _ _ a4
  have a5 := k1 _ _ a5
  have a1 := k1 _ _ a1
  have a2 := k1 _ _ a2
  rw [hw1, HVe.out]
  clear hw1 k1
  have n1 : v < 0 ∨ 14 < v := by have := HCL.out; omega
  go_upto_region 2 with fail
  go_cut [2, 6, 7, 26] from 12 to 26 (fun s2 s6 s7 c wx => s2 = .int .i64 (i : Int) ∧ s6 = .int .i64 0 ∧ s7 = .int .i64 v ∧ c = .bool (decide (v < 0 ∨ 14 < v)) ∧ w1 = wx)
  case first =>
    by_cases q1 : v < 0
    · have q1b0 : (decide (v < 0)) = true := decide_eq_true q1
      first
      | (exfalso; omega)
      | (go_wp2_with fail; all_goals (try go_meet); all_goals exact ⟨(by first | rfl | exact congrArg (Value.int .i64) (by omega)), (by first | rfl | exact congrArg (Value.int .i64) (by omega)), (by first | rfl | exact congrArg (Value.int .i64) (by omega)), congrArg Value.bool (by first | exact (decide_eq_true (p := v < 0 ∨ 14 < v) (by omega)).symm | exact (decide_eq_false (p := v < 0 ∨ 14 < v) (by omega)).symm), rfl⟩)
    · have q1b0 : (decide (v < 0)) = false := decide_eq_false q1
      by_cases q2 : 14 < v
      · have q2b0 : (decide (14 < v)) = true := decide_eq_true q2
        first
        | (exfalso; omega)
        | (go_wp2_with fail; all_goals (try go_meet); all_goals exact ⟨(by first | rfl | exact congrArg (Value.int .i64) (by omega)), (by first | rfl | exact congrArg (Value.int .i64) (by omega)), (by first | rfl | exact congrArg (Value.int .i64) (by omega)), congrArg Value.bool (by first | exact (decide_eq_true (p := v < 0 ∨ 14 < v) (by omega)).symm | exact (decide_eq_false (p := v < 0 ∨ 14 < v) (by omega)).symm), rfl⟩)
      · have q2b0 : (decide (14 < v)) = false := decide_eq_false q2
        first
        | (exfalso; omega)
        | (go_wp2_with fail; all_goals (try go_meet); all_goals exact ⟨(by first | rfl | exact congrArg (Value.int .i64) (by omega)), (by first | rfl | exact congrArg (Value.int .i64) (by omega)), (by first | rfl | exact congrArg (Value.int .i64) (by omega)), congrArg Value.bool (by first | exact (decide_eq_true (p := v < 0 ∨ 14 < v) (by omega)).symm | exact (decide_eq_false (p := v < 0 ∨ 14 < v) (by omega)).symm), rfl⟩)
  case rest =>
    obtain ⟨rfl, rfl, rfl, rfl, rfl⟩ := hcut
    have hd := decide_eq_true n1
    rw [hd]
    clear hd
    go_wp2
    go_ret
    exact ⟨ret_int (by rw [← HBK.out]; unfold brk; rw [if_pos n1]; rfl), HW1.out⟩

set_option maxHeartbeats 40000000 in
theorem RBr_2 (i Lg Ls : Nat) (x y x1 y1 y2 v rv ru m am p gm : Int) (b1 o1 c1 b2 o2 c2 : Nat) (w : World) (hi : i < Ls) (hig : i < Lg) (g8 : Lg ≤ 8) (nx : 0 ≤ x ∧ x ≤ 20) (ny : 0 ≤ y ∧ y ≤ 20) (nx1 : 0 ≤ x1 ∧ x1 ≤ 20) (ny1 : 0 ≤ y1 ∧ y1 ≤ 20) (ny2 : 0 ≤ y2 ∧ y2 ≤ 20)
    (a1 : w.cell? ⟨b1, o1 + i, none⟩ = some (.int .i64 x)) (a2 : w.cell? ⟨b2, o2 + i, none⟩ = some (.int .i64 y)) (a3 : w.cell? ⟨b1, o1 + (i - 1), none⟩ = some (.int .i64 x1)) (a4 : w.cell? ⟨b2, o2 + (i - 1), none⟩ = some (.int .i64 y1)) (a5 : w.cell? ⟨b2, o2 + (i - 1 - 1), none⟩ = some (.int .i64 y2))
    (hv : y - x = v) (hrv : v % 7 = rv) (hru : (y1 - x1) % 7 = ru) (hm : y - y1 = m) (ham : absI m = am) (hgm : x - x1 = gm) (hp : y1 - y2 = p) (hcl : (¬ (v < 0 ∨ 14 < v)) ∧ (¬ (rv = 0 ∨ rv = 4) ∧ rv ≠ 2 ∧ rv ≠ 5)) :
    Calls Try.prog 85 #[.slice (some ⟨b1, o1, none⟩) Lg c1, .slice (some ⟨b2, o2, none⟩) Ls c2, .int .i64 (i : Int)] w fun e w' => e = .returned (.int .i64 (brk v rv ru m am p gm i Lg : Nat)) ∧ ∃ q, w' = w.drewN q := by
  have HCL := Lib.hid hcl
  clear hcl
  have HOv := Lib.hid (fun W => ropen_any v (by omega) W)
  have HOu := Lib.hid (fun W => ropen_any (y1 - x1) (by omega) W)
  have HSv := Lib.hid (fun W => rsort_any v (by omega) W)
  have HSu := Lib.hid (fun W => rsort_any (y1 - x1) (by omega) W)
  have HAm := Lib.hid (fun W => rabs_any m (by omega) W)
  rw [show openB v = decide (v % 7 = 0 ∨ v % 7 = 4) from rfl, hrv] at HOv
  rw [show openB (y1 - x1) = decide ((y1 - x1) % 7 = 0 ∨ (y1 - x1) % 7 = 4) from rfl, hru] at HOu
  rw [hrv] at HSv
  rw [hru] at HSu
  rw [ham] at HAm
  have HTv := Lib.hid (show 0 ≤ v → v.tmod 7 = rv from fun h => by rw [← hrv]; exact Int.tmod_eq_emod_of_nonneg h)
  have HVe := Lib.hid hv
  have HMe := Lib.hid hm
  have HGe := Lib.hid hgm
  have HPe := Lib.hid hp
  have hmb : -20 ≤ m ∧ m ≤ 20 := by omega
  have hpb : -20 ≤ p ∧ p ≤ 20 := by omega
  obtain ⟨u, hu⟩ : ∃ u, y1 - x1 = u := ⟨_, rfl⟩
  have HUe := Lib.hid hu
  rw [hu] at HOu HSu
  have hvb : -20 ≤ v ∧ v ≤ 20 := by omega
  clear hv hrv hru hm ham hgm hp hu
  obtain ⟨bk, hbk⟩ : ∃ bk, brk v rv ru m am p gm i Lg = bk := ⟨_, rfl⟩
  have HBK := Lib.hid hbk
  rw [hbk]
  clear hbk
  go_enter Try.func85, Try.ntmps85
  go_upto_region 1 with fail
  go_quiet (fail)
  obtain ⟨w1, hw1⟩ : ∃ W, w.drewN nq = W := ⟨_, rfl⟩
  have HW1 := Lib.hid (show ∃ q, w1 = w.drewN q from ⟨_, hw1.symm⟩)
  have k1 : ∀ a v, w.cell? a = some v → w1.cell? a = some v := fun a v e => by rw [← hw1]; exact e
  have a3 := k1 _ _ a3
  have a4 := k1 _ _ a4
  have a5 := k1 _ _ a5
  have a1 := k1 _ _ a1
  have a2 := k1 _ _ a2
  rw [hw1, HVe.out]
  clear hw1 k1
  have n1 : ¬ (v < 0 ∨ 14 < v) := by have := HCL.out; omega
  go_upto_region 2 with fail
  go_cut [2, 6, 7, 26] from 12 to 26 (fun s2 s6 s7 c wx => s2 = .int .i64 (i : Int) ∧ s6 = .int .i64 0 ∧ s7 = .int .i64 v ∧ c = .bool (decide (v < 0 ∨ 14 < v)) ∧ w1 = wx)
  case first =>
    by_cases q3 : v < 0
    · have q3b0 : (decide (v < 0)) = true := decide_eq_true q3
      first
      | (exfalso; omega)
      | (go_wp2_with fail; all_goals (try go_meet); all_goals exact ⟨(by first | rfl | exact congrArg (Value.int .i64) (by omega)), (by first | rfl | exact congrArg (Value.int .i64) (by omega)), (by first | rfl | exact congrArg (Value.int .i64) (by omega)), congrArg Value.bool (by first | exact (decide_eq_true (p := v < 0 ∨ 14 < v) (by omega)).symm | exact (decide_eq_false (p := v < 0 ∨ 14 < v) (by omega)).symm), rfl⟩)
    · have q3b0 : (decide (v < 0)) = false := decide_eq_false q3
      by_cases q4 : 14 < v
      · have q4b0 : (decide (14 < v)) = true := decide_eq_true q4
        first
        | (exfalso; omega)
        | (go_wp2_with fail; all_goals (try go_meet); all_goals exact ⟨(by first | rfl | exact congrArg (Value.int .i64) (by omega)), (by first | rfl | exact congrArg (Value.int .i64) (by omega)), (by first | rfl | exact congrArg (Value.int .i64) (by omega)), congrArg Value.bool (by first | exact (decide_eq_true (p := v < 0 ∨ 14 < v) (by omega)).symm | exact (decide_eq_false (p := v < 0 ∨ 14 < v) (by omega)).symm), rfl⟩)
      · have q4b0 : (decide (14 < v)) = false := decide_eq_false q4
        first
        | (exfalso; omega)
        | (go_wp2_with fail; all_goals (try go_meet); all_goals exact ⟨(by first | rfl | exact congrArg (Value.int .i64) (by omega)), (by first | rfl | exact congrArg (Value.int .i64) (by omega)), (by first | rfl | exact congrArg (Value.int .i64) (by omega)), congrArg Value.bool (by first | exact (decide_eq_true (p := v < 0 ∨ 14 < v) (by omega)).symm | exact (decide_eq_false (p := v < 0 ∨ 14 < v) (by omega)).symm), rfl⟩)
  case rest =>
    obtain ⟨rfl, rfl, rfl, rfl, rfl⟩ := hcut
    have hd := decide_eq_false n1
    rw [hd]
    clear hd
    have n2 : ¬ (rv = 0 ∨ rv = 4) ∧ rv ≠ 2 ∧ rv ≠ 5 := by have := HCL.out; omega
    go_upto_region 4 with fail
    go_cut [2, 6, 7, 39] from 27 to 39 (fun s2 s6 s7 c wx => s2 = .int .i64 (i : Int) ∧ s6 = .int .i64 0 ∧ s7 = .int .i64 v ∧ c = .bool (decide (¬ (rv = 0 ∨ rv = 4) ∧ rv ≠ 2 ∧ rv ≠ 5)) ∧ w1 = wx)
    case first =>
      by_cases q5 : rv = 0 ∨ rv = 4
      · have q5b0 : (decide (rv = 0 ∨ rv = 4)) = true := decide_eq_true q5
        first
        | (exfalso; omega)
        | (go_wp2_with fail; refine (HOv.out _).mono ?_; rintro e wz ⟨rfl, rfl⟩; go_wp2_with fail; all_goals (try go_meet); all_goals exact ⟨(by first | rfl | exact congrArg (Value.int .i64) (by omega)), (by first | rfl | exact congrArg (Value.int .i64) (by omega)), (by first | rfl | exact congrArg (Value.int .i64) (by omega)), congrArg Value.bool (by first | exact (decide_eq_true (p := ¬ (rv = 0 ∨ rv = 4) ∧ rv ≠ 2 ∧ rv ≠ 5) (by omega)).symm | exact (decide_eq_false (p := ¬ (rv = 0 ∨ rv = 4) ∧ rv ≠ 2 ∧ rv ≠ 5) (by omega)).symm), rfl⟩)
      · have q5b0 : (decide (rv = 0 ∨ rv = 4)) = false := decide_eq_false q5
        by_cases q6 : rv = 2
        · have q6b0 : (rv != 2) = false := bne_eq_false_iff_eq.2 q6
          first
          | (exfalso; omega)
          | (go_wp2_with fail; refine (HOv.out _).mono ?_; rintro e wz ⟨rfl, rfl⟩; go_wp2_with fail; refine (HSv.out _).mono ?_; rintro e wz ⟨rfl, rfl⟩; go_wp2_with fail; all_goals (try go_meet); all_goals exact ⟨(by first | rfl | exact congrArg (Value.int .i64) (by omega)), (by first | rfl | exact congrArg (Value.int .i64) (by omega)), (by first | rfl | exact congrArg (Value.int .i64) (by omega)), congrArg Value.bool (by first | exact (decide_eq_true (p := ¬ (rv = 0 ∨ rv = 4) ∧ rv ≠ 2 ∧ rv ≠ 5) (by omega)).symm | exact (decide_eq_false (p := ¬ (rv = 0 ∨ rv = 4) ∧ rv ≠ 2 ∧ rv ≠ 5) (by omega)).symm), rfl⟩)
        · have q6b0 : (rv != 2) = true := bne_iff_ne.2 q6
          by_cases q7 : rv = 5
          · have q7b0 : (rv != 5) = false := bne_eq_false_iff_eq.2 q7
            first
            | (exfalso; omega)
            | (go_wp2_with fail; refine (HOv.out _).mono ?_; rintro e wz ⟨rfl, rfl⟩; go_wp2_with fail; refine (HSv.out _).mono ?_; rintro e wz ⟨rfl, rfl⟩; go_wp2_with fail; refine (HSv.out _).mono ?_; rintro e wz ⟨rfl, rfl⟩; go_wp2_with fail; all_goals (try go_meet); all_goals exact ⟨(by first | rfl | exact congrArg (Value.int .i64) (by omega)), (by first | rfl | exact congrArg (Value.int .i64) (by omega)), (by first | rfl | exact congrArg (Value.int .i64) (by omega)), congrArg Value.bool (by first | exact (decide_eq_true (p := ¬ (rv = 0 ∨ rv = 4) ∧ rv ≠ 2 ∧ rv ≠ 5) (by omega)).symm | exact (decide_eq_false (p := ¬ (rv = 0 ∨ rv = 4) ∧ rv ≠ 2 ∧ rv ≠ 5) (by omega)).symm), rfl⟩)
          · have q7b0 : (rv != 5) = true := bne_iff_ne.2 q7
            first
            | (exfalso; omega)
            | (go_wp2_with fail; refine (HOv.out _).mono ?_; rintro e wz ⟨rfl, rfl⟩; go_wp2_with fail; refine (HSv.out _).mono ?_; rintro e wz ⟨rfl, rfl⟩; go_wp2_with fail; refine (HSv.out _).mono ?_; rintro e wz ⟨rfl, rfl⟩; go_wp2_with fail; all_goals (try go_meet); all_goals exact ⟨(by first | rfl | exact congrArg (Value.int .i64) (by omega)), (by first | rfl | exact congrArg (Value.int .i64) (by omega)), (by first | rfl | exact congrArg (Value.int .i64) (by omega)), congrArg Value.bool (by first | exact (decide_eq_true (p := ¬ (rv = 0 ∨ rv = 4) ∧ rv ≠ 2 ∧ rv ≠ 5) (by omega)).symm | exact (decide_eq_false (p := ¬ (rv = 0 ∨ rv = 4) ∧ rv ≠ 2 ∧ rv ≠ 5) (by omega)).symm), rfl⟩)
    case rest =>
      obtain ⟨rfl, rfl, rfl, rfl, rfl⟩ := hcut
      have hd := decide_eq_true n2
      rw [hd]
      clear hd
      go_wp2
      go_ret
      exact ⟨ret_int (by rw [← HBK.out]; unfold brk; rw [if_neg n1, if_pos n2]; rfl), HW1.out⟩

set_option maxHeartbeats 40000000 in
theorem RBr_3 (i Lg Ls : Nat) (x y x1 y1 y2 v rv ru m am p gm : Int) (b1 o1 c1 b2 o2 c2 : Nat) (w : World) (hi : i < Ls) (hig : i < Lg) (g8 : Lg ≤ 8) (nx : 0 ≤ x ∧ x ≤ 20) (ny : 0 ≤ y ∧ y ≤ 20) (nx1 : 0 ≤ x1 ∧ x1 ≤ 20) (ny1 : 0 ≤ y1 ∧ y1 ≤ 20) (ny2 : 0 ≤ y2 ∧ y2 ≤ 20)
    (a1 : w.cell? ⟨b1, o1 + i, none⟩ = some (.int .i64 x)) (a2 : w.cell? ⟨b2, o2 + i, none⟩ = some (.int .i64 y)) (a3 : w.cell? ⟨b1, o1 + (i - 1), none⟩ = some (.int .i64 x1)) (a4 : w.cell? ⟨b2, o2 + (i - 1), none⟩ = some (.int .i64 y1)) (a5 : w.cell? ⟨b2, o2 + (i - 1 - 1), none⟩ = some (.int .i64 y2))
    (hv : y - x = v) (hrv : v % 7 = rv) (hru : (y1 - x1) % 7 = ru) (hm : y - y1 = m) (ham : absI m = am) (hgm : x - x1 = gm) (hp : y1 - y2 = p) (hcl : (¬ (v < 0 ∨ 14 < v)) ∧ (¬ (¬ (rv = 0 ∨ rv = 4) ∧ rv ≠ 2 ∧ rv ≠ 5)) ∧ ((i + 1 = Lg ∧ rv ≠ 0) ∨ (i = 0 ∧ rv ≠ 0 ∧ rv ≠ 4))) :
    Calls Try.prog 85 #[.slice (some ⟨b1, o1, none⟩) Lg c1, .slice (some ⟨b2, o2, none⟩) Ls c2, .int .i64 (i : Int)] w fun e w' => e = .returned (.int .i64 (brk v rv ru m am p gm i Lg : Nat)) ∧ ∃ q, w' = w.drewN q := by
  have HCL := Lib.hid hcl
  clear hcl
  have HOv := Lib.hid (fun W => ropen_any v (by omega) W)
  have HOu := Lib.hid (fun W => ropen_any (y1 - x1) (by omega) W)
  have HSv := Lib.hid (fun W => rsort_any v (by omega) W)
  have HSu := Lib.hid (fun W => rsort_any (y1 - x1) (by omega) W)
  have HAm := Lib.hid (fun W => rabs_any m (by omega) W)
  rw [show openB v = decide (v % 7 = 0 ∨ v % 7 = 4) from rfl, hrv] at HOv
  rw [show openB (y1 - x1) = decide ((y1 - x1) % 7 = 0 ∨ (y1 - x1) % 7 = 4) from rfl, hru] at HOu
  rw [hrv] at HSv
  rw [hru] at HSu
  rw [ham] at HAm
  have HTv := Lib.hid (show 0 ≤ v → v.tmod 7 = rv from fun h => by rw [← hrv]; exact Int.tmod_eq_emod_of_nonneg h)
  have HVe := Lib.hid hv
  have HMe := Lib.hid hm
  have HGe := Lib.hid hgm
  have HPe := Lib.hid hp
  have hmb : -20 ≤ m ∧ m ≤ 20 := by omega
  have hpb : -20 ≤ p ∧ p ≤ 20 := by omega
  obtain ⟨u, hu⟩ : ∃ u, y1 - x1 = u := ⟨_, rfl⟩
  have HUe := Lib.hid hu
  rw [hu] at HOu HSu
  have hvb : -20 ≤ v ∧ v ≤ 20 := by omega
  clear hv hrv hru hm ham hgm hp hu
  obtain ⟨bk, hbk⟩ : ∃ bk, brk v rv ru m am p gm i Lg = bk := ⟨_, rfl⟩
  have HBK := Lib.hid hbk
  rw [hbk]
  clear hbk
  go_enter Try.func85, Try.ntmps85
  go_upto_region 1 with fail
  go_quiet (fail)
  obtain ⟨w1, hw1⟩ : ∃ W, w.drewN nq = W := ⟨_, rfl⟩
  have HW1 := Lib.hid (show ∃ q, w1 = w.drewN q from ⟨_, hw1.symm⟩)
  have k1 : ∀ a v, w.cell? a = some v → w1.cell? a = some v := fun a v e => by rw [← hw1]; exact e
  have a3 := k1 _ _ a3
  have a4 := k1 _ _ a4
  have a5 := k1 _ _ a5
  have a1 := k1 _ _ a1
  have a2 := k1 _ _ a2
  rw [hw1, HVe.out]
  clear hw1 k1
  have n1 : ¬ (v < 0 ∨ 14 < v) := by have := HCL.out; omega
  go_upto_region 2 with fail
  go_cut [2, 6, 7, 26] from 12 to 26 (fun s2 s6 s7 c wx => s2 = .int .i64 (i : Int) ∧ s6 = .int .i64 0 ∧ s7 = .int .i64 v ∧ c = .bool (decide (v < 0 ∨ 14 < v)) ∧ w1 = wx)
  case first =>
    by_cases q8 : v < 0
    · have q8b0 : (decide (v < 0)) = true := decide_eq_true q8
      first
      | (exfalso; omega)
      | (go_wp2_with fail; all_goals (try go_meet); all_goals exact ⟨(by first | rfl | exact congrArg (Value.int .i64) (by omega)), (by first | rfl | exact congrArg (Value.int .i64) (by omega)), (by first | rfl | exact congrArg (Value.int .i64) (by omega)), congrArg Value.bool (by first | exact (decide_eq_true (p := v < 0 ∨ 14 < v) (by omega)).symm | exact (decide_eq_false (p := v < 0 ∨ 14 < v) (by omega)).symm), rfl⟩)
    · have q8b0 : (decide (v < 0)) = false := decide_eq_false q8
      by_cases q9 : 14 < v
      · have q9b0 : (decide (14 < v)) = true := decide_eq_true q9
        first
        | (exfalso; omega)
        | (go_wp2_with fail; all_goals (try go_meet); all_goals exact ⟨(by first | rfl | exact congrArg (Value.int .i64) (by omega)), (by first | rfl | exact congrArg (Value.int .i64) (by omega)), (by first | rfl | exact congrArg (Value.int .i64) (by omega)), congrArg Value.bool (by first | exact (decide_eq_true (p := v < 0 ∨ 14 < v) (by omega)).symm | exact (decide_eq_false (p := v < 0 ∨ 14 < v) (by omega)).symm), rfl⟩)
      · have q9b0 : (decide (14 < v)) = false := decide_eq_false q9
        first
        | (exfalso; omega)
        | (go_wp2_with fail; all_goals (try go_meet); all_goals exact ⟨(by first | rfl | exact congrArg (Value.int .i64) (by omega)), (by first | rfl | exact congrArg (Value.int .i64) (by omega)), (by first | rfl | exact congrArg (Value.int .i64) (by omega)), congrArg Value.bool (by first | exact (decide_eq_true (p := v < 0 ∨ 14 < v) (by omega)).symm | exact (decide_eq_false (p := v < 0 ∨ 14 < v) (by omega)).symm), rfl⟩)
  case rest =>
    obtain ⟨rfl, rfl, rfl, rfl, rfl⟩ := hcut
    have hd := decide_eq_false n1
    rw [hd]
    clear hd
    have n2 : ¬ (¬ (rv = 0 ∨ rv = 4) ∧ rv ≠ 2 ∧ rv ≠ 5) := by have := HCL.out; omega
    go_upto_region 4 with fail
    go_cut [2, 6, 7, 39] from 27 to 39 (fun s2 s6 s7 c wx => s2 = .int .i64 (i : Int) ∧ s6 = .int .i64 0 ∧ s7 = .int .i64 v ∧ c = .bool (decide (¬ (rv = 0 ∨ rv = 4) ∧ rv ≠ 2 ∧ rv ≠ 5)) ∧ w1 = wx)
    case first =>
      by_cases q10 : rv = 0 ∨ rv = 4
      · have q10b0 : (decide (rv = 0 ∨ rv = 4)) = true := decide_eq_true q10
        first
        | (exfalso; omega)
        | (go_wp2_with fail; refine (HOv.out _).mono ?_; rintro e wz ⟨rfl, rfl⟩; go_wp2_with fail; all_goals (try go_meet); all_goals exact ⟨(by first | rfl | exact congrArg (Value.int .i64) (by omega)), (by first | rfl | exact congrArg (Value.int .i64) (by omega)), (by first | rfl | exact congrArg (Value.int .i64) (by omega)), congrArg Value.bool (by first | exact (decide_eq_true (p := ¬ (rv = 0 ∨ rv = 4) ∧ rv ≠ 2 ∧ rv ≠ 5) (by omega)).symm | exact (decide_eq_false (p := ¬ (rv = 0 ∨ rv = 4) ∧ rv ≠ 2 ∧ rv ≠ 5) (by omega)).symm), rfl⟩)
      · have q10b0 : (decide (rv = 0 ∨ rv = 4)) = false := decide_eq_false q10
        by_cases q11 : rv = 2
        · have q11b0 : (rv != 2) = false := bne_eq_false_iff_eq.2 q11
          first
          | (exfalso; omega)
          | (go_wp2_with fail; refine (HOv.out _).mono ?_; rintro e wz ⟨rfl, rfl⟩; go_wp2_with fail; refine (HSv.out _).mono ?_; rintro e wz ⟨rfl, rfl⟩; go_wp2_with fail; all_goals (try go_meet); all_goals exact ⟨(by first | rfl | exact congrArg (Value.int .i64) (by omega)), (by first | rfl | exact congrArg (Value.int .i64) (by omega)), (by first | rfl | exact congrArg (Value.int .i64) (by omega)), congrArg Value.bool (by first | exact (decide_eq_true (p := ¬ (rv = 0 ∨ rv = 4) ∧ rv ≠ 2 ∧ rv ≠ 5) (by omega)).symm | exact (decide_eq_false (p := ¬ (rv = 0 ∨ rv = 4) ∧ rv ≠ 2 ∧ rv ≠ 5) (by omega)).symm), rfl⟩)
        · have q11b0 : (rv != 2) = true := bne_iff_ne.2 q11
          by_cases q12 : rv = 5
          · have q12b0 : (rv != 5) = false := bne_eq_false_iff_eq.2 q12
            first
            | (exfalso; omega)
            | (go_wp2_with fail; refine (HOv.out _).mono ?_; rintro e wz ⟨rfl, rfl⟩; go_wp2_with fail; refine (HSv.out _).mono ?_; rintro e wz ⟨rfl, rfl⟩; go_wp2_with fail; refine (HSv.out _).mono ?_; rintro e wz ⟨rfl, rfl⟩; go_wp2_with fail; all_goals (try go_meet); all_goals exact ⟨(by first | rfl | exact congrArg (Value.int .i64) (by omega)), (by first | rfl | exact congrArg (Value.int .i64) (by omega)), (by first | rfl | exact congrArg (Value.int .i64) (by omega)), congrArg Value.bool (by first | exact (decide_eq_true (p := ¬ (rv = 0 ∨ rv = 4) ∧ rv ≠ 2 ∧ rv ≠ 5) (by omega)).symm | exact (decide_eq_false (p := ¬ (rv = 0 ∨ rv = 4) ∧ rv ≠ 2 ∧ rv ≠ 5) (by omega)).symm), rfl⟩)
          · have q12b0 : (rv != 5) = true := bne_iff_ne.2 q12
            first
            | (exfalso; omega)
            | (go_wp2_with fail; refine (HOv.out _).mono ?_; rintro e wz ⟨rfl, rfl⟩; go_wp2_with fail; refine (HSv.out _).mono ?_; rintro e wz ⟨rfl, rfl⟩; go_wp2_with fail; refine (HSv.out _).mono ?_; rintro e wz ⟨rfl, rfl⟩; go_wp2_with fail; all_goals (try go_meet); all_goals exact ⟨(by first | rfl | exact congrArg (Value.int .i64) (by omega)), (by first | rfl | exact congrArg (Value.int .i64) (by omega)), (by first | rfl | exact congrArg (Value.int .i64) (by omega)), congrArg Value.bool (by first | exact (decide_eq_true (p := ¬ (rv = 0 ∨ rv = 4) ∧ rv ≠ 2 ∧ rv ≠ 5) (by omega)).symm | exact (decide_eq_false (p := ¬ (rv = 0 ∨ rv = 4) ∧ rv ≠ 2 ∧ rv ≠ 5) (by omega)).symm), rfl⟩)
    case rest =>
      obtain ⟨rfl, rfl, rfl, rfl, rfl⟩ := hcut
      have hd := decide_eq_false n2
      rw [hd]
      clear hd
      have hv0 : 0 ≤ v := by omega
      have htv := HTv.out hv0
      have n3 : (i + 1 = Lg ∧ rv ≠ 0) ∨ (i = 0 ∧ rv ≠ 0 ∧ rv ≠ 4) := by have := HCL.out; omega
      go_upto_region 6 with fail
      go_cut [2, 6, 7, 63] from 40 to 63 (fun s2 s6 s7 c wx => s2 = .int .i64 (i : Int) ∧ s6 = .int .i64 0 ∧ s7 = .int .i64 v ∧ c = .bool (decide ((i + 1 = Lg ∧ rv ≠ 0) ∨ (i = 0 ∧ rv ≠ 0 ∧ rv ≠ 4))) ∧ w1 = wx)
      case first =>
        by_cases q13 : i + 1 = Lg
        · have q13b0 : ((i : Int) == (Lg : Int) - 1) = true := beq_iff_eq.2 (by omega)
          by_cases q14 : rv = 0
          · have q14b0 : (rv != 0) = false := bne_eq_false_iff_eq.2 q14
            by_cases q15 : i = 0
            · have q15b0 : ((i : Int) == 0) = true := beq_iff_eq.2 (by omega)
              first
              | (exfalso; omega)
              | (go_wp2_with fail; all_goals (try go_meet); all_goals exact ⟨(by first | rfl | exact congrArg (Value.int .i64) (by omega)), (by first | rfl | exact congrArg (Value.int .i64) (by omega)), (by first | rfl | exact congrArg (Value.int .i64) (by omega)), congrArg Value.bool (by first | exact (decide_eq_true (p := (i + 1 = Lg ∧ rv ≠ 0) ∨ (i = 0 ∧ rv ≠ 0 ∧ rv ≠ 4)) (by omega)).symm | exact (decide_eq_false (p := (i + 1 = Lg ∧ rv ≠ 0) ∨ (i = 0 ∧ rv ≠ 0 ∧ rv ≠ 4)) (by omega)).symm), rfl⟩)
            · have q15b0 : ((i : Int) == 0) = false := beq_eq_false_iff_ne.2 (by omega)
              first
              | (exfalso; omega)
              | (go_wp2_with fail; all_goals (try go_meet); all_goals exact ⟨(by first | rfl | exact congrArg (Value.int .i64) (by omega)), (by first | rfl | exact congrArg (Value.int .i64) (by omega)), (by first | rfl | exact congrArg (Value.int .i64) (by omega)), congrArg Value.bool (by first | exact (decide_eq_true (p := (i + 1 = Lg ∧ rv ≠ 0) ∨ (i = 0 ∧ rv ≠ 0 ∧ rv ≠ 4)) (by omega)).symm | exact (decide_eq_false (p := (i + 1 = Lg ∧ rv ≠ 0) ∨ (i = 0 ∧ rv ≠ 0 ∧ rv ≠ 4)) (by omega)).symm), rfl⟩)
          · have q14b0 : (rv != 0) = true := bne_iff_ne.2 q14
            first
            | (exfalso; omega)
            | (go_wp2_with fail; all_goals (try go_meet); all_goals exact ⟨(by first | rfl | exact congrArg (Value.int .i64) (by omega)), (by first | rfl | exact congrArg (Value.int .i64) (by omega)), (by first | rfl | exact congrArg (Value.int .i64) (by omega)), congrArg Value.bool (by first | exact (decide_eq_true (p := (i + 1 = Lg ∧ rv ≠ 0) ∨ (i = 0 ∧ rv ≠ 0 ∧ rv ≠ 4)) (by omega)).symm | exact (decide_eq_false (p := (i + 1 = Lg ∧ rv ≠ 0) ∨ (i = 0 ∧ rv ≠ 0 ∧ rv ≠ 4)) (by omega)).symm), rfl⟩)
        · have q13b0 : ((i : Int) == (Lg : Int) - 1) = false := beq_eq_false_iff_ne.2 (by omega)
          by_cases q16 : i = 0
          · have q16b0 : ((i : Int) == 0) = true := beq_iff_eq.2 (by omega)
            by_cases q17 : rv = 0
            · have q17b0 : (rv != 0) = false := bne_eq_false_iff_eq.2 q17
              first
              | (exfalso; omega)
              | (go_wp2_with fail; all_goals (try go_meet); all_goals exact ⟨(by first | rfl | exact congrArg (Value.int .i64) (by omega)), (by first | rfl | exact congrArg (Value.int .i64) (by omega)), (by first | rfl | exact congrArg (Value.int .i64) (by omega)), congrArg Value.bool (by first | exact (decide_eq_true (p := (i + 1 = Lg ∧ rv ≠ 0) ∨ (i = 0 ∧ rv ≠ 0 ∧ rv ≠ 4)) (by omega)).symm | exact (decide_eq_false (p := (i + 1 = Lg ∧ rv ≠ 0) ∨ (i = 0 ∧ rv ≠ 0 ∧ rv ≠ 4)) (by omega)).symm), rfl⟩)
            · have q17b0 : (rv != 0) = true := bne_iff_ne.2 q17
              by_cases q18 : rv = 4
              · have q18b0 : (rv != 4) = false := bne_eq_false_iff_eq.2 q18
                first
                | (exfalso; omega)
                | (go_wp2_with fail; all_goals (try go_meet); all_goals exact ⟨(by first | rfl | exact congrArg (Value.int .i64) (by omega)), (by first | rfl | exact congrArg (Value.int .i64) (by omega)), (by first | rfl | exact congrArg (Value.int .i64) (by omega)), congrArg Value.bool (by first | exact (decide_eq_true (p := (i + 1 = Lg ∧ rv ≠ 0) ∨ (i = 0 ∧ rv ≠ 0 ∧ rv ≠ 4)) (by omega)).symm | exact (decide_eq_false (p := (i + 1 = Lg ∧ rv ≠ 0) ∨ (i = 0 ∧ rv ≠ 0 ∧ rv ≠ 4)) (by omega)).symm), rfl⟩)
              · have q18b0 : (rv != 4) = true := bne_iff_ne.2 q18
                first
                | (exfalso; omega)
                | (go_wp2_with fail; all_goals (try go_meet); all_goals exact ⟨(by first | rfl | exact congrArg (Value.int .i64) (by omega)), (by first | rfl | exact congrArg (Value.int .i64) (by omega)), (by first | rfl | exact congrArg (Value.int .i64) (by omega)), congrArg Value.bool (by first | exact (decide_eq_true (p := (i + 1 = Lg ∧ rv ≠ 0) ∨ (i = 0 ∧ rv ≠ 0 ∧ rv ≠ 4)) (by omega)).symm | exact (decide_eq_false (p := (i + 1 = Lg ∧ rv ≠ 0) ∨ (i = 0 ∧ rv ≠ 0 ∧ rv ≠ 4)) (by omega)).symm), rfl⟩)
          · have q16b0 : ((i : Int) == 0) = false := beq_eq_false_iff_ne.2 (by omega)
            first
            | (exfalso; omega)
            | (go_wp2_with fail; all_goals (try go_meet); all_goals exact ⟨(by first | rfl | exact congrArg (Value.int .i64) (by omega)), (by first | rfl | exact congrArg (Value.int .i64) (by omega)), (by first | rfl | exact congrArg (Value.int .i64) (by omega)), congrArg Value.bool (by first | exact (decide_eq_true (p := (i + 1 = Lg ∧ rv ≠ 0) ∨ (i = 0 ∧ rv ≠ 0 ∧ rv ≠ 4)) (by omega)).symm | exact (decide_eq_false (p := (i + 1 = Lg ∧ rv ≠ 0) ∨ (i = 0 ∧ rv ≠ 0 ∧ rv ≠ 4)) (by omega)).symm), rfl⟩)
      case rest =>
        obtain ⟨rfl, rfl, rfl, rfl, rfl⟩ := hcut
        clear htv
        have hd := decide_eq_true n3
        rw [hd]
        clear hd
        go_wp2
        go_ret
        exact ⟨ret_int (by rw [← HBK.out]; unfold brk; rw [if_neg n1, if_neg n2, if_pos n3]; rfl), HW1.out⟩

set_option maxHeartbeats 40000000 in
theorem RBr_0 (i Lg Ls : Nat) (x y x1 y1 y2 v rv ru m am p gm : Int) (b1 o1 c1 b2 o2 c2 : Nat) (w : World) (hi : i < Ls) (hig : i < Lg) (g8 : Lg ≤ 8) (nx : 0 ≤ x ∧ x ≤ 20) (ny : 0 ≤ y ∧ y ≤ 20) (nx1 : 0 ≤ x1 ∧ x1 ≤ 20) (ny1 : 0 ≤ y1 ∧ y1 ≤ 20) (ny2 : 0 ≤ y2 ∧ y2 ≤ 20)
    (a1 : w.cell? ⟨b1, o1 + i, none⟩ = some (.int .i64 x)) (a2 : w.cell? ⟨b2, o2 + i, none⟩ = some (.int .i64 y)) (a3 : w.cell? ⟨b1, o1 + (i - 1), none⟩ = some (.int .i64 x1)) (a4 : w.cell? ⟨b2, o2 + (i - 1), none⟩ = some (.int .i64 y1)) (a5 : w.cell? ⟨b2, o2 + (i - 1 - 1), none⟩ = some (.int .i64 y2))
    (hv : y - x = v) (hrv : v % 7 = rv) (hru : (y1 - x1) % 7 = ru) (hm : y - y1 = m) (ham : absI m = am) (hgm : x - x1 = gm) (hp : y1 - y2 = p) (hcl : (¬ (v < 0 ∨ 14 < v)) ∧ (¬ (¬ (rv = 0 ∨ rv = 4) ∧ rv ≠ 2 ∧ rv ≠ 5)) ∧ (¬ ((i + 1 = Lg ∧ rv ≠ 0) ∨ (i = 0 ∧ rv ≠ 0 ∧ rv ≠ 4))) ∧ (i = 0)) :
    Calls Try.prog 85 #[.slice (some ⟨b1, o1, none⟩) Lg c1, .slice (some ⟨b2, o2, none⟩) Ls c2, .int .i64 (i : Int)] w fun e w' => e = .returned (.int .i64 (brk v rv ru m am p gm i Lg : Nat)) ∧ ∃ q, w' = w.drewN q := by
  have HCL := Lib.hid hcl
  clear hcl
  have HOv := Lib.hid (fun W => ropen_any v (by omega) W)
  have HOu := Lib.hid (fun W => ropen_any (y1 - x1) (by omega) W)
  have HSv := Lib.hid (fun W => rsort_any v (by omega) W)
  have HSu := Lib.hid (fun W => rsort_any (y1 - x1) (by omega) W)
  have HAm := Lib.hid (fun W => rabs_any m (by omega) W)
  rw [show openB v = decide (v % 7 = 0 ∨ v % 7 = 4) from rfl, hrv] at HOv
  rw [show openB (y1 - x1) = decide ((y1 - x1) % 7 = 0 ∨ (y1 - x1) % 7 = 4) from rfl, hru] at HOu
  rw [hrv] at HSv
  rw [hru] at HSu
  rw [ham] at HAm
  have HTv := Lib.hid (show 0 ≤ v → v.tmod 7 = rv from fun h => by rw [← hrv]; exact Int.tmod_eq_emod_of_nonneg h)
  have HVe := Lib.hid hv
  have HMe := Lib.hid hm
  have HGe := Lib.hid hgm
  have HPe := Lib.hid hp
  have hmb : -20 ≤ m ∧ m ≤ 20 := by omega
  have hpb : -20 ≤ p ∧ p ≤ 20 := by omega
  obtain ⟨u, hu⟩ : ∃ u, y1 - x1 = u := ⟨_, rfl⟩
  have HUe := Lib.hid hu
  rw [hu] at HOu HSu
  have hvb : -20 ≤ v ∧ v ≤ 20 := by omega
  clear hv hrv hru hm ham hgm hp hu
  obtain ⟨bk, hbk⟩ : ∃ bk, brk v rv ru m am p gm i Lg = bk := ⟨_, rfl⟩
  have HBK := Lib.hid hbk
  rw [hbk]
  clear hbk
  go_enter Try.func85, Try.ntmps85
  go_upto_region 1 with fail
  go_quiet (fail)
  obtain ⟨w1, hw1⟩ : ∃ W, w.drewN nq = W := ⟨_, rfl⟩
  have HW1 := Lib.hid (show ∃ q, w1 = w.drewN q from ⟨_, hw1.symm⟩)
  have k1 : ∀ a v, w.cell? a = some v → w1.cell? a = some v := fun a v e => by rw [← hw1]; exact e
  have a3 := k1 _ _ a3
  have a4 := k1 _ _ a4
  have a5 := k1 _ _ a5
  have a1 := k1 _ _ a1
  have a2 := k1 _ _ a2
  rw [hw1, HVe.out]
  clear hw1 k1
  have n1 : ¬ (v < 0 ∨ 14 < v) := by have := HCL.out; omega
  go_upto_region 2 with fail
  go_cut [2, 6, 7, 26] from 12 to 26 (fun s2 s6 s7 c wx => s2 = .int .i64 (i : Int) ∧ s6 = .int .i64 0 ∧ s7 = .int .i64 v ∧ c = .bool (decide (v < 0 ∨ 14 < v)) ∧ w1 = wx)
  case first =>
    by_cases q19 : v < 0
    · have q19b0 : (decide (v < 0)) = true := decide_eq_true q19
      first
      | (exfalso; omega)
      | (go_wp2_with fail; all_goals (try go_meet); all_goals exact ⟨(by first | rfl | exact congrArg (Value.int .i64) (by omega)), (by first | rfl | exact congrArg (Value.int .i64) (by omega)), (by first | rfl | exact congrArg (Value.int .i64) (by omega)), congrArg Value.bool (by first | exact (decide_eq_true (p := v < 0 ∨ 14 < v) (by omega)).symm | exact (decide_eq_false (p := v < 0 ∨ 14 < v) (by omega)).symm), rfl⟩)
    · have q19b0 : (decide (v < 0)) = false := decide_eq_false q19
      by_cases q20 : 14 < v
      · have q20b0 : (decide (14 < v)) = true := decide_eq_true q20
        first
        | (exfalso; omega)
        | (go_wp2_with fail; all_goals (try go_meet); all_goals exact ⟨(by first | rfl | exact congrArg (Value.int .i64) (by omega)), (by first | rfl | exact congrArg (Value.int .i64) (by omega)), (by first | rfl | exact congrArg (Value.int .i64) (by omega)), congrArg Value.bool (by first | exact (decide_eq_true (p := v < 0 ∨ 14 < v) (by omega)).symm | exact (decide_eq_false (p := v < 0 ∨ 14 < v) (by omega)).symm), rfl⟩)
      · have q20b0 : (decide (14 < v)) = false := decide_eq_false q20
        first
        | (exfalso; omega)
        | (go_wp2_with fail; all_goals (try go_meet); all_goals exact ⟨(by first | rfl | exact congrArg (Value.int .i64) (by omega)), (by first | rfl | exact congrArg (Value.int .i64) (by omega)), (by first | rfl | exact congrArg (Value.int .i64) (by omega)), congrArg Value.bool (by first | exact (decide_eq_true (p := v < 0 ∨ 14 < v) (by omega)).symm | exact (decide_eq_false (p := v < 0 ∨ 14 < v) (by omega)).symm), rfl⟩)
  case rest =>
    obtain ⟨rfl, rfl, rfl, rfl, rfl⟩ := hcut
    have hd := decide_eq_false n1
    rw [hd]
    clear hd
    have n2 : ¬ (¬ (rv = 0 ∨ rv = 4) ∧ rv ≠ 2 ∧ rv ≠ 5) := by have := HCL.out; omega
    go_upto_region 4 with fail
    go_cut [2, 6, 7, 39] from 27 to 39 (fun s2 s6 s7 c wx => s2 = .int .i64 (i : Int) ∧ s6 = .int .i64 0 ∧ s7 = .int .i64 v ∧ c = .bool (decide (¬ (rv = 0 ∨ rv = 4) ∧ rv ≠ 2 ∧ rv ≠ 5)) ∧ w1 = wx)
    case first =>
      by_cases q21 : rv = 0 ∨ rv = 4
      · have q21b0 : (decide (rv = 0 ∨ rv = 4)) = true := decide_eq_true q21
        first
        | (exfalso; omega)
        | (go_wp2_with fail; refine (HOv.out _).mono ?_; rintro e wz ⟨rfl, rfl⟩; go_wp2_with fail; all_goals (try go_meet); all_goals exact ⟨(by first | rfl | exact congrArg (Value.int .i64) (by omega)), (by first | rfl | exact congrArg (Value.int .i64) (by omega)), (by first | rfl | exact congrArg (Value.int .i64) (by omega)), congrArg Value.bool (by first | exact (decide_eq_true (p := ¬ (rv = 0 ∨ rv = 4) ∧ rv ≠ 2 ∧ rv ≠ 5) (by omega)).symm | exact (decide_eq_false (p := ¬ (rv = 0 ∨ rv = 4) ∧ rv ≠ 2 ∧ rv ≠ 5) (by omega)).symm), rfl⟩)
      · have q21b0 : (decide (rv = 0 ∨ rv = 4)) = false := decide_eq_false q21
        by_cases q22 : rv = 2
        · have q22b0 : (rv != 2) = false := bne_eq_false_iff_eq.2 q22
          first
          | (exfalso; omega)
          | (go_wp2_with fail; refine (HOv.out _).mono ?_; rintro e wz ⟨rfl, rfl⟩; go_wp2_with fail; refine (HSv.out _).mono ?_; rintro e wz ⟨rfl, rfl⟩; go_wp2_with fail; all_goals (try go_meet); all_goals exact ⟨(by first | rfl | exact congrArg (Value.int .i64) (by omega)), (by first | rfl | exact congrArg (Value.int .i64) (by omega)), (by first | rfl | exact congrArg (Value.int .i64) (by omega)), congrArg Value.bool (by first | exact (decide_eq_true (p := ¬ (rv = 0 ∨ rv = 4) ∧ rv ≠ 2 ∧ rv ≠ 5) (by omega)).symm | exact (decide_eq_false (p := ¬ (rv = 0 ∨ rv = 4) ∧ rv ≠ 2 ∧ rv ≠ 5) (by omega)).symm), rfl⟩)
        · have q22b0 : (rv != 2) = true := bne_iff_ne.2 q22
          by_cases q23 : rv = 5
          · have q23b0 : (rv != 5) = false := bne_eq_false_iff_eq.2 q23
            first
            | (exfalso; omega)
            | (go_wp2_with fail; refine (HOv.out _).mono ?_; rintro e wz ⟨rfl, rfl⟩; go_wp2_with fail; refine (HSv.out _).mono ?_; rintro e wz ⟨rfl, rfl⟩; go_wp2_with fail; refine (HSv.out _).mono ?_; rintro e wz ⟨rfl, rfl⟩; go_wp2_with fail; all_goals (try go_meet); all_goals exact ⟨(by first | rfl | exact congrArg (Value.int .i64) (by omega)), (by first | rfl | exact congrArg (Value.int .i64) (by omega)), (by first | rfl | exact congrArg (Value.int .i64) (by omega)), congrArg Value.bool (by first | exact (decide_eq_true (p := ¬ (rv = 0 ∨ rv = 4) ∧ rv ≠ 2 ∧ rv ≠ 5) (by omega)).symm | exact (decide_eq_false (p := ¬ (rv = 0 ∨ rv = 4) ∧ rv ≠ 2 ∧ rv ≠ 5) (by omega)).symm), rfl⟩)
          · have q23b0 : (rv != 5) = true := bne_iff_ne.2 q23
            first
            | (exfalso; omega)
            | (go_wp2_with fail; refine (HOv.out _).mono ?_; rintro e wz ⟨rfl, rfl⟩; go_wp2_with fail; refine (HSv.out _).mono ?_; rintro e wz ⟨rfl, rfl⟩; go_wp2_with fail; refine (HSv.out _).mono ?_; rintro e wz ⟨rfl, rfl⟩; go_wp2_with fail; all_goals (try go_meet); all_goals exact ⟨(by first | rfl | exact congrArg (Value.int .i64) (by omega)), (by first | rfl | exact congrArg (Value.int .i64) (by omega)), (by first | rfl | exact congrArg (Value.int .i64) (by omega)), congrArg Value.bool (by first | exact (decide_eq_true (p := ¬ (rv = 0 ∨ rv = 4) ∧ rv ≠ 2 ∧ rv ≠ 5) (by omega)).symm | exact (decide_eq_false (p := ¬ (rv = 0 ∨ rv = 4) ∧ rv ≠ 2 ∧ rv ≠ 5) (by omega)).symm), rfl⟩)
    case rest =>
      obtain ⟨rfl, rfl, rfl, rfl, rfl⟩ := hcut
      have hd := decide_eq_false n2
      rw [hd]
      clear hd
      have hv0 : 0 ≤ v := by omega
      have htv := HTv.out hv0
      have n3 : ¬ ((i + 1 = Lg ∧ rv ≠ 0) ∨ (i = 0 ∧ rv ≠ 0 ∧ rv ≠ 4)) := by have := HCL.out; omega
      go_upto_region 6 with fail
      go_cut [2, 6, 7, 63] from 40 to 63 (fun s2 s6 s7 c wx => s2 = .int .i64 (i : Int) ∧ s6 = .int .i64 0 ∧ s7 = .int .i64 v ∧ c = .bool (decide ((i + 1 = Lg ∧ rv ≠ 0) ∨ (i = 0 ∧ rv ≠ 0 ∧ rv ≠ 4))) ∧ w1 = wx)
      case first =>
        by_cases q24 : i + 1 = Lg
        · have q24b0 : ((i : Int) == (Lg : Int) - 1) = true := beq_iff_eq.2 (by omega)
          by_cases q25 : rv = 0
          · have q25b0 : (rv != 0) = false := bne_eq_false_iff_eq.2 q25
            by_cases q26 : i = 0
            · have q26b0 : ((i : Int) == 0) = true := beq_iff_eq.2 (by omega)
              first
              | (exfalso; omega)
              | (go_wp2_with fail; all_goals (try go_meet); all_goals exact ⟨(by first | rfl | exact congrArg (Value.int .i64) (by omega)), (by first | rfl | exact congrArg (Value.int .i64) (by omega)), (by first | rfl | exact congrArg (Value.int .i64) (by omega)), congrArg Value.bool (by first | exact (decide_eq_true (p := (i + 1 = Lg ∧ rv ≠ 0) ∨ (i = 0 ∧ rv ≠ 0 ∧ rv ≠ 4)) (by omega)).symm | exact (decide_eq_false (p := (i + 1 = Lg ∧ rv ≠ 0) ∨ (i = 0 ∧ rv ≠ 0 ∧ rv ≠ 4)) (by omega)).symm), rfl⟩)
            · have q26b0 : ((i : Int) == 0) = false := beq_eq_false_iff_ne.2 (by omega)
              first
              | (exfalso; omega)
              | (go_wp2_with fail; all_goals (try go_meet); all_goals exact ⟨(by first | rfl | exact congrArg (Value.int .i64) (by omega)), (by first | rfl | exact congrArg (Value.int .i64) (by omega)), (by first | rfl | exact congrArg (Value.int .i64) (by omega)), congrArg Value.bool (by first | exact (decide_eq_true (p := (i + 1 = Lg ∧ rv ≠ 0) ∨ (i = 0 ∧ rv ≠ 0 ∧ rv ≠ 4)) (by omega)).symm | exact (decide_eq_false (p := (i + 1 = Lg ∧ rv ≠ 0) ∨ (i = 0 ∧ rv ≠ 0 ∧ rv ≠ 4)) (by omega)).symm), rfl⟩)
          · have q25b0 : (rv != 0) = true := bne_iff_ne.2 q25
            first
            | (exfalso; omega)
            | (go_wp2_with fail; all_goals (try go_meet); all_goals exact ⟨(by first | rfl | exact congrArg (Value.int .i64) (by omega)), (by first | rfl | exact congrArg (Value.int .i64) (by omega)), (by first | rfl | exact congrArg (Value.int .i64) (by omega)), congrArg Value.bool (by first | exact (decide_eq_true (p := (i + 1 = Lg ∧ rv ≠ 0) ∨ (i = 0 ∧ rv ≠ 0 ∧ rv ≠ 4)) (by omega)).symm | exact (decide_eq_false (p := (i + 1 = Lg ∧ rv ≠ 0) ∨ (i = 0 ∧ rv ≠ 0 ∧ rv ≠ 4)) (by omega)).symm), rfl⟩)
        · have q24b0 : ((i : Int) == (Lg : Int) - 1) = false := beq_eq_false_iff_ne.2 (by omega)
          by_cases q27 : i = 0
          · have q27b0 : ((i : Int) == 0) = true := beq_iff_eq.2 (by omega)
            by_cases q28 : rv = 0
            · have q28b0 : (rv != 0) = false := bne_eq_false_iff_eq.2 q28
              first
              | (exfalso; omega)
              | (go_wp2_with fail; all_goals (try go_meet); all_goals exact ⟨(by first | rfl | exact congrArg (Value.int .i64) (by omega)), (by first | rfl | exact congrArg (Value.int .i64) (by omega)), (by first | rfl | exact congrArg (Value.int .i64) (by omega)), congrArg Value.bool (by first | exact (decide_eq_true (p := (i + 1 = Lg ∧ rv ≠ 0) ∨ (i = 0 ∧ rv ≠ 0 ∧ rv ≠ 4)) (by omega)).symm | exact (decide_eq_false (p := (i + 1 = Lg ∧ rv ≠ 0) ∨ (i = 0 ∧ rv ≠ 0 ∧ rv ≠ 4)) (by omega)).symm), rfl⟩)
            · have q28b0 : (rv != 0) = true := bne_iff_ne.2 q28
              by_cases q29 : rv = 4
              · have q29b0 : (rv != 4) = false := bne_eq_false_iff_eq.2 q29
                first
                | (exfalso; omega)
                | (go_wp2_with fail; all_goals (try go_meet); all_goals exact ⟨(by first | rfl | exact congrArg (Value.int .i64) (by omega)), (by first | rfl | exact congrArg (Value.int .i64) (by omega)), (by first | rfl | exact congrArg (Value.int .i64) (by omega)), congrArg Value.bool (by first | exact (decide_eq_true (p := (i + 1 = Lg ∧ rv ≠ 0) ∨ (i = 0 ∧ rv ≠ 0 ∧ rv ≠ 4)) (by omega)).symm | exact (decide_eq_false (p := (i + 1 = Lg ∧ rv ≠ 0) ∨ (i = 0 ∧ rv ≠ 0 ∧ rv ≠ 4)) (by omega)).symm), rfl⟩)
              · have q29b0 : (rv != 4) = true := bne_iff_ne.2 q29
                first
                | (exfalso; omega)
                | (go_wp2_with fail; all_goals (try go_meet); all_goals exact ⟨(by first | rfl | exact congrArg (Value.int .i64) (by omega)), (by first | rfl | exact congrArg (Value.int .i64) (by omega)), (by first | rfl | exact congrArg (Value.int .i64) (by omega)), congrArg Value.bool (by first | exact (decide_eq_true (p := (i + 1 = Lg ∧ rv ≠ 0) ∨ (i = 0 ∧ rv ≠ 0 ∧ rv ≠ 4)) (by omega)).symm | exact (decide_eq_false (p := (i + 1 = Lg ∧ rv ≠ 0) ∨ (i = 0 ∧ rv ≠ 0 ∧ rv ≠ 4)) (by omega)).symm), rfl⟩)
          · have q27b0 : ((i : Int) == 0) = false := beq_eq_false_iff_ne.2 (by omega)
            first
            | (exfalso; omega)
            | (go_wp2_with fail; all_goals (try go_meet); all_goals exact ⟨(by first | rfl | exact congrArg (Value.int .i64) (by omega)), (by first | rfl | exact congrArg (Value.int .i64) (by omega)), (by first | rfl | exact congrArg (Value.int .i64) (by omega)), congrArg Value.bool (by first | exact (decide_eq_true (p := (i + 1 = Lg ∧ rv ≠ 0) ∨ (i = 0 ∧ rv ≠ 0 ∧ rv ≠ 4)) (by omega)).symm | exact (decide_eq_false (p := (i + 1 = Lg ∧ rv ≠ 0) ∨ (i = 0 ∧ rv ≠ 0 ∧ rv ≠ 4)) (by omega)).symm), rfl⟩)
      case rest =>
        obtain ⟨rfl, rfl, rfl, rfl, rfl⟩ := hcut
        clear htv
        have hd := decide_eq_false n3
        rw [hd]
        clear hd
        have n0 : i = 0 := by have := HCL.out; omega
        have hd : ((i : Int) == 0) = true := beq_iff_eq.2 (by omega)
        go_wp2
        go_ret
        exact ⟨ret_int (by rw [← HBK.out]; unfold brk; rw [if_neg n1, if_neg n2, if_neg n3, if_pos n0]; rfl), HW1.out⟩

set_option maxHeartbeats 40000000 in
theorem RBr_4 (i Lg Ls : Nat) (x y x1 y1 y2 v rv ru m am p gm : Int) (b1 o1 c1 b2 o2 c2 : Nat) (w : World) (hi : i < Ls) (hig : i < Lg) (g8 : Lg ≤ 8) (nx : 0 ≤ x ∧ x ≤ 20) (ny : 0 ≤ y ∧ y ≤ 20) (nx1 : 0 ≤ x1 ∧ x1 ≤ 20) (ny1 : 0 ≤ y1 ∧ y1 ≤ 20) (ny2 : 0 ≤ y2 ∧ y2 ≤ 20)
    (a1 : w.cell? ⟨b1, o1 + i, none⟩ = some (.int .i64 x)) (a2 : w.cell? ⟨b2, o2 + i, none⟩ = some (.int .i64 y)) (a3 : w.cell? ⟨b1, o1 + (i - 1), none⟩ = some (.int .i64 x1)) (a4 : w.cell? ⟨b2, o2 + (i - 1), none⟩ = some (.int .i64 y1)) (a5 : w.cell? ⟨b2, o2 + (i - 1 - 1), none⟩ = some (.int .i64 y2))
    (hv : y - x = v) (hrv : v % 7 = rv) (hru : (y1 - x1) % 7 = ru) (hm : y - y1 = m) (ham : absI m = am) (hgm : x - x1 = gm) (hp : y1 - y2 = p) (hcl : (¬ (v < 0 ∨ 14 < v)) ∧ (¬ (¬ (rv = 0 ∨ rv = 4) ∧ rv ≠ 2 ∧ rv ≠ 5)) ∧ (¬ ((i + 1 = Lg ∧ rv ≠ 0) ∨ (i = 0 ∧ rv ≠ 0 ∧ rv ≠ 4))) ∧ (¬ (i = 0)) ∧ (4 < am ∧ am ≠ 7)) :
    Calls Try.prog 85 #[.slice (some ⟨b1, o1, none⟩) Lg c1, .slice (some ⟨b2, o2, none⟩) Ls c2, .int .i64 (i : Int)] w fun e w' => e = .returned (.int .i64 (brk v rv ru m am p gm i Lg : Nat)) ∧ ∃ q, w' = w.drewN q := by
  have HCL := Lib.hid hcl
  clear hcl
  have HOv := Lib.hid (fun W => ropen_any v (by omega) W)
  have HOu := Lib.hid (fun W => ropen_any (y1 - x1) (by omega) W)
  have HSv := Lib.hid (fun W => rsort_any v (by omega) W)
  have HSu := Lib.hid (fun W => rsort_any (y1 - x1) (by omega) W)
  have HAm := Lib.hid (fun W => rabs_any m (by omega) W)
  rw [show openB v = decide (v % 7 = 0 ∨ v % 7 = 4) from rfl, hrv] at HOv
  rw [show openB (y1 - x1) = decide ((y1 - x1) % 7 = 0 ∨ (y1 - x1) % 7 = 4) from rfl, hru] at HOu
  rw [hrv] at HSv
  rw [hru] at HSu
  rw [ham] at HAm
  have HTv := Lib.hid (show 0 ≤ v → v.tmod 7 = rv from fun h => by rw [← hrv]; exact Int.tmod_eq_emod_of_nonneg h)
  have HVe := Lib.hid hv
  have HMe := Lib.hid hm
  have HGe := Lib.hid hgm
  have HPe := Lib.hid hp
  have hmb : -20 ≤ m ∧ m ≤ 20 := by omega
  have hpb : -20 ≤ p ∧ p ≤ 20 := by omega
  obtain ⟨u, hu⟩ : ∃ u, y1 - x1 = u := ⟨_, rfl⟩
  have HUe := Lib.hid hu
  rw [hu] at HOu HSu
  have hvb : -20 ≤ v ∧ v ≤ 20 := by omega
  clear hv hrv hru hm ham hgm hp hu
  obtain ⟨bk, hbk⟩ : ∃ bk, brk v rv ru m am p gm i Lg = bk := ⟨_, rfl⟩
  have HBK := Lib.hid hbk
  rw [hbk]
  clear hbk
  go_enter Try.func85, Try.ntmps85
  go_upto_region 1 with fail
  go_quiet (fail)
  obtain ⟨w1, hw1⟩ : ∃ W, w.drewN nq = W := ⟨_, rfl⟩
  have HW1 := Lib.hid (show ∃ q, w1 = w.drewN q from ⟨_, hw1.symm⟩)
  have k1 : ∀ a v, w.cell? a = some v → w1.cell? a = some v := fun a v e => by rw [← hw1]; exact e
  have a3 := k1 _ _ a3
  have a4 := k1 _ _ a4
  have a5 := k1 _ _ a5
  have a1 := k1 _ _ a1
  have a2 := k1 _ _ a2
  rw [hw1, HVe.out]
  clear hw1 k1
  have n1 : ¬ (v < 0 ∨ 14 < v) := by have := HCL.out; omega
  go_upto_region 2 with fail
  go_cut [2, 6, 7, 26] from 12 to 26 (fun s2 s6 s7 c wx => s2 = .int .i64 (i : Int) ∧ s6 = .int .i64 0 ∧ s7 = .int .i64 v ∧ c = .bool (decide (v < 0 ∨ 14 < v)) ∧ w1 = wx)
  case first =>
    by_cases q30 : v < 0
    · have q30b0 : (decide (v < 0)) = true := decide_eq_true q30
      first
      | (exfalso; omega)
      | (go_wp2_with fail; all_goals (try go_meet); all_goals exact ⟨(by first | rfl | exact congrArg (Value.int .i64) (by omega)), (by first | rfl | exact congrArg (Value.int .i64) (by omega)), (by first | rfl | exact congrArg (Value.int .i64) (by omega)), congrArg Value.bool (by first | exact (decide_eq_true (p := v < 0 ∨ 14 < v) (by omega)).symm | exact (decide_eq_false (p := v < 0 ∨ 14 < v) (by omega)).symm), rfl⟩)
    · have q30b0 : (decide (v < 0)) = false := decide_eq_false q30
      by_cases q31 : 14 < v
      · have q31b0 : (decide (14 < v)) = true := decide_eq_true q31
        first
        | (exfalso; omega)
        | (go_wp2_with fail; all_goals (try go_meet); all_goals exact ⟨(by first | rfl | exact congrArg (Value.int .i64) (by omega)), (by first | rfl | exact congrArg (Value.int .i64) (by omega)), (by first | rfl | exact congrArg (Value.int .i64) (by omega)), congrArg Value.bool (by first | exact (decide_eq_true (p := v < 0 ∨ 14 < v) (by omega)).symm | exact (decide_eq_false (p := v < 0 ∨ 14 < v) (by omega)).symm), rfl⟩)
      · have q31b0 : (decide (14 < v)) = false := decide_eq_false q31
        first
        | (exfalso; omega)
        | (go_wp2_with fail; all_goals (try go_meet); all_goals exact ⟨(by first | rfl | exact congrArg (Value.int .i64) (by omega)), (by first | rfl | exact congrArg (Value.int .i64) (by omega)), (by first | rfl | exact congrArg (Value.int .i64) (by omega)), congrArg Value.bool (by first | exact (decide_eq_true (p := v < 0 ∨ 14 < v) (by omega)).symm | exact (decide_eq_false (p := v < 0 ∨ 14 < v) (by omega)).symm), rfl⟩)
  case rest =>
    obtain ⟨rfl, rfl, rfl, rfl, rfl⟩ := hcut
    have hd := decide_eq_false n1
    rw [hd]
    clear hd
    have n2 : ¬ (¬ (rv = 0 ∨ rv = 4) ∧ rv ≠ 2 ∧ rv ≠ 5) := by have := HCL.out; omega
    go_upto_region 4 with fail
    go_cut [2, 6, 7, 39] from 27 to 39 (fun s2 s6 s7 c wx => s2 = .int .i64 (i : Int) ∧ s6 = .int .i64 0 ∧ s7 = .int .i64 v ∧ c = .bool (decide (¬ (rv = 0 ∨ rv = 4) ∧ rv ≠ 2 ∧ rv ≠ 5)) ∧ w1 = wx)
    case first =>
      by_cases q32 : rv = 0 ∨ rv = 4
      · have q32b0 : (decide (rv = 0 ∨ rv = 4)) = true := decide_eq_true q32
        first
        | (exfalso; omega)
        | (go_wp2_with fail; refine (HOv.out _).mono ?_; rintro e wz ⟨rfl, rfl⟩; go_wp2_with fail; all_goals (try go_meet); all_goals exact ⟨(by first | rfl | exact congrArg (Value.int .i64) (by omega)), (by first | rfl | exact congrArg (Value.int .i64) (by omega)), (by first | rfl | exact congrArg (Value.int .i64) (by omega)), congrArg Value.bool (by first | exact (decide_eq_true (p := ¬ (rv = 0 ∨ rv = 4) ∧ rv ≠ 2 ∧ rv ≠ 5) (by omega)).symm | exact (decide_eq_false (p := ¬ (rv = 0 ∨ rv = 4) ∧ rv ≠ 2 ∧ rv ≠ 5) (by omega)).symm), rfl⟩)
      · have q32b0 : (decide (rv = 0 ∨ rv = 4)) = false := decide_eq_false q32
        by_cases q33 : rv = 2
        · have q33b0 : (rv != 2) = false := bne_eq_false_iff_eq.2 q33
          first
          | (exfalso; omega)
          | (go_wp2_with fail; refine (HOv.out _).mono ?_; rintro e wz ⟨rfl, rfl⟩; go_wp2_with fail; refine (HSv.out _).mono ?_; rintro e wz ⟨rfl, rfl⟩; go_wp2_with fail; all_goals (try go_meet); all_goals exact ⟨(by first | rfl | exact congrArg (Value.int .i64) (by omega)), (by first | rfl | exact congrArg (Value.int .i64) (by omega)), (by first | rfl | exact congrArg (Value.int .i64) (by omega)), congrArg Value.bool (by first | exact (decide_eq_true (p := ¬ (rv = 0 ∨ rv = 4) ∧ rv ≠ 2 ∧ rv ≠ 5) (by omega)).symm | exact (decide_eq_false (p := ¬ (rv = 0 ∨ rv = 4) ∧ rv ≠ 2 ∧ rv ≠ 5) (by omega)).symm), rfl⟩)
        · have q33b0 : (rv != 2) = true := bne_iff_ne.2 q33
          by_cases q34 : rv = 5
          · have q34b0 : (rv != 5) = false := bne_eq_false_iff_eq.2 q34
            first
            | (exfalso; omega)
            | (go_wp2_with fail; refine (HOv.out _).mono ?_; rintro e wz ⟨rfl, rfl⟩; go_wp2_with fail; refine (HSv.out _).mono ?_; rintro e wz ⟨rfl, rfl⟩; go_wp2_with fail; refine (HSv.out _).mono ?_; rintro e wz ⟨rfl, rfl⟩; go_wp2_with fail; all_goals (try go_meet); all_goals exact ⟨(by first | rfl | exact congrArg (Value.int .i64) (by omega)), (by first | rfl | exact congrArg (Value.int .i64) (by omega)), (by first | rfl | exact congrArg (Value.int .i64) (by omega)), congrArg Value.bool (by first | exact (decide_eq_true (p := ¬ (rv = 0 ∨ rv = 4) ∧ rv ≠ 2 ∧ rv ≠ 5) (by omega)).symm | exact (decide_eq_false (p := ¬ (rv = 0 ∨ rv = 4) ∧ rv ≠ 2 ∧ rv ≠ 5) (by omega)).symm), rfl⟩)
          · have q34b0 : (rv != 5) = true := bne_iff_ne.2 q34
            first
            | (exfalso; omega)
            | (go_wp2_with fail; refine (HOv.out _).mono ?_; rintro e wz ⟨rfl, rfl⟩; go_wp2_with fail; refine (HSv.out _).mono ?_; rintro e wz ⟨rfl, rfl⟩; go_wp2_with fail; refine (HSv.out _).mono ?_; rintro e wz ⟨rfl, rfl⟩; go_wp2_with fail; all_goals (try go_meet); all_goals exact ⟨(by first | rfl | exact congrArg (Value.int .i64) (by omega)), (by first | rfl | exact congrArg (Value.int .i64) (by omega)), (by first | rfl | exact congrArg (Value.int .i64) (by omega)), congrArg Value.bool (by first | exact (decide_eq_true (p := ¬ (rv = 0 ∨ rv = 4) ∧ rv ≠ 2 ∧ rv ≠ 5) (by omega)).symm | exact (decide_eq_false (p := ¬ (rv = 0 ∨ rv = 4) ∧ rv ≠ 2 ∧ rv ≠ 5) (by omega)).symm), rfl⟩)
    case rest =>
      obtain ⟨rfl, rfl, rfl, rfl, rfl⟩ := hcut
      have hd := decide_eq_false n2
      rw [hd]
      clear hd
      have hv0 : 0 ≤ v := by omega
      have htv := HTv.out hv0
      have n3 : ¬ ((i + 1 = Lg ∧ rv ≠ 0) ∨ (i = 0 ∧ rv ≠ 0 ∧ rv ≠ 4)) := by have := HCL.out; omega
      go_upto_region 6 with fail
      go_cut [2, 6, 7, 63] from 40 to 63 (fun s2 s6 s7 c wx => s2 = .int .i64 (i : Int) ∧ s6 = .int .i64 0 ∧ s7 = .int .i64 v ∧ c = .bool (decide ((i + 1 = Lg ∧ rv ≠ 0) ∨ (i = 0 ∧ rv ≠ 0 ∧ rv ≠ 4))) ∧ w1 = wx)
      case first =>
        by_cases q35 : i + 1 = Lg
        · have q35b0 : ((i : Int) == (Lg : Int) - 1) = true := beq_iff_eq.2 (by omega)
          by_cases q36 : rv = 0
          · have q36b0 : (rv != 0) = false := bne_eq_false_iff_eq.2 q36
            by_cases q37 : i = 0
            · have q37b0 : ((i : Int) == 0) = true := beq_iff_eq.2 (by omega)
              first
              | (exfalso; omega)
              | (go_wp2_with fail; all_goals (try go_meet); all_goals exact ⟨(by first | rfl | exact congrArg (Value.int .i64) (by omega)), (by first | rfl | exact congrArg (Value.int .i64) (by omega)), (by first | rfl | exact congrArg (Value.int .i64) (by omega)), congrArg Value.bool (by first | exact (decide_eq_true (p := (i + 1 = Lg ∧ rv ≠ 0) ∨ (i = 0 ∧ rv ≠ 0 ∧ rv ≠ 4)) (by omega)).symm | exact (decide_eq_false (p := (i + 1 = Lg ∧ rv ≠ 0) ∨ (i = 0 ∧ rv ≠ 0 ∧ rv ≠ 4)) (by omega)).symm), rfl⟩)
            · have q37b0 : ((i : Int) == 0) = false := beq_eq_false_iff_ne.2 (by omega)
              first
              | (exfalso; omega)
              | (go_wp2_with fail; all_goals (try go_meet); all_goals exact ⟨(by first | rfl | exact congrArg (Value.int .i64) (by omega)), (by first | rfl | exact congrArg (Value.int .i64) (by omega)), (by first | rfl | exact congrArg (Value.int .i64) (by omega)), congrArg Value.bool (by first | exact (decide_eq_true (p := (i + 1 = Lg ∧ rv ≠ 0) ∨ (i = 0 ∧ rv ≠ 0 ∧ rv ≠ 4)) (by omega)).symm | exact (decide_eq_false (p := (i + 1 = Lg ∧ rv ≠ 0) ∨ (i = 0 ∧ rv ≠ 0 ∧ rv ≠ 4)) (by omega)).symm), rfl⟩)
          · have q36b0 : (rv != 0) = true := bne_iff_ne.2 q36
            first
            | (exfalso; omega)
            | (go_wp2_with fail; all_goals (try go_meet); all_goals exact ⟨(by first | rfl | exact congrArg (Value.int .i64) (by omega)), (by first | rfl | exact congrArg (Value.int .i64) (by omega)), (by first | rfl | exact congrArg (Value.int .i64) (by omega)), congrArg Value.bool (by first | exact (decide_eq_true (p := (i + 1 = Lg ∧ rv ≠ 0) ∨ (i = 0 ∧ rv ≠ 0 ∧ rv ≠ 4)) (by omega)).symm | exact (decide_eq_false (p := (i + 1 = Lg ∧ rv ≠ 0) ∨ (i = 0 ∧ rv ≠ 0 ∧ rv ≠ 4)) (by omega)).symm), rfl⟩)
        · have q35b0 : ((i : Int) == (Lg : Int) - 1) = false := beq_eq_false_iff_ne.2 (by omega)
          by_cases q38 : i = 0
          · have q38b0 : ((i : Int) == 0) = true := beq_iff_eq.2 (by omega)
            by_cases q39 : rv = 0
            · have q39b0 : (rv != 0) = false := bne_eq_false_iff_eq.2 q39
              first
              | (exfalso; omega)
              | (go_wp2_with fail; all_goals (try go_meet); all_goals exact ⟨(by first | rfl | exact congrArg (Value.int .i64) (by omega)), (by first | rfl | exact congrArg (Value.int .i64) (by omega)), (by first | rfl | exact congrArg (Value.int .i64) (by omega)), congrArg Value.bool (by first | exact (decide_eq_true (p := (i + 1 = Lg ∧ rv ≠ 0) ∨ (i = 0 ∧ rv ≠ 0 ∧ rv ≠ 4)) (by omega)).symm | exact (decide_eq_false (p := (i + 1 = Lg ∧ rv ≠ 0) ∨ (i = 0 ∧ rv ≠ 0 ∧ rv ≠ 4)) (by omega)).symm), rfl⟩)
            · have q39b0 : (rv != 0) = true := bne_iff_ne.2 q39
              by_cases q40 : rv = 4
              · have q40b0 : (rv != 4) = false := bne_eq_false_iff_eq.2 q40
                first
                | (exfalso; omega)
                | (go_wp2_with fail; all_goals (try go_meet); all_goals exact ⟨(by first | rfl | exact congrArg (Value.int .i64) (by omega)), (by first | rfl | exact congrArg (Value.int .i64) (by omega)), (by first | rfl | exact congrArg (Value.int .i64) (by omega)), congrArg Value.bool (by first | exact (decide_eq_true (p := (i + 1 = Lg ∧ rv ≠ 0) ∨ (i = 0 ∧ rv ≠ 0 ∧ rv ≠ 4)) (by omega)).symm | exact (decide_eq_false (p := (i + 1 = Lg ∧ rv ≠ 0) ∨ (i = 0 ∧ rv ≠ 0 ∧ rv ≠ 4)) (by omega)).symm), rfl⟩)
              · have q40b0 : (rv != 4) = true := bne_iff_ne.2 q40
                first
                | (exfalso; omega)
                | (go_wp2_with fail; all_goals (try go_meet); all_goals exact ⟨(by first | rfl | exact congrArg (Value.int .i64) (by omega)), (by first | rfl | exact congrArg (Value.int .i64) (by omega)), (by first | rfl | exact congrArg (Value.int .i64) (by omega)), congrArg Value.bool (by first | exact (decide_eq_true (p := (i + 1 = Lg ∧ rv ≠ 0) ∨ (i = 0 ∧ rv ≠ 0 ∧ rv ≠ 4)) (by omega)).symm | exact (decide_eq_false (p := (i + 1 = Lg ∧ rv ≠ 0) ∨ (i = 0 ∧ rv ≠ 0 ∧ rv ≠ 4)) (by omega)).symm), rfl⟩)
          · have q38b0 : ((i : Int) == 0) = false := beq_eq_false_iff_ne.2 (by omega)
            first
            | (exfalso; omega)
            | (go_wp2_with fail; all_goals (try go_meet); all_goals exact ⟨(by first | rfl | exact congrArg (Value.int .i64) (by omega)), (by first | rfl | exact congrArg (Value.int .i64) (by omega)), (by first | rfl | exact congrArg (Value.int .i64) (by omega)), congrArg Value.bool (by first | exact (decide_eq_true (p := (i + 1 = Lg ∧ rv ≠ 0) ∨ (i = 0 ∧ rv ≠ 0 ∧ rv ≠ 4)) (by omega)).symm | exact (decide_eq_false (p := (i + 1 = Lg ∧ rv ≠ 0) ∨ (i = 0 ∧ rv ≠ 0 ∧ rv ≠ 4)) (by omega)).symm), rfl⟩)
      case rest =>
        obtain ⟨rfl, rfl, rfl, rfl, rfl⟩ := hcut
        clear htv
        have hd := decide_eq_false n3
        rw [hd]
        clear hd
        have n0 : ¬ (i = 0) := by have := HCL.out; omega
        have hd : ((i : Int) == 0) = false := beq_eq_false_iff_ne.2 (by omega)
        have hi1 : 1 ≤ i := by omega
        obtain ⟨z1, z2, z3⟩ := idx1 hi1 (show i < 1000 by omega)
        go_upto_region 10 with fail
        go_quiet (fail)
        go_upto_region 11 with fail
        obtain ⟨w2, hw2⟩ : ∃ W, w1.drewN nq = W := ⟨_, rfl⟩
        have HW2 := Lib.hid (show ∃ q, w2 = w.drewN q by obtain ⟨q, hq⟩ := HW1.out; exact ⟨q + nq, by rw [← hw2, hq, World.drewN_drewN]⟩)
        have k2 : ∀ a v, w1.cell? a = some v → w2.cell? a = some v := fun a v e => by rw [← hw2]; exact e
        have a4 := k2 _ _ a4
        have a5 := k2 _ _ a5
        rw [hw2, HMe.out, HGe.out, HUe.out]
        clear hw2 k2 a1 a2 a3 z1 z2 z3 HW1
        have HW1 := HW2
        clear HW2
        have n4 : 4 < am ∧ am ≠ 7 := by have := HCL.out; omega
        go_upto_region 11 with fail
        go_cut [2, 6, 7, 8, 9, 10, 104] from 64 to 104 (fun s2 s6 s7 s8 s9 s10 c wx => s2 = .int .i64 (i : Int) ∧ s6 = .int .i64 0 ∧ s7 = .int .i64 v ∧ s8 = .int .i64 m ∧ s9 = .int .i64 gm ∧ s10 = .int .i64 u ∧ c = .bool (decide (4 < am ∧ am ≠ 7)) ∧ w2 = wx)
        case first =>
          by_cases q41 : 4 < am
          · have q41b0 : (decide (4 < am)) = true := decide_eq_true q41
            by_cases q42 : am = 7
            · have q42b0 : (am != 7) = false := bne_eq_false_iff_eq.2 q42
              first
              | (exfalso; omega)
              | (go_wp2_with fail; refine (HAm.out _).mono ?_; rintro e wz ⟨rfl, rfl⟩; go_wp2_with fail; refine (HAm.out _).mono ?_; rintro e wz ⟨rfl, rfl⟩; go_wp2_with fail; all_goals (try go_meet); all_goals exact ⟨(by first | rfl | exact congrArg (Value.int .i64) (by omega)), (by first | rfl | exact congrArg (Value.int .i64) (by omega)), (by first | rfl | exact congrArg (Value.int .i64) (by omega)), (by first | rfl | exact congrArg (Value.int .i64) (by omega)), (by first | rfl | exact congrArg (Value.int .i64) (by omega)), (by first | rfl | exact congrArg (Value.int .i64) (by omega)), congrArg Value.bool (by first | exact (decide_eq_true (p := 4 < am ∧ am ≠ 7) (by omega)).symm | exact (decide_eq_false (p := 4 < am ∧ am ≠ 7) (by omega)).symm), rfl⟩)
            · have q42b0 : (am != 7) = true := bne_iff_ne.2 q42
              first
              | (exfalso; omega)
              | (go_wp2_with fail; refine (HAm.out _).mono ?_; rintro e wz ⟨rfl, rfl⟩; go_wp2_with fail; refine (HAm.out _).mono ?_; rintro e wz ⟨rfl, rfl⟩; go_wp2_with fail; all_goals (try go_meet); all_goals exact ⟨(by first | rfl | exact congrArg (Value.int .i64) (by omega)), (by first | rfl | exact congrArg (Value.int .i64) (by omega)), (by first | rfl | exact congrArg (Value.int .i64) (by omega)), (by first | rfl | exact congrArg (Value.int .i64) (by omega)), (by first | rfl | exact congrArg (Value.int .i64) (by omega)), (by first | rfl | exact congrArg (Value.int .i64) (by omega)), congrArg Value.bool (by first | exact (decide_eq_true (p := 4 < am ∧ am ≠ 7) (by omega)).symm | exact (decide_eq_false (p := 4 < am ∧ am ≠ 7) (by omega)).symm), rfl⟩)
          · have q41b0 : (decide (4 < am)) = false := decide_eq_false q41
            first
            | (exfalso; omega)
            | (go_wp2_with fail; refine (HAm.out _).mono ?_; rintro e wz ⟨rfl, rfl⟩; go_wp2_with fail; all_goals (try go_meet); all_goals exact ⟨(by first | rfl | exact congrArg (Value.int .i64) (by omega)), (by first | rfl | exact congrArg (Value.int .i64) (by omega)), (by first | rfl | exact congrArg (Value.int .i64) (by omega)), (by first | rfl | exact congrArg (Value.int .i64) (by omega)), (by first | rfl | exact congrArg (Value.int .i64) (by omega)), (by first | rfl | exact congrArg (Value.int .i64) (by omega)), congrArg Value.bool (by first | exact (decide_eq_true (p := 4 < am ∧ am ≠ 7) (by omega)).symm | exact (decide_eq_false (p := 4 < am ∧ am ≠ 7) (by omega)).symm), rfl⟩)
        case rest =>
          obtain ⟨rfl, rfl, rfl, rfl, rfl, rfl, rfl, rfl⟩ := hcut
          have hd := decide_eq_true n4
          rw [hd]
          clear hd
          go_wp2
          go_ret
          exact ⟨ret_int (by rw [← HBK.out]; unfold brk; rw [if_neg n1, if_neg n2, if_neg n3, if_neg n0, if_pos n4]; rfl), HW1.out⟩

set_option maxHeartbeats 40000000 in
theorem RBr_5 (i Lg Ls : Nat) (x y x1 y1 y2 v rv ru m am p gm : Int) (b1 o1 c1 b2 o2 c2 : Nat) (w : World) (hi : i < Ls) (hig : i < Lg) (g8 : Lg ≤ 8) (nx : 0 ≤ x ∧ x ≤ 20) (ny : 0 ≤ y ∧ y ≤ 20) (nx1 : 0 ≤ x1 ∧ x1 ≤ 20) (ny1 : 0 ≤ y1 ∧ y1 ≤ 20) (ny2 : 0 ≤ y2 ∧ y2 ≤ 20)
    (a1 : w.cell? ⟨b1, o1 + i, none⟩ = some (.int .i64 x)) (a2 : w.cell? ⟨b2, o2 + i, none⟩ = some (.int .i64 y)) (a3 : w.cell? ⟨b1, o1 + (i - 1), none⟩ = some (.int .i64 x1)) (a4 : w.cell? ⟨b2, o2 + (i - 1), none⟩ = some (.int .i64 y1)) (a5 : w.cell? ⟨b2, o2 + (i - 1 - 1), none⟩ = some (.int .i64 y2))
    (hv : y - x = v) (hrv : v % 7 = rv) (hru : (y1 - x1) % 7 = ru) (hm : y - y1 = m) (ham : absI m = am) (hgm : x - x1 = gm) (hp : y1 - y2 = p) (hcl : ((¬ (v < 0 ∨ 14 < v)) ∧ (¬ (¬ (rv = 0 ∨ rv = 4) ∧ rv ≠ 2 ∧ rv ≠ 5)) ∧ (¬ ((i + 1 = Lg ∧ rv ≠ 0) ∨ (i = 0 ∧ rv ≠ 0 ∧ rv ≠ 4))) ∧ (¬ (i = 0)) ∧ (¬ (4 < am ∧ am ≠ 7))) ∧ ((ru = 0 ∨ ru = 4) ∧ (rv = 0 ∨ rv = 4) ∧ ru = rv ∧ m ≠ 0)) :
    Calls Try.prog 85 #[.slice (some ⟨b1, o1, none⟩) Lg c1, .slice (some ⟨b2, o2, none⟩) Ls c2, .int .i64 (i : Int)] w fun e w' => e = .returned (.int .i64 (brk v rv ru m am p gm i Lg : Nat)) ∧ ∃ q, w' = w.drewN q := by
  have HCL := Lib.hid hcl
  clear hcl
  have HOv := Lib.hid (fun W => ropen_any v (by omega) W)
  have HOu := Lib.hid (fun W => ropen_any (y1 - x1) (by omega) W)
  have HSv := Lib.hid (fun W => rsort_any v (by omega) W)
  have HSu := Lib.hid (fun W => rsort_any (y1 - x1) (by omega) W)
  have HAm := Lib.hid (fun W => rabs_any m (by omega) W)
  rw [show openB v = decide (v % 7 = 0 ∨ v % 7 = 4) from rfl, hrv] at HOv
  rw [show openB (y1 - x1) = decide ((y1 - x1) % 7 = 0 ∨ (y1 - x1) % 7 = 4) from rfl, hru] at HOu
  rw [hrv] at HSv
  rw [hru] at HSu
  rw [ham] at HAm
  have HTv := Lib.hid (show 0 ≤ v → v.tmod 7 = rv from fun h => by rw [← hrv]; exact Int.tmod_eq_emod_of_nonneg h)
  have HVe := Lib.hid hv
  have HMe := Lib.hid hm
  have HGe := Lib.hid hgm
  have HPe := Lib.hid hp
  have hmb : -20 ≤ m ∧ m ≤ 20 := by omega
  have hpb : -20 ≤ p ∧ p ≤ 20 := by omega
  obtain ⟨u, hu⟩ : ∃ u, y1 - x1 = u := ⟨_, rfl⟩
  have HUe := Lib.hid hu
  rw [hu] at HOu HSu
  have hvb : -20 ≤ v ∧ v ≤ 20 := by omega
  clear hv hrv hru hm ham hgm hp hu
  obtain ⟨bk, hbk⟩ : ∃ bk, brk v rv ru m am p gm i Lg = bk := ⟨_, rfl⟩
  have HBK := Lib.hid hbk
  rw [hbk]
  clear hbk
  go_enter Try.func85, Try.ntmps85
  go_upto_region 1 with fail
  go_quiet (fail)
  obtain ⟨w1, hw1⟩ : ∃ W, w.drewN nq = W := ⟨_, rfl⟩
  have HW1 := Lib.hid (show ∃ q, w1 = w.drewN q from ⟨_, hw1.symm⟩)
  have k1 : ∀ a v, w.cell? a = some v → w1.cell? a = some v := fun a v e => by rw [← hw1]; exact e
  have a3 := k1 _ _ a3
  have a4 := k1 _ _ a4
  have a5 := k1 _ _ a5
  have a1 := k1 _ _ a1
  have a2 := k1 _ _ a2
  rw [hw1, HVe.out]
  clear hw1 k1
  have n1 : ¬ (v < 0 ∨ 14 < v) := by have := HCL.out; omega
  go_upto_region 2 with fail
  go_cut [2, 6, 7, 26] from 12 to 26 (fun s2 s6 s7 c wx => s2 = .int .i64 (i : Int) ∧ s6 = .int .i64 0 ∧ s7 = .int .i64 v ∧ c = .bool (decide (v < 0 ∨ 14 < v)) ∧ w1 = wx)
  case first =>
    by_cases q43 : v < 0
    · have q43b0 : (decide (v < 0)) = true := decide_eq_true q43
      first
      | (exfalso; omega)
      | (go_wp2_with fail; all_goals (try go_meet); all_goals exact ⟨(by first | rfl | exact congrArg (Value.int .i64) (by omega)), (by first | rfl | exact congrArg (Value.int .i64) (by omega)), (by first | rfl | exact congrArg (Value.int .i64) (by omega)), congrArg Value.bool (by first | exact (decide_eq_true (p := v < 0 ∨ 14 < v) (by omega)).symm | exact (decide_eq_false (p := v < 0 ∨ 14 < v) (by omega)).symm), rfl⟩)
    · have q43b0 : (decide (v < 0)) = false := decide_eq_false q43
      by_cases q44 : 14 < v
      · have q44b0 : (decide (14 < v)) = true := decide_eq_true q44
        first
        | (exfalso; omega)
        | (go_wp2_with fail; all_goals (try go_meet); all_goals exact ⟨(by first | rfl | exact congrArg (Value.int .i64) (by omega)), (by first | rfl | exact congrArg (Value.int .i64) (by omega)), (by first | rfl | exact congrArg (Value.int .i64) (by omega)), congrArg Value.bool (by first | exact (decide_eq_true (p := v < 0 ∨ 14 < v) (by omega)).symm | exact (decide_eq_false (p := v < 0 ∨ 14 < v) (by omega)).symm), rfl⟩)
      · have q44b0 : (decide (14 < v)) = false := decide_eq_false q44
        first
        | (exfalso; omega)
        | (go_wp2_with fail; all_goals (try go_meet); all_goals exact ⟨(by first | rfl | exact congrArg (Value.int .i64) (by omega)), (by first | rfl | exact congrArg (Value.int .i64) (by omega)), (by first | rfl | exact congrArg (Value.int .i64) (by omega)), congrArg Value.bool (by first | exact (decide_eq_true (p := v < 0 ∨ 14 < v) (by omega)).symm | exact (decide_eq_false (p := v < 0 ∨ 14 < v) (by omega)).symm), rfl⟩)
  case rest =>
    obtain ⟨rfl, rfl, rfl, rfl, rfl⟩ := hcut
    have hd := decide_eq_false n1
    rw [hd]
    clear hd
    have n2 : ¬ (¬ (rv = 0 ∨ rv = 4) ∧ rv ≠ 2 ∧ rv ≠ 5) := by have := HCL.out; omega
    go_upto_region 4 with fail
    go_cut [2, 6, 7, 39] from 27 to 39 (fun s2 s6 s7 c wx => s2 = .int .i64 (i : Int) ∧ s6 = .int .i64 0 ∧ s7 = .int .i64 v ∧ c = .bool (decide (¬ (rv = 0 ∨ rv = 4) ∧ rv ≠ 2 ∧ rv ≠ 5)) ∧ w1 = wx)
    case first =>
      by_cases q45 : rv = 0 ∨ rv = 4
      · have q45b0 : (decide (rv = 0 ∨ rv = 4)) = true := decide_eq_true q45
        first
        | (exfalso; omega)
        | (go_wp2_with fail; refine (HOv.out _).mono ?_; rintro e wz ⟨rfl, rfl⟩; go_wp2_with fail; all_goals (try go_meet); all_goals exact ⟨(by first | rfl | exact congrArg (Value.int .i64) (by omega)), (by first | rfl | exact congrArg (Value.int .i64) (by omega)), (by first | rfl | exact congrArg (Value.int .i64) (by omega)), congrArg Value.bool (by first | exact (decide_eq_true (p := ¬ (rv = 0 ∨ rv = 4) ∧ rv ≠ 2 ∧ rv ≠ 5) (by omega)).symm | exact (decide_eq_false (p := ¬ (rv = 0 ∨ rv = 4) ∧ rv ≠ 2 ∧ rv ≠ 5) (by omega)).symm), rfl⟩)
      · have q45b0 : (decide (rv = 0 ∨ rv = 4)) = false := decide_eq_false q45
        by_cases q46 : rv = 2
        · have q46b0 : (rv != 2) = false := bne_eq_false_iff_eq.2 q46
          first
          | (exfalso; omega)
          | (go_wp2_with fail; refine (HOv.out _).mono ?_; rintro e wz ⟨rfl, rfl⟩; go_wp2_with fail; refine (HSv.out _).mono ?_; rintro e wz ⟨rfl, rfl⟩; go_wp2_with fail; all_goals (try go_meet); all_goals exact ⟨(by first | rfl | exact congrArg (Value.int .i64) (by omega)), (by first | rfl | exact congrArg (Value.int .i64) (by omega)), (by first | rfl | exact congrArg (Value.int .i64) (by omega)), congrArg Value.bool (by first | exact (decide_eq_true (p := ¬ (rv = 0 ∨ rv = 4) ∧ rv ≠ 2 ∧ rv ≠ 5) (by omega)).symm | exact (decide_eq_false (p := ¬ (rv = 0 ∨ rv = 4) ∧ rv ≠ 2 ∧ rv ≠ 5) (by omega)).symm), rfl⟩)
        · have q46b0 : (rv != 2) = true := bne_iff_ne.2 q46
          by_cases q47 : rv = 5
          · have q47b0 : (rv != 5) = false := bne_eq_false_iff_eq.2 q47
            first
            | (exfalso; omega)
            | (go_wp2_with fail; refine (HOv.out _).mono ?_; rintro e wz ⟨rfl, rfl⟩; go_wp2_with fail; refine (HSv.out _).mono ?_; rintro e wz ⟨rfl, rfl⟩; go_wp2_with fail; refine (HSv.out _).mono ?_; rintro e wz ⟨rfl, rfl⟩; go_wp2_with fail; all_goals (try go_meet); all_goals exact ⟨(by first | rfl | exact congrArg (Value.int .i64) (by omega)), (by first | rfl | exact congrArg (Value.int .i64) (by omega)), (by first | rfl | exact congrArg (Value.int .i64) (by omega)), congrArg Value.bool (by first | exact (decide_eq_true (p := ¬ (rv = 0 ∨ rv = 4) ∧ rv ≠ 2 ∧ rv ≠ 5) (by omega)).symm | exact (decide_eq_false (p := ¬ (rv = 0 ∨ rv = 4) ∧ rv ≠ 2 ∧ rv ≠ 5) (by omega)).symm), rfl⟩)
          · have q47b0 : (rv != 5) = true := bne_iff_ne.2 q47
            first
            | (exfalso; omega)
            | (go_wp2_with fail; refine (HOv.out _).mono ?_; rintro e wz ⟨rfl, rfl⟩; go_wp2_with fail; refine (HSv.out _).mono ?_; rintro e wz ⟨rfl, rfl⟩; go_wp2_with fail; refine (HSv.out _).mono ?_; rintro e wz ⟨rfl, rfl⟩; go_wp2_with fail; all_goals (try go_meet); all_goals exact ⟨(by first | rfl | exact congrArg (Value.int .i64) (by omega)), (by first | rfl | exact congrArg (Value.int .i64) (by omega)), (by first | rfl | exact congrArg (Value.int .i64) (by omega)), congrArg Value.bool (by first | exact (decide_eq_true (p := ¬ (rv = 0 ∨ rv = 4) ∧ rv ≠ 2 ∧ rv ≠ 5) (by omega)).symm | exact (decide_eq_false (p := ¬ (rv = 0 ∨ rv = 4) ∧ rv ≠ 2 ∧ rv ≠ 5) (by omega)).symm), rfl⟩)
    case rest =>
      obtain ⟨rfl, rfl, rfl, rfl, rfl⟩ := hcut
      have hd := decide_eq_false n2
      rw [hd]
      clear hd
      have hv0 : 0 ≤ v := by omega
      have htv := HTv.out hv0
      have n3 : ¬ ((i + 1 = Lg ∧ rv ≠ 0) ∨ (i = 0 ∧ rv ≠ 0 ∧ rv ≠ 4)) := by have := HCL.out; omega
      go_upto_region 6 with fail
      go_cut [2, 6, 7, 63] from 40 to 63 (fun s2 s6 s7 c wx => s2 = .int .i64 (i : Int) ∧ s6 = .int .i64 0 ∧ s7 = .int .i64 v ∧ c = .bool (decide ((i + 1 = Lg ∧ rv ≠ 0) ∨ (i = 0 ∧ rv ≠ 0 ∧ rv ≠ 4))) ∧ w1 = wx)
      case first =>
        by_cases q48 : i + 1 = Lg
        · have q48b0 : ((i : Int) == (Lg : Int) - 1) = true := beq_iff_eq.2 (by omega)
          by_cases q49 : rv = 0
          · have q49b0 : (rv != 0) = false := bne_eq_false_iff_eq.2 q49
            by_cases q50 : i = 0
            · have q50b0 : ((i : Int) == 0) = true := beq_iff_eq.2 (by omega)
              first
              | (exfalso; omega)
              | (go_wp2_with fail; all_goals (try go_meet); all_goals exact ⟨(by first | rfl | exact congrArg (Value.int .i64) (by omega)), (by first | rfl | exact congrArg (Value.int .i64) (by omega)), (by first | rfl | exact congrArg (Value.int .i64) (by omega)), congrArg Value.bool (by first | exact (decide_eq_true (p := (i + 1 = Lg ∧ rv ≠ 0) ∨ (i = 0 ∧ rv ≠ 0 ∧ rv ≠ 4)) (by omega)).symm | exact (decide_eq_false (p := (i + 1 = Lg ∧ rv ≠ 0) ∨ (i = 0 ∧ rv ≠ 0 ∧ rv ≠ 4)) (by omega)).symm), rfl⟩)
            · have q50b0 : ((i : Int) == 0) = false := beq_eq_false_iff_ne.2 (by omega)
              first
              | (exfalso; omega)
              | (go_wp2_with fail; all_goals (try go_meet); all_goals exact ⟨(by first | rfl | exact congrArg (Value.int .i64) (by omega)), (by first | rfl | exact congrArg (Value.int .i64) (by omega)), (by first | rfl | exact congrArg (Value.int .i64) (by omega)), congrArg Value.bool (by first | exact (decide_eq_true (p := (i + 1 = Lg ∧ rv ≠ 0) ∨ (i = 0 ∧ rv ≠ 0 ∧ rv ≠ 4)) (by omega)).symm | exact (decide_eq_false (p := (i + 1 = Lg ∧ rv ≠ 0) ∨ (i = 0 ∧ rv ≠ 0 ∧ rv ≠ 4)) (by omega)).symm), rfl⟩)
          · have q49b0 : (rv != 0) = true := bne_iff_ne.2 q49
            first
            | (exfalso; omega)
            | (go_wp2_with fail; all_goals (try go_meet); all_goals exact ⟨(by first | rfl | exact congrArg (Value.int .i64) (by omega)), (by first | rfl | exact congrArg (Value.int .i64) (by omega)), (by first | rfl | exact congrArg (Value.int .i64) (by omega)), congrArg Value.bool (by first | exact (decide_eq_true (p := (i + 1 = Lg ∧ rv ≠ 0) ∨ (i = 0 ∧ rv ≠ 0 ∧ rv ≠ 4)) (by omega)).symm | exact (decide_eq_false (p := (i + 1 = Lg ∧ rv ≠ 0) ∨ (i = 0 ∧ rv ≠ 0 ∧ rv ≠ 4)) (by omega)).symm), rfl⟩)
        · have q48b0 : ((i : Int) == (Lg : Int) - 1) = false := beq_eq_false_iff_ne.2 (by omega)
          by_cases q51 : i = 0
          · have q51b0 : ((i : Int) == 0) = true := beq_iff_eq.2 (by omega)
            by_cases q52 : rv = 0
            · have q52b0 : (rv != 0) = false := bne_eq_false_iff_eq.2 q52
              first
              | (exfalso; omega)
              | (go_wp2_with fail; all_goals (try go_meet); all_goals exact ⟨(by first | rfl | exact congrArg (Value.int .i64) (by omega)), (by first | rfl | exact congrArg (Value.int .i64) (by omega)), (by first | rfl | exact congrArg (Value.int .i64) (by omega)), congrArg Value.bool (by first | exact (decide_eq_true (p := (i + 1 = Lg ∧ rv ≠ 0) ∨ (i = 0 ∧ rv ≠ 0 ∧ rv ≠ 4)) (by omega)).symm | exact (decide_eq_false (p := (i + 1 = Lg ∧ rv ≠ 0) ∨ (i = 0 ∧ rv ≠ 0 ∧ rv ≠ 4)) (by omega)).symm), rfl⟩)
            · have q52b0 : (rv != 0) = true := bne_iff_ne.2 q52
              by_cases q53 : rv = 4
              · have q53b0 : (rv != 4) = false := bne_eq_false_iff_eq.2 q53
                first
                | (exfalso; omega)
                | (go_wp2_with fail; all_goals (try go_meet); all_goals exact ⟨(by first | rfl | exact congrArg (Value.int .i64) (by omega)), (by first | rfl | exact congrArg (Value.int .i64) (by omega)), (by first | rfl | exact congrArg (Value.int .i64) (by omega)), congrArg Value.bool (by first | exact (decide_eq_true (p := (i + 1 = Lg ∧ rv ≠ 0) ∨ (i = 0 ∧ rv ≠ 0 ∧ rv ≠ 4)) (by omega)).symm | exact (decide_eq_false (p := (i + 1 = Lg ∧ rv ≠ 0) ∨ (i = 0 ∧ rv ≠ 0 ∧ rv ≠ 4)) (by omega)).symm), rfl⟩)
              · have q53b0 : (rv != 4) = true := bne_iff_ne.2 q53
                first
                | (exfalso; omega)
                | (go_wp2_with fail; all_goals (try go_meet); all_goals exact ⟨(by first | rfl | exact congrArg (Value.int .i64) (by omega)), (by first | rfl | exact congrArg (Value.int .i64) (by omega)), (by first | rfl | exact congrArg (Value.int .i64) (by omega)), congrArg Value.bool (by first | exact (decide_eq_true (p := (i + 1 = Lg ∧ rv ≠ 0) ∨ (i = 0 ∧ rv ≠ 0 ∧ rv ≠ 4)) (by omega)).symm | exact (decide_eq_false (p := (i + 1 = Lg ∧ rv ≠ 0) ∨ (i = 0 ∧ rv ≠ 0 ∧ rv ≠ 4)) (by omega)).symm), rfl⟩)
          · have q51b0 : ((i : Int) == 0) = false := beq_eq_false_iff_ne.2 (by omega)
            first
            | (exfalso; omega)
            | (go_wp2_with fail; all_goals (try go_meet); all_goals exact ⟨(by first | rfl | exact congrArg (Value.int .i64) (by omega)), (by first | rfl | exact congrArg (Value.int .i64) (by omega)), (by first | rfl | exact congrArg (Value.int .i64) (by omega)), congrArg Value.bool (by first | exact (decide_eq_true (p := (i + 1 = Lg ∧ rv ≠ 0) ∨ (i = 0 ∧ rv ≠ 0 ∧ rv ≠ 4)) (by omega)).symm | exact (decide_eq_false (p := (i + 1 = Lg ∧ rv ≠ 0) ∨ (i = 0 ∧ rv ≠ 0 ∧ rv ≠ 4)) (by omega)).symm), rfl⟩)
      case rest =>
        obtain ⟨rfl, rfl, rfl, rfl, rfl⟩ := hcut
        clear htv
        have hd := decide_eq_false n3
        rw [hd]
        clear hd
        have n0 : ¬ (i = 0) := by have := HCL.out; omega
        have hd : ((i : Int) == 0) = false := beq_eq_false_iff_ne.2 (by omega)
        have hi1 : 1 ≤ i := by omega
        obtain ⟨z1, z2, z3⟩ := idx1 hi1 (show i < 1000 by omega)
        go_upto_region 10 with fail
        go_quiet (fail)
        go_upto_region 11 with fail
        obtain ⟨w2, hw2⟩ : ∃ W, w1.drewN nq = W := ⟨_, rfl⟩
        have HW2 := Lib.hid (show ∃ q, w2 = w.drewN q by obtain ⟨q, hq⟩ := HW1.out; exact ⟨q + nq, by rw [← hw2, hq, World.drewN_drewN]⟩)
        have k2 : ∀ a v, w1.cell? a = some v → w2.cell? a = some v := fun a v e => by rw [← hw2]; exact e
        have a4 := k2 _ _ a4
        have a5 := k2 _ _ a5
        rw [hw2, HMe.out, HGe.out, HUe.out]
        clear hw2 k2 a1 a2 a3 z1 z2 z3 HW1
        have HW1 := HW2
        clear HW2
        have n4 : ¬ (4 < am ∧ am ≠ 7) := by have := HCL.out; omega
        go_upto_region 11 with fail
        go_cut [2, 6, 7, 8, 9, 10, 104] from 64 to 104 (fun s2 s6 s7 s8 s9 s10 c wx => s2 = .int .i64 (i : Int) ∧ s6 = .int .i64 0 ∧ s7 = .int .i64 v ∧ s8 = .int .i64 m ∧ s9 = .int .i64 gm ∧ s10 = .int .i64 u ∧ c = .bool (decide (4 < am ∧ am ≠ 7)) ∧ w2 = wx)
        case first =>
          by_cases q54 : 4 < am
          · have q54b0 : (decide (4 < am)) = true := decide_eq_true q54
            by_cases q55 : am = 7
            · have q55b0 : (am != 7) = false := bne_eq_false_iff_eq.2 q55
              first
              | (exfalso; omega)
              | (go_wp2_with fail; refine (HAm.out _).mono ?_; rintro e wz ⟨rfl, rfl⟩; go_wp2_with fail; refine (HAm.out _).mono ?_; rintro e wz ⟨rfl, rfl⟩; go_wp2_with fail; all_goals (try go_meet); all_goals exact ⟨(by first | rfl | exact congrArg (Value.int .i64) (by omega)), (by first | rfl | exact congrArg (Value.int .i64) (by omega)), (by first | rfl | exact congrArg (Value.int .i64) (by omega)), (by first | rfl | exact congrArg (Value.int .i64) (by omega)), (by first | rfl | exact congrArg (Value.int .i64) (by omega)), (by first | rfl | exact congrArg (Value.int .i64) (by omega)), congrArg Value.bool (by first | exact (decide_eq_true (p := 4 < am ∧ am ≠ 7) (by omega)).symm | exact (decide_eq_false (p := 4 < am ∧ am ≠ 7) (by omega)).symm), rfl⟩)
            · have q55b0 : (am != 7) = true := bne_iff_ne.2 q55
              first
              | (exfalso; omega)
              | (go_wp2_with fail; refine (HAm.out _).mono ?_; rintro e wz ⟨rfl, rfl⟩; go_wp2_with fail; refine (HAm.out _).mono ?_; rintro e wz ⟨rfl, rfl⟩; go_wp2_with fail; all_goals (try go_meet); all_goals exact ⟨(by first | rfl | exact congrArg (Value.int .i64) (by omega)), (by first | rfl | exact congrArg (Value.int .i64) (by omega)), (by first | rfl | exact congrArg (Value.int .i64) (by omega)), (by first | rfl | exact congrArg (Value.int .i64) (by omega)), (by first | rfl | exact congrArg (Value.int .i64) (by omega)), (by first | rfl | exact congrArg (Value.int .i64) (by omega)), congrArg Value.bool (by first | exact (decide_eq_true (p := 4 < am ∧ am ≠ 7) (by omega)).symm | exact (decide_eq_false (p := 4 < am ∧ am ≠ 7) (by omega)).symm), rfl⟩)
          · have q54b0 : (decide (4 < am)) = false := decide_eq_false q54
            first
            | (exfalso; omega)
            | (go_wp2_with fail; refine (HAm.out _).mono ?_; rintro e wz ⟨rfl, rfl⟩; go_wp2_with fail; all_goals (try go_meet); all_goals exact ⟨(by first | rfl | exact congrArg (Value.int .i64) (by omega)), (by first | rfl | exact congrArg (Value.int .i64) (by omega)), (by first | rfl | exact congrArg (Value.int .i64) (by omega)), (by first | rfl | exact congrArg (Value.int .i64) (by omega)), (by first | rfl | exact congrArg (Value.int .i64) (by omega)), (by first | rfl | exact congrArg (Value.int .i64) (by omega)), congrArg Value.bool (by first | exact (decide_eq_true (p := 4 < am ∧ am ≠ 7) (by omega)).symm | exact (decide_eq_false (p := 4 < am ∧ am ≠ 7) (by omega)).symm), rfl⟩)
        case rest =>
          obtain ⟨rfl, rfl, rfl, rfl, rfl, rfl, rfl, rfl⟩ := hcut
          have hd := decide_eq_false n4
          rw [hd]
          clear hd
          have n5 : (ru = 0 ∨ ru = 4) ∧ (rv = 0 ∨ rv = 4) ∧ ru = rv ∧ m ≠ 0 := by have := HCL.out; omega
          go_upto_region 13 with fail
          go_cut [2, 6, 7, 8, 9, 10, 121] from 105 to 121 (fun s2 s6 s7 s8 s9 s10 c wx => s2 = .int .i64 (i : Int) ∧ s6 = .int .i64 0 ∧ s7 = .int .i64 v ∧ s8 = .int .i64 m ∧ s9 = .int .i64 gm ∧ s10 = .int .i64 u ∧ c = .bool (decide ((ru = 0 ∨ ru = 4) ∧ (rv = 0 ∨ rv = 4) ∧ ru = rv ∧ m ≠ 0)) ∧ w2 = wx)
          case first =>
            by_cases q56 : ru = 0 ∨ ru = 4
            · have q56b0 : (decide (ru = 0 ∨ ru = 4)) = true := decide_eq_true q56
              by_cases q57 : rv = 0 ∨ rv = 4
              · have q57b0 : (decide (rv = 0 ∨ rv = 4)) = true := decide_eq_true q57
                by_cases q58 : ru = rv
                · have q58b0 : (ru == rv) = true := beq_iff_eq.2 q58
                  by_cases q59 : m = 0
                  · have q59b0 : (m != 0) = false := bne_eq_false_iff_eq.2 q59
                    first
                    | (exfalso; omega)
                    | (go_wp2_with fail; refine (HOu.out _).mono ?_; rintro e wz ⟨rfl, rfl⟩; go_wp2_with fail; refine (HOv.out _).mono ?_; rintro e wz ⟨rfl, rfl⟩; go_wp2_with fail; refine (HSu.out _).mono ?_; rintro e wz ⟨rfl, rfl⟩; go_wp2_with fail; refine (HSv.out _).mono ?_; rintro e wz ⟨rfl, rfl⟩; go_wp2_with fail; all_goals (try go_meet); all_goals exact ⟨(by first | rfl | exact congrArg (Value.int .i64) (by omega)), (by first | rfl | exact congrArg (Value.int .i64) (by omega)), (by first | rfl | exact congrArg (Value.int .i64) (by omega)), (by first | rfl | exact congrArg (Value.int .i64) (by omega)), (by first | rfl | exact congrArg (Value.int .i64) (by omega)), (by first | rfl | exact congrArg (Value.int .i64) (by omega)), congrArg Value.bool (by first | exact (decide_eq_true (p := (ru = 0 ∨ ru = 4) ∧ (rv = 0 ∨ rv = 4) ∧ ru = rv ∧ m ≠ 0) (by omega)).symm | exact (decide_eq_false (p := (ru = 0 ∨ ru = 4) ∧ (rv = 0 ∨ rv = 4) ∧ ru = rv ∧ m ≠ 0) (by omega)).symm), rfl⟩)
                  · have q59b0 : (m != 0) = true := bne_iff_ne.2 q59
                    first
                    | (exfalso; omega)
                    | (go_wp2_with fail; refine (HOu.out _).mono ?_; rintro e wz ⟨rfl, rfl⟩; go_wp2_with fail; refine (HOv.out _).mono ?_; rintro e wz ⟨rfl, rfl⟩; go_wp2_with fail; refine (HSu.out _).mono ?_; rintro e wz ⟨rfl, rfl⟩; go_wp2_with fail; refine (HSv.out _).mono ?_; rintro e wz ⟨rfl, rfl⟩; go_wp2_with fail; all_goals (try go_meet); all_goals exact ⟨(by first | rfl | exact congrArg (Value.int .i64) (by omega)), (by first | rfl | exact congrArg (Value.int .i64) (by omega)), (by first | rfl | exact congrArg (Value.int .i64) (by omega)), (by first | rfl | exact congrArg (Value.int .i64) (by omega)), (by first | rfl | exact congrArg (Value.int .i64) (by omega)), (by first | rfl | exact congrArg (Value.int .i64) (by omega)), congrArg Value.bool (by first | exact (decide_eq_true (p := (ru = 0 ∨ ru = 4) ∧ (rv = 0 ∨ rv = 4) ∧ ru = rv ∧ m ≠ 0) (by omega)).symm | exact (decide_eq_false (p := (ru = 0 ∨ ru = 4) ∧ (rv = 0 ∨ rv = 4) ∧ ru = rv ∧ m ≠ 0) (by omega)).symm), rfl⟩)
                · have q58b0 : (ru == rv) = false := beq_eq_false_iff_ne.2 q58
                  first
                  | (exfalso; omega)
                  | (go_wp2_with fail; refine (HOu.out _).mono ?_; rintro e wz ⟨rfl, rfl⟩; go_wp2_with fail; refine (HOv.out _).mono ?_; rintro e wz ⟨rfl, rfl⟩; go_wp2_with fail; refine (HSu.out _).mono ?_; rintro e wz ⟨rfl, rfl⟩; go_wp2_with fail; refine (HSv.out _).mono ?_; rintro e wz ⟨rfl, rfl⟩; go_wp2_with fail; all_goals (try go_meet); all_goals exact ⟨(by first | rfl | exact congrArg (Value.int .i64) (by omega)), (by first | rfl | exact congrArg (Value.int .i64) (by omega)), (by first | rfl | exact congrArg (Value.int .i64) (by omega)), (by first | rfl | exact congrArg (Value.int .i64) (by omega)), (by first | rfl | exact congrArg (Value.int .i64) (by omega)), (by first | rfl | exact congrArg (Value.int .i64) (by omega)), congrArg Value.bool (by first | exact (decide_eq_true (p := (ru = 0 ∨ ru = 4) ∧ (rv = 0 ∨ rv = 4) ∧ ru = rv ∧ m ≠ 0) (by omega)).symm | exact (decide_eq_false (p := (ru = 0 ∨ ru = 4) ∧ (rv = 0 ∨ rv = 4) ∧ ru = rv ∧ m ≠ 0) (by omega)).symm), rfl⟩)
              · have q57b0 : (decide (rv = 0 ∨ rv = 4)) = false := decide_eq_false q57
                first
                | (exfalso; omega)
                | (go_wp2_with fail; refine (HOu.out _).mono ?_; rintro e wz ⟨rfl, rfl⟩; go_wp2_with fail; refine (HOv.out _).mono ?_; rintro e wz ⟨rfl, rfl⟩; go_wp2_with fail; all_goals (try go_meet); all_goals exact ⟨(by first | rfl | exact congrArg (Value.int .i64) (by omega)), (by first | rfl | exact congrArg (Value.int .i64) (by omega)), (by first | rfl | exact congrArg (Value.int .i64) (by omega)), (by first | rfl | exact congrArg (Value.int .i64) (by omega)), (by first | rfl | exact congrArg (Value.int .i64) (by omega)), (by first | rfl | exact congrArg (Value.int .i64) (by omega)), congrArg Value.bool (by first | exact (decide_eq_true (p := (ru = 0 ∨ ru = 4) ∧ (rv = 0 ∨ rv = 4) ∧ ru = rv ∧ m ≠ 0) (by omega)).symm | exact (decide_eq_false (p := (ru = 0 ∨ ru = 4) ∧ (rv = 0 ∨ rv = 4) ∧ ru = rv ∧ m ≠ 0) (by omega)).symm), rfl⟩)
            · have q56b0 : (decide (ru = 0 ∨ ru = 4)) = false := decide_eq_false q56
              first
              | (exfalso; omega)
              | (go_wp2_with fail; refine (HOu.out _).mono ?_; rintro e wz ⟨rfl, rfl⟩; go_wp2_with fail; all_goals (try go_meet); all_goals exact ⟨(by first | rfl | exact congrArg (Value.int .i64) (by omega)), (by first | rfl | exact congrArg (Value.int .i64) (by omega)), (by first | rfl | exact congrArg (Value.int .i64) (by omega)), (by first | rfl | exact congrArg (Value.int .i64) (by omega)), (by first | rfl | exact congrArg (Value.int .i64) (by omega)), (by first | rfl | exact congrArg (Value.int .i64) (by omega)), congrArg Value.bool (by first | exact (decide_eq_true (p := (ru = 0 ∨ ru = 4) ∧ (rv = 0 ∨ rv = 4) ∧ ru = rv ∧ m ≠ 0) (by omega)).symm | exact (decide_eq_false (p := (ru = 0 ∨ ru = 4) ∧ (rv = 0 ∨ rv = 4) ∧ ru = rv ∧ m ≠ 0) (by omega)).symm), rfl⟩)
          case rest =>
            obtain ⟨rfl, rfl, rfl, rfl, rfl, rfl, rfl, rfl⟩ := hcut
            have hd := decide_eq_true n5
            rw [hd]
            clear hd
            go_wp2
            go_ret
            exact ⟨ret_int (by rw [← HBK.out]; unfold brk; rw [if_neg n1, if_neg n2, if_neg n3, if_neg n0, if_neg n4, if_pos n5]; rfl), HW1.out⟩

set_option maxHeartbeats 40000000 in
theorem RBr_6 (i Lg Ls : Nat) (x y x1 y1 y2 v rv ru m am p gm : Int) (b1 o1 c1 b2 o2 c2 : Nat) (w : World) (hi : i < Ls) (hig : i < Lg) (g8 : Lg ≤ 8) (nx : 0 ≤ x ∧ x ≤ 20) (ny : 0 ≤ y ∧ y ≤ 20) (nx1 : 0 ≤ x1 ∧ x1 ≤ 20) (ny1 : 0 ≤ y1 ∧ y1 ≤ 20) (ny2 : 0 ≤ y2 ∧ y2 ≤ 20)
    (a1 : w.cell? ⟨b1, o1 + i, none⟩ = some (.int .i64 x)) (a2 : w.cell? ⟨b2, o2 + i, none⟩ = some (.int .i64 y)) (a3 : w.cell? ⟨b1, o1 + (i - 1), none⟩ = some (.int .i64 x1)) (a4 : w.cell? ⟨b2, o2 + (i - 1), none⟩ = some (.int .i64 y1)) (a5 : w.cell? ⟨b2, o2 + (i - 1 - 1), none⟩ = some (.int .i64 y2))
    (hv : y - x = v) (hrv : v % 7 = rv) (hru : (y1 - x1) % 7 = ru) (hm : y - y1 = m) (ham : absI m = am) (hgm : x - x1 = gm) (hp : y1 - y2 = p) (hcl : ((¬ (v < 0 ∨ 14 < v)) ∧ (¬ (¬ (rv = 0 ∨ rv = 4) ∧ rv ≠ 2 ∧ rv ≠ 5)) ∧ (¬ ((i + 1 = Lg ∧ rv ≠ 0) ∨ (i = 0 ∧ rv ≠ 0 ∧ rv ≠ 4))) ∧ (¬ (i = 0)) ∧ (¬ (4 < am ∧ am ≠ 7))) ∧ (¬ ((ru = 0 ∨ ru = 4) ∧ (rv = 0 ∨ rv = 4) ∧ ru = rv ∧ m ≠ 0)) ∧ ((rv = 0 ∨ rv = 4) ∧ ((0 < m ∧ 0 < gm) ∨ (m < 0 ∧ gm < 0)) ∧ am ≠ 1)) :
    Calls Try.prog 85 #[.slice (some ⟨b1, o1, none⟩) Lg c1, .slice (some ⟨b2, o2, none⟩) Ls c2, .int .i64 (i : Int)] w fun e w' => e = .returned (.int .i64 (brk v rv ru m am p gm i Lg : Nat)) ∧ ∃ q, w' = w.drewN q := by
  have HCL := Lib.hid hcl
  clear hcl
  have HOv := Lib.hid (fun W => ropen_any v (by omega) W)
  have HOu := Lib.hid (fun W => ropen_any (y1 - x1) (by omega) W)
  have HSv := Lib.hid (fun W => rsort_any v (by omega) W)
  have HSu := Lib.hid (fun W => rsort_any (y1 - x1) (by omega) W)
  have HAm := Lib.hid (fun W => rabs_any m (by omega) W)
  rw [show openB v = decide (v % 7 = 0 ∨ v % 7 = 4) from rfl, hrv] at HOv
  rw [show openB (y1 - x1) = decide ((y1 - x1) % 7 = 0 ∨ (y1 - x1) % 7 = 4) from rfl, hru] at HOu
  rw [hrv] at HSv
  rw [hru] at HSu
  rw [ham] at HAm
  have HTv := Lib.hid (show 0 ≤ v → v.tmod 7 = rv from fun h => by rw [← hrv]; exact Int.tmod_eq_emod_of_nonneg h)
  have HVe := Lib.hid hv
  have HMe := Lib.hid hm
  have HGe := Lib.hid hgm
  have HPe := Lib.hid hp
  have hmb : -20 ≤ m ∧ m ≤ 20 := by omega
  have hpb : -20 ≤ p ∧ p ≤ 20 := by omega
  obtain ⟨u, hu⟩ : ∃ u, y1 - x1 = u := ⟨_, rfl⟩
  have HUe := Lib.hid hu
  rw [hu] at HOu HSu
  have hvb : -20 ≤ v ∧ v ≤ 20 := by omega
  clear hv hrv hru hm ham hgm hp hu
  obtain ⟨bk, hbk⟩ : ∃ bk, brk v rv ru m am p gm i Lg = bk := ⟨_, rfl⟩
  have HBK := Lib.hid hbk
  rw [hbk]
  clear hbk
  go_enter Try.func85, Try.ntmps85
  go_upto_region 1 with fail
  go_quiet (fail)
  obtain ⟨w1, hw1⟩ : ∃ W, w.drewN nq = W := ⟨_, rfl⟩
  have HW1 := Lib.hid (show ∃ q, w1 = w.drewN q from ⟨_, hw1.symm⟩)
  have k1 : ∀ a v, w.cell? a = some v → w1.cell? a = some v := fun a v e => by rw [← hw1]; exact e
  have a3 := k1 _ _ a3
  have a4 := k1 _ _ a4
  have a5 := k1 _ _ a5
  have a1 := k1 _ _ a1
  have a2 := k1 _ _ a2
  rw [hw1, HVe.out]
  clear hw1 k1
  have n1 : ¬ (v < 0 ∨ 14 < v) := by have := HCL.out; omega
  go_upto_region 2 with fail
  go_cut [2, 6, 7, 26] from 12 to 26 (fun s2 s6 s7 c wx => s2 = .int .i64 (i : Int) ∧ s6 = .int .i64 0 ∧ s7 = .int .i64 v ∧ c = .bool (decide (v < 0 ∨ 14 < v)) ∧ w1 = wx)
  case first =>
    by_cases q60 : v < 0
    · have q60b0 : (decide (v < 0)) = true := decide_eq_true q60
      first
      | (exfalso; omega)
      | (go_wp2_with fail; all_goals (try go_meet); all_goals exact ⟨(by first | rfl | exact congrArg (Value.int .i64) (by omega)), (by first | rfl | exact congrArg (Value.int .i64) (by omega)), (by first | rfl | exact congrArg (Value.int .i64) (by omega)), congrArg Value.bool (by first | exact (decide_eq_true (p := v < 0 ∨ 14 < v) (by omega)).symm | exact (decide_eq_false (p := v < 0 ∨ 14 < v) (by omega)).symm), rfl⟩)
    · have q60b0 : (decide (v < 0)) = false := decide_eq_false q60
      by_cases q61 : 14 < v
      · have q61b0 : (decide (14 < v)) = true := decide_eq_true q61
        first
        | (exfalso; omega)
        | (go_wp2_with fail; all_goals (try go_meet); all_goals exact ⟨(by first | rfl | exact congrArg (Value.int .i64) (by omega)), (by first | rfl | exact congrArg (Value.int .i64) (by omega)), (by first | rfl | exact congrArg (Value.int .i64) (by omega)), congrArg Value.bool (by first | exact (decide_eq_true (p := v < 0 ∨ 14 < v) (by omega)).symm | exact (decide_eq_false (p := v < 0 ∨ 14 < v) (by omega)).symm), rfl⟩)
      · have q61b0 : (decide (14 < v)) = false := decide_eq_false q61
        first
        | (exfalso; omega)
        | (go_wp2_with fail; all_goals (try go_meet); all_goals exact ⟨(by first | rfl | exact congrArg (Value.int .i64) (by omega)), (by first | rfl | exact congrArg (Value.int .i64) (by omega)), (by first | rfl | exact congrArg (Value.int .i64) (by omega)), congrArg Value.bool (by first | exact (decide_eq_true (p := v < 0 ∨ 14 < v) (by omega)).symm | exact (decide_eq_false (p := v < 0 ∨ 14 < v) (by omega)).symm), rfl⟩)
  case rest =>
    obtain ⟨rfl, rfl, rfl, rfl, rfl⟩ := hcut
    have hd := decide_eq_false n1
    rw [hd]
    clear hd
    have n2 : ¬ (¬ (rv = 0 ∨ rv = 4) ∧ rv ≠ 2 ∧ rv ≠ 5) := by have := HCL.out; omega
    go_upto_region 4 with fail
    go_cut [2, 6, 7, 39] from 27 to 39 (fun s2 s6 s7 c wx => s2 = .int .i64 (i : Int) ∧ s6 = .int .i64 0 ∧ s7 = .int .i64 v ∧ c = .bool (decide (¬ (rv = 0 ∨ rv = 4) ∧ rv ≠ 2 ∧ rv ≠ 5)) ∧ w1 = wx)
    case first =>
      by_cases q62 : rv = 0 ∨ rv = 4
      · have q62b0 : (decide (rv = 0 ∨ rv = 4)) = true := decide_eq_true q62
        first
        | (exfalso; omega)
        | (go_wp2_with fail; refine (HOv.out _).mono ?_; rintro e wz ⟨rfl, rfl⟩; go_wp2_with fail; all_goals (try go_meet); all_goals exact ⟨(by first | rfl | exact congrArg (Value.int .i64) (by omega)), (by first | rfl | exact congrArg (Value.int .i64) (by omega)), (by first | rfl | exact congrArg (Value.int .i64) (by omega)), congrArg Value.bool (by first | exact (decide_eq_true (p := ¬ (rv = 0 ∨ rv = 4) ∧ rv ≠ 2 ∧ rv ≠ 5) (by omega)).symm | exact (decide_eq_false (p := ¬ (rv = 0 ∨ rv = 4) ∧ rv ≠ 2 ∧ rv ≠ 5) (by omega)).symm), rfl⟩)
      · have q62b0 : (decide (rv = 0 ∨ rv = 4)) = false := decide_eq_false q62
        by_cases q63 : rv = 2
        · have q63b0 : (rv != 2) = false := bne_eq_false_iff_eq.2 q63
          first
          | (exfalso; omega)
          | (go_wp2_with fail; refine (HOv.out _).mono ?_; rintro e wz ⟨rfl, rfl⟩; go_wp2_with fail; refine (HSv.out _).mono ?_; rintro e wz ⟨rfl, rfl⟩; go_wp2_with fail; all_goals (try go_meet); all_goals exact ⟨(by first | rfl | exact congrArg (Value.int .i64) (by omega)), (by first | rfl | exact congrArg (Value.int .i64) (by omega)), (by first | rfl | exact congrArg (Value.int .i64) (by omega)), congrArg Value.bool (by first | exact (decide_eq_true (p := ¬ (rv = 0 ∨ rv = 4) ∧ rv ≠ 2 ∧ rv ≠ 5) (by omega)).symm | exact (decide_eq_false (p := ¬ (rv = 0 ∨ rv = 4) ∧ rv ≠ 2 ∧ rv ≠ 5) (by omega)).symm), rfl⟩)
        · have q63b0 : (rv != 2) = true := bne_iff_ne.2 q63
          by_cases q64 : rv = 5
          · have q64b0 : (rv != 5) = false := bne_eq_false_iff_eq.2 q64
            first
            | (exfalso; omega)
            | (go_wp2_with fail; refine (HOv.out _).mono ?_; rintro e wz ⟨rfl, rfl⟩; go_wp2_with fail; refine (HSv.out _).mono ?_; rintro e wz ⟨rfl, rfl⟩; go_wp2_with fail; refine (HSv.out _).mono ?_; rintro e wz ⟨rfl, rfl⟩; go_wp2_with fail; all_goals (try go_meet); all_goals exact ⟨(by first | rfl | exact congrArg (Value.int .i64) (by omega)), (by first | rfl | exact congrArg (Value.int .i64) (by omega)), (by first | rfl | exact congrArg (Value.int .i64) (by omega)), congrArg Value.bool (by first | exact (decide_eq_true (p := ¬ (rv = 0 ∨ rv = 4) ∧ rv ≠ 2 ∧ rv ≠ 5) (by omega)).symm | exact (decide_eq_false (p := ¬ (rv = 0 ∨ rv = 4) ∧ rv ≠ 2 ∧ rv ≠ 5) (by omega)).symm), rfl⟩)
          · have q64b0 : (rv != 5) = true := bne_iff_ne.2 q64
            first
            | (exfalso; omega)
            | (go_wp2_with fail; refine (HOv.out _).mono ?_; rintro e wz ⟨rfl, rfl⟩; go_wp2_with fail; refine (HSv.out _).mono ?_; rintro e wz ⟨rfl, rfl⟩; go_wp2_with fail; refine (HSv.out _).mono ?_; rintro e wz ⟨rfl, rfl⟩; go_wp2_with fail; all_goals (try go_meet); all_goals exact ⟨(by first | rfl | exact congrArg (Value.int .i64) (by omega)), (by first | rfl | exact congrArg (Value.int .i64) (by omega)), (by first | rfl | exact congrArg (Value.int .i64) (by omega)), congrArg Value.bool (by first | exact (decide_eq_true (p := ¬ (rv = 0 ∨ rv = 4) ∧ rv ≠ 2 ∧ rv ≠ 5) (by omega)).symm | exact (decide_eq_false (p := ¬ (rv = 0 ∨ rv = 4) ∧ rv ≠ 2 ∧ rv ≠ 5) (by omega)).symm), rfl⟩)
    case rest =>
      obtain ⟨rfl, rfl, rfl, rfl, rfl⟩ := hcut
      have hd := decide_eq_false n2
      rw [hd]
      clear hd
      have hv0 : 0 ≤ v := by omega
      have htv := HTv.out hv0
      have n3 : ¬ ((i + 1 = Lg ∧ rv ≠ 0) ∨ (i = 0 ∧ rv ≠ 0 ∧ rv ≠ 4)) := by have := HCL.out; omega
      go_upto_region 6 with fail
      go_cut [2, 6, 7, 63] from 40 to 63 (fun s2 s6 s7 c wx => s2 = .int .i64 (i : Int) ∧ s6 = .int .i64 0 ∧ s7 = .int .i64 v ∧ c = .bool (decide ((i + 1 = Lg ∧ rv ≠ 0) ∨ (i = 0 ∧ rv ≠ 0 ∧ rv ≠ 4))) ∧ w1 = wx)
      case first =>
        by_cases q65 : i + 1 = Lg
        · have q65b0 : ((i : Int) == (Lg : Int) - 1) = true := beq_iff_eq.2 (by omega)
          by_cases q66 : rv = 0
          · have q66b0 : (rv != 0) = false := bne_eq_false_iff_eq.2 q66
            by_cases q67 : i = 0
            · have q67b0 : ((i : Int) == 0) = true := beq_iff_eq.2 (by omega)
              first
              | (exfalso; omega)
              | (go_wp2_with fail; all_goals (try go_meet); all_goals exact ⟨(by first | rfl | exact congrArg (Value.int .i64) (by omega)), (by first | rfl | exact congrArg (Value.int .i64) (by omega)), (by first | rfl | exact congrArg (Value.int .i64) (by omega)), congrArg Value.bool (by first | exact (decide_eq_true (p := (i + 1 = Lg ∧ rv ≠ 0) ∨ (i = 0 ∧ rv ≠ 0 ∧ rv ≠ 4)) (by omega)).symm | exact (decide_eq_false (p := (i + 1 = Lg ∧ rv ≠ 0) ∨ (i = 0 ∧ rv ≠ 0 ∧ rv ≠ 4)) (by omega)).symm), rfl⟩)
            · have q67b0 : ((i : Int) == 0) = false := beq_eq_false_iff_ne.2 (by omega)
              first
              | (exfalso; omega)
              | (go_wp2_with fail; all_goals (try go_meet); all_goals exact ⟨(by first | rfl | exact congrArg (Value.int .i64) (by omega)), (by first | rfl | exact congrArg (Value.int .i64) (by omega)), (by first | rfl | exact congrArg (Value.int .i64) (by omega)), congrArg Value.bool (by first | exact (decide_eq_true (p := (i + 1 = Lg ∧ rv ≠ 0) ∨ (i = 0 ∧ rv ≠ 0 ∧ rv ≠ 4)) (by omega)).symm | exact (decide_eq_false (p := (i + 1 = Lg ∧ rv ≠ 0) ∨ (i = 0 ∧ rv ≠ 0 ∧ rv ≠ 4)) (by omega)).symm), rfl⟩)
          · have q66b0 : (rv != 0) = true := bne_iff_ne.2 q66
            first
            | (exfalso; omega)
            | (go_wp2_with fail; all_goals (try go_meet); all_goals exact ⟨(by first | rfl | exact congrArg (Value.int .i64) (by omega)), (by first | rfl | exact congrArg (Value.int .i64) (by omega)), (by first | rfl | exact congrArg (Value.int .i64) (by omega)), congrArg Value.bool (by first | exact (decide_eq_true (p := (i + 1 = Lg ∧ rv ≠ 0) ∨ (i = 0 ∧ rv ≠ 0 ∧ rv ≠ 4)) (by omega)).symm | exact (decide_eq_false (p := (i + 1 = Lg ∧ rv ≠ 0) ∨ (i = 0 ∧ rv ≠ 0 ∧ rv ≠ 4)) (by omega)).symm), rfl⟩)
        · have q65b0 : ((i : Int) == (Lg : Int) - 1) = false := beq_eq_false_iff_ne.2 (by omega)
          by_cases q68 : i = 0
          · have q68b0 : ((i : Int) == 0) = true := beq_iff_eq.2 (by omega)
            by_cases q69 : rv = 0
            · have q69b0 : (rv != 0) = false := bne_eq_false_iff_eq.2 q69
              first
              | (exfalso; omega)
              | (go_wp2_with fail; all_goals (try go_meet); all_goals exact ⟨(by first | rfl | exact congrArg (Value.int .i64) (by omega)), (by first | rfl | exact congrArg (Value.int .i64) (by omega)), (by first | rfl | exact congrArg (Value.int .i64) (by omega)), congrArg Value.bool (by first | exact (decide_eq_true (p := (i + 1 = Lg ∧ rv ≠ 0) ∨ (i = 0 ∧ rv ≠ 0 ∧ rv ≠ 4)) (by omega)).symm | exact (decide_eq_false (p := (i + 1 = Lg ∧ rv ≠ 0) ∨ (i = 0 ∧ rv ≠ 0 ∧ rv ≠ 4)) (by omega)).symm), rfl⟩)
            · have q69b0 : (rv != 0) = true := bne_iff_ne.2 q69
              by_cases q70 : rv = 4
              · have q70b0 : (rv != 4) = false := bne_eq_false_iff_eq.2 q70
                first
                | (exfalso; omega)
                | (go_wp2_with fail; all_goals (try go_meet); all_goals exact ⟨(by first | rfl | exact congrArg (Value.int .i64) (by omega)), (by first | rfl | exact congrArg (Value.int .i64) (by omega)), (by first | rfl | exact congrArg (Value.int .i64) (by omega)), congrArg Value.bool (by first | exact (decide_eq_true (p := (i + 1 = Lg ∧ rv ≠ 0) ∨ (i = 0 ∧ rv ≠ 0 ∧ rv ≠ 4)) (by omega)).symm | exact (decide_eq_false (p := (i + 1 = Lg ∧ rv ≠ 0) ∨ (i = 0 ∧ rv ≠ 0 ∧ rv ≠ 4)) (by omega)).symm), rfl⟩)
              · have q70b0 : (rv != 4) = true := bne_iff_ne.2 q70
                first
                | (exfalso; omega)
                | (go_wp2_with fail; all_goals (try go_meet); all_goals exact ⟨(by first | rfl | exact congrArg (Value.int .i64) (by omega)), (by first | rfl | exact congrArg (Value.int .i64) (by omega)), (by first | rfl | exact congrArg (Value.int .i64) (by omega)), congrArg Value.bool (by first | exact (decide_eq_true (p := (i + 1 = Lg ∧ rv ≠ 0) ∨ (i = 0 ∧ rv ≠ 0 ∧ rv ≠ 4)) (by omega)).symm | exact (decide_eq_false (p := (i + 1 = Lg ∧ rv ≠ 0) ∨ (i = 0 ∧ rv ≠ 0 ∧ rv ≠ 4)) (by omega)).symm), rfl⟩)
          · have q68b0 : ((i : Int) == 0) = false := beq_eq_false_iff_ne.2 (by omega)
            first
            | (exfalso; omega)
            | (go_wp2_with fail; all_goals (try go_meet); all_goals exact ⟨(by first | rfl | exact congrArg (Value.int .i64) (by omega)), (by first | rfl | exact congrArg (Value.int .i64) (by omega)), (by first | rfl | exact congrArg (Value.int .i64) (by omega)), congrArg Value.bool (by first | exact (decide_eq_true (p := (i + 1 = Lg ∧ rv ≠ 0) ∨ (i = 0 ∧ rv ≠ 0 ∧ rv ≠ 4)) (by omega)).symm | exact (decide_eq_false (p := (i + 1 = Lg ∧ rv ≠ 0) ∨ (i = 0 ∧ rv ≠ 0 ∧ rv ≠ 4)) (by omega)).symm), rfl⟩)
      case rest =>
        obtain ⟨rfl, rfl, rfl, rfl, rfl⟩ := hcut
        clear htv
        have hd := decide_eq_false n3
        rw [hd]
        clear hd
        have n0 : ¬ (i = 0) := by have := HCL.out; omega
        have hd : ((i : Int) == 0) = false := beq_eq_false_iff_ne.2 (by omega)
        have hi1 : 1 ≤ i := by omega
        obtain ⟨z1, z2, z3⟩ := idx1 hi1 (show i < 1000 by omega)
        go_upto_region 10 with fail
        go_quiet (fail)
        go_upto_region 11 with fail
        obtain ⟨w2, hw2⟩ : ∃ W, w1.drewN nq = W := ⟨_, rfl⟩
        have HW2 := Lib.hid (show ∃ q, w2 = w.drewN q by obtain ⟨q, hq⟩ := HW1.out; exact ⟨q + nq, by rw [← hw2, hq, World.drewN_drewN]⟩)
        have k2 : ∀ a v, w1.cell? a = some v → w2.cell? a = some v := fun a v e => by rw [← hw2]; exact e
        have a4 := k2 _ _ a4
        have a5 := k2 _ _ a5
        rw [hw2, HMe.out, HGe.out, HUe.out]
        clear hw2 k2 a1 a2 a3 z1 z2 z3 HW1
        have HW1 := HW2
        clear HW2
        have n4 : ¬ (4 < am ∧ am ≠ 7) := by have := HCL.out; omega
        go_upto_region 11 with fail
        go_cut [2, 6, 7, 8, 9, 10, 104] from 64 to 104 (fun s2 s6 s7 s8 s9 s10 c wx => s2 = .int .i64 (i : Int) ∧ s6 = .int .i64 0 ∧ s7 = .int .i64 v ∧ s8 = .int .i64 m ∧ s9 = .int .i64 gm ∧ s10 = .int .i64 u ∧ c = .bool (decide (4 < am ∧ am ≠ 7)) ∧ w2 = wx)
        case first =>
          by_cases q71 : 4 < am
          · have q71b0 : (decide (4 < am)) = true := decide_eq_true q71
            by_cases q72 : am = 7
            · have q72b0 : (am != 7) = false := bne_eq_false_iff_eq.2 q72
              first
              | (exfalso; omega)
              | (go_wp2_with fail; refine (HAm.out _).mono ?_; rintro e wz ⟨rfl, rfl⟩; go_wp2_with fail; refine (HAm.out _).mono ?_; rintro e wz ⟨rfl, rfl⟩; go_wp2_with fail; all_goals (try go_meet); all_goals exact ⟨(by first | rfl | exact congrArg (Value.int .i64) (by omega)), (by first | rfl | exact congrArg (Value.int .i64) (by omega)), (by first | rfl | exact congrArg (Value.int .i64) (by omega)), (by first | rfl | exact congrArg (Value.int .i64) (by omega)), (by first | rfl | exact congrArg (Value.int .i64) (by omega)), (by first | rfl | exact congrArg (Value.int .i64) (by omega)), congrArg Value.bool (by first | exact (decide_eq_true (p := 4 < am ∧ am ≠ 7) (by omega)).symm | exact (decide_eq_false (p := 4 < am ∧ am ≠ 7) (by omega)).symm), rfl⟩)
            · have q72b0 : (am != 7) = true := bne_iff_ne.2 q72
              first
              | (exfalso; omega)
              | (go_wp2_with fail; refine (HAm.out _).mono ?_; rintro e wz ⟨rfl, rfl⟩; go_wp2_with fail; refine (HAm.out _).mono ?_; rintro e wz ⟨rfl, rfl⟩; go_wp2_with fail; all_goals (try go_meet); all_goals exact ⟨(by first | rfl | exact congrArg (Value.int .i64) (by omega)), (by first | rfl | exact congrArg (Value.int .i64) (by omega)), (by first | rfl | exact congrArg (Value.int .i64) (by omega)), (by first | rfl | exact congrArg (Value.int .i64) (by omega)), (by first | rfl | exact congrArg (Value.int .i64) (by omega)), (by first | rfl | exact congrArg (Value.int .i64) (by omega)), congrArg Value.bool (by first | exact (decide_eq_true (p := 4 < am ∧ am ≠ 7) (by omega)).symm | exact (decide_eq_false (p := 4 < am ∧ am ≠ 7) (by omega)).symm), rfl⟩)
          · have q71b0 : (decide (4 < am)) = false := decide_eq_false q71
            first
            | (exfalso; omega)
            | (go_wp2_with fail; refine (HAm.out _).mono ?_; rintro e wz ⟨rfl, rfl⟩; go_wp2_with fail; all_goals (try go_meet); all_goals exact ⟨(by first | rfl | exact congrArg (Value.int .i64) (by omega)), (by first | rfl | exact congrArg (Value.int .i64) (by omega)), (by first | rfl | exact congrArg (Value.int .i64) (by omega)), (by first | rfl | exact congrArg (Value.int .i64) (by omega)), (by first | rfl | exact congrArg (Value.int .i64) (by omega)), (by first | rfl | exact congrArg (Value.int .i64) (by omega)), congrArg Value.bool (by first | exact (decide_eq_true (p := 4 < am ∧ am ≠ 7) (by omega)).symm | exact (decide_eq_false (p := 4 < am ∧ am ≠ 7) (by omega)).symm), rfl⟩)
        case rest =>
          obtain ⟨rfl, rfl, rfl, rfl, rfl, rfl, rfl, rfl⟩ := hcut
          have hd := decide_eq_false n4
          rw [hd]
          clear hd
          have n5 : ¬ ((ru = 0 ∨ ru = 4) ∧ (rv = 0 ∨ rv = 4) ∧ ru = rv ∧ m ≠ 0) := by have := HCL.out; omega
          go_upto_region 13 with fail
          go_cut [2, 6, 7, 8, 9, 10, 121] from 105 to 121 (fun s2 s6 s7 s8 s9 s10 c wx => s2 = .int .i64 (i : Int) ∧ s6 = .int .i64 0 ∧ s7 = .int .i64 v ∧ s8 = .int .i64 m ∧ s9 = .int .i64 gm ∧ s10 = .int .i64 u ∧ c = .bool (decide ((ru = 0 ∨ ru = 4) ∧ (rv = 0 ∨ rv = 4) ∧ ru = rv ∧ m ≠ 0)) ∧ w2 = wx)
          case first =>
            by_cases q73 : ru = 0 ∨ ru = 4
            · have q73b0 : (decide (ru = 0 ∨ ru = 4)) = true := decide_eq_true q73
              by_cases q74 : rv = 0 ∨ rv = 4
              · have q74b0 : (decide (rv = 0 ∨ rv = 4)) = true := decide_eq_true q74
                by_cases q75 : ru = rv
                · have q75b0 : (ru == rv) = true := beq_iff_eq.2 q75
                  by_cases q76 : m = 0
                  · have q76b0 : (m != 0) = false := bne_eq_false_iff_eq.2 q76
                    first
                    | (exfalso; omega)
                    | (go_wp2_with fail; refine (HOu.out _).mono ?_; rintro e wz ⟨rfl, rfl⟩; go_wp2_with fail; refine (HOv.out _).mono ?_; rintro e wz ⟨rfl, rfl⟩; go_wp2_with fail; refine (HSu.out _).mono ?_; rintro e wz ⟨rfl, rfl⟩; go_wp2_with fail; refine (HSv.out _).mono ?_; rintro e wz ⟨rfl, rfl⟩; go_wp2_with fail; all_goals (try go_meet); all_goals exact ⟨(by first | rfl | exact congrArg (Value.int .i64) (by omega)), (by first | rfl | exact congrArg (Value.int .i64) (by omega)), (by first | rfl | exact congrArg (Value.int .i64) (by omega)), (by first | rfl | exact congrArg (Value.int .i64) (by omega)), (by first | rfl | exact congrArg (Value.int .i64) (by omega)), (by first | rfl | exact congrArg (Value.int .i64) (by omega)), congrArg Value.bool (by first | exact (decide_eq_true (p := (ru = 0 ∨ ru = 4) ∧ (rv = 0 ∨ rv = 4) ∧ ru = rv ∧ m ≠ 0) (by omega)).symm | exact (decide_eq_false (p := (ru = 0 ∨ ru = 4) ∧ (rv = 0 ∨ rv = 4) ∧ ru = rv ∧ m ≠ 0) (by omega)).symm), rfl⟩)
                  · have q76b0 : (m != 0) = true := bne_iff_ne.2 q76
                    first
                    | (exfalso; omega)
                    | (go_wp2_with fail; refine (HOu.out _).mono ?_; rintro e wz ⟨rfl, rfl⟩; go_wp2_with fail; refine (HOv.out _).mono ?_; rintro e wz ⟨rfl, rfl⟩; go_wp2_with fail; refine (HSu.out _).mono ?_; rintro e wz ⟨rfl, rfl⟩; go_wp2_with fail; refine (HSv.out _).mono ?_; rintro e wz ⟨rfl, rfl⟩; go_wp2_with fail; all_goals (try go_meet); all_goals exact ⟨(by first | rfl | exact congrArg (Value.int .i64) (by omega)), (by first | rfl | exact congrArg (Value.int .i64) (by omega)), (by first | rfl | exact congrArg (Value.int .i64) (by omega)), (by first | rfl | exact congrArg (Value.int .i64) (by omega)), (by first | rfl | exact congrArg (Value.int .i64) (by omega)), (by first | rfl | exact congrArg (Value.int .i64) (by omega)), congrArg Value.bool (by first | exact (decide_eq_true (p := (ru = 0 ∨ ru = 4) ∧ (rv = 0 ∨ rv = 4) ∧ ru = rv ∧ m ≠ 0) (by omega)).symm | exact (decide_eq_false (p := (ru = 0 ∨ ru = 4) ∧ (rv = 0 ∨ rv = 4) ∧ ru = rv ∧ m ≠ 0) (by omega)).symm), rfl⟩)
                · have q75b0 : (ru == rv) = false := beq_eq_false_iff_ne.2 q75
                  first
                  | (exfalso; omega)
                  | (go_wp2_with fail; refine (HOu.out _).mono ?_; rintro e wz ⟨rfl, rfl⟩; go_wp2_with fail; refine (HOv.out _).mono ?_; rintro e wz ⟨rfl, rfl⟩; go_wp2_with fail; refine (HSu.out _).mono ?_; rintro e wz ⟨rfl, rfl⟩; go_wp2_with fail; refine (HSv.out _).mono ?_; rintro e wz ⟨rfl, rfl⟩; go_wp2_with fail; all_goals (try go_meet); all_goals exact ⟨(by first | rfl | exact congrArg (Value.int .i64) (by omega)), (by first | rfl | exact congrArg (Value.int .i64) (by omega)), (by first | rfl | exact congrArg (Value.int .i64) (by omega)), (by first | rfl | exact congrArg (Value.int .i64) (by omega)), (by first | rfl | exact congrArg (Value.int .i64) (by omega)), (by first | rfl | exact congrArg (Value.int .i64) (by omega)), congrArg Value.bool (by first | exact (decide_eq_true (p := (ru = 0 ∨ ru = 4) ∧ (rv = 0 ∨ rv = 4) ∧ ru = rv ∧ m ≠ 0) (by omega)).symm | exact (decide_eq_false (p := (ru = 0 ∨ ru = 4) ∧ (rv = 0 ∨ rv = 4) ∧ ru = rv ∧ m ≠ 0) (by omega)).symm), rfl⟩)
              · have q74b0 : (decide (rv = 0 ∨ rv = 4)) = false := decide_eq_false q74
                first
                | (exfalso; omega)
                | (go_wp2_with fail; refine (HOu.out _).mono ?_; rintro e wz ⟨rfl, rfl⟩; go_wp2_with fail; refine (HOv.out _).mono ?_; rintro e wz ⟨rfl, rfl⟩; go_wp2_with fail; all_goals (try go_meet); all_goals exact ⟨(by first | rfl | exact congrArg (Value.int .i64) (by omega)), (by first | rfl | exact congrArg (Value.int .i64) (by omega)), (by first | rfl | exact congrArg (Value.int .i64) (by omega)), (by first | rfl | exact congrArg (Value.int .i64) (by omega)), (by first | rfl | exact congrArg (Value.int .i64) (by omega)), (by first | rfl | exact congrArg (Value.int .i64) (by omega)), congrArg Value.bool (by first | exact (decide_eq_true (p := (ru = 0 ∨ ru = 4) ∧ (rv = 0 ∨ rv = 4) ∧ ru = rv ∧ m ≠ 0) (by omega)).symm | exact (decide_eq_false (p := (ru = 0 ∨ ru = 4) ∧ (rv = 0 ∨ rv = 4) ∧ ru = rv ∧ m ≠ 0) (by omega)).symm), rfl⟩)
            · have q73b0 : (decide (ru = 0 ∨ ru = 4)) = false := decide_eq_false q73
              first
              | (exfalso; omega)
              | (go_wp2_with fail; refine (HOu.out _).mono ?_; rintro e wz ⟨rfl, rfl⟩; go_wp2_with fail; all_goals (try go_meet); all_goals exact ⟨(by first | rfl | exact congrArg (Value.int .i64) (by omega)), (by first | rfl | exact congrArg (Value.int .i64) (by omega)), (by first | rfl | exact congrArg (Value.int .i64) (by omega)), (by first | rfl | exact congrArg (Value.int .i64) (by omega)), (by first | rfl | exact congrArg (Value.int .i64) (by omega)), (by first | rfl | exact congrArg (Value.int .i64) (by omega)), congrArg Value.bool (by first | exact (decide_eq_true (p := (ru = 0 ∨ ru = 4) ∧ (rv = 0 ∨ rv = 4) ∧ ru = rv ∧ m ≠ 0) (by omega)).symm | exact (decide_eq_false (p := (ru = 0 ∨ ru = 4) ∧ (rv = 0 ∨ rv = 4) ∧ ru = rv ∧ m ≠ 0) (by omega)).symm), rfl⟩)
          case rest =>
            obtain ⟨rfl, rfl, rfl, rfl, rfl, rfl, rfl, rfl⟩ := hcut
            have hd := decide_eq_false n5
            rw [hd]
            clear hd
            have n6 : (rv = 0 ∨ rv = 4) ∧ ((0 < m ∧ 0 < gm) ∨ (m < 0 ∧ gm < 0)) ∧ am ≠ 1 := by have := HCL.out; omega
            go_upto_region 15 with fail
            go_cut [2, 6, 7, 8, 9, 10, 144] from 122 to 144 (fun s2 s6 s7 s8 s9 s10 c wx => s2 = .int .i64 (i : Int) ∧ s6 = .int .i64 0 ∧ s7 = .int .i64 v ∧ s8 = .int .i64 m ∧ s9 = .int .i64 gm ∧ s10 = .int .i64 u ∧ c = .bool (decide ((rv = 0 ∨ rv = 4) ∧ ((0 < m ∧ 0 < gm) ∨ (m < 0 ∧ gm < 0)) ∧ am ≠ 1)) ∧ w2 = wx)
            case first =>
              by_cases q77 : rv = 0 ∨ rv = 4
              · have q77b0 : (decide (rv = 0 ∨ rv = 4)) = true := decide_eq_true q77
                by_cases q78 : 0 < m
                · have q78b0 : (decide (0 < m)) = true := decide_eq_true q78
                  have q78b1 : (decide (m < 0)) = false := decide_eq_false (by omega)
                  by_cases q79 : 0 < gm
                  · have q79b0 : (decide (0 < gm)) = true := decide_eq_true q79
                    by_cases q80 : am = 1
                    · have q80b0 : (am != 1) = false := bne_eq_false_iff_eq.2 q80
                      first
                      | (exfalso; omega)
                      | (go_wp2_with fail; refine (HOv.out _).mono ?_; rintro e wz ⟨rfl, rfl⟩; go_wp2_with fail; refine (HAm.out _).mono ?_; rintro e wz ⟨rfl, rfl⟩; go_wp2_with fail; all_goals (try go_meet); all_goals exact ⟨(by first | rfl | exact congrArg (Value.int .i64) (by omega)), (by first | rfl | exact congrArg (Value.int .i64) (by omega)), (by first | rfl | exact congrArg (Value.int .i64) (by omega)), (by first | rfl | exact congrArg (Value.int .i64) (by omega)), (by first | rfl | exact congrArg (Value.int .i64) (by omega)), (by first | rfl | exact congrArg (Value.int .i64) (by omega)), congrArg Value.bool (by first | exact (decide_eq_true (p := (rv = 0 ∨ rv = 4) ∧ ((0 < m ∧ 0 < gm) ∨ (m < 0 ∧ gm < 0)) ∧ am ≠ 1) (by omega)).symm | exact (decide_eq_false (p := (rv = 0 ∨ rv = 4) ∧ ((0 < m ∧ 0 < gm) ∨ (m < 0 ∧ gm < 0)) ∧ am ≠ 1) (by omega)).symm), rfl⟩)
                    · have q80b0 : (am != 1) = true := bne_iff_ne.2 q80
                      first
                      | (exfalso; omega)
                      | (go_wp2_with fail; refine (HOv.out _).mono ?_; rintro e wz ⟨rfl, rfl⟩; go_wp2_with fail; refine (HAm.out _).mono ?_; rintro e wz ⟨rfl, rfl⟩; go_wp2_with fail; all_goals (try go_meet); all_goals exact ⟨(by first | rfl | exact congrArg (Value.int .i64) (by omega)), (by first | rfl | exact congrArg (Value.int .i64) (by omega)), (by first | rfl | exact congrArg (Value.int .i64) (by omega)), (by first | rfl | exact congrArg (Value.int .i64) (by omega)), (by first | rfl | exact congrArg (Value.int .i64) (by omega)), (by first | rfl | exact congrArg (Value.int .i64) (by omega)), congrArg Value.bool (by first | exact (decide_eq_true (p := (rv = 0 ∨ rv = 4) ∧ ((0 < m ∧ 0 < gm) ∨ (m < 0 ∧ gm < 0)) ∧ am ≠ 1) (by omega)).symm | exact (decide_eq_false (p := (rv = 0 ∨ rv = 4) ∧ ((0 < m ∧ 0 < gm) ∨ (m < 0 ∧ gm < 0)) ∧ am ≠ 1) (by omega)).symm), rfl⟩)
                  · have q79b0 : (decide (0 < gm)) = false := decide_eq_false q79
                    first
                    | (exfalso; omega)
                    | (go_wp2_with fail; refine (HOv.out _).mono ?_; rintro e wz ⟨rfl, rfl⟩; go_wp2_with fail; all_goals (try go_meet); all_goals exact ⟨(by first | rfl | exact congrArg (Value.int .i64) (by omega)), (by first | rfl | exact congrArg (Value.int .i64) (by omega)), (by first | rfl | exact congrArg (Value.int .i64) (by omega)), (by first | rfl | exact congrArg (Value.int .i64) (by omega)), (by first | rfl | exact congrArg (Value.int .i64) (by omega)), (by first | rfl | exact congrArg (Value.int .i64) (by omega)), congrArg Value.bool (by first | exact (decide_eq_true (p := (rv = 0 ∨ rv = 4) ∧ ((0 < m ∧ 0 < gm) ∨ (m < 0 ∧ gm < 0)) ∧ am ≠ 1) (by omega)).symm | exact (decide_eq_false (p := (rv = 0 ∨ rv = 4) ∧ ((0 < m ∧ 0 < gm) ∨ (m < 0 ∧ gm < 0)) ∧ am ≠ 1) (by omega)).symm), rfl⟩)
                · have q78b0 : (decide (0 < m)) = false := decide_eq_false q78
                  by_cases q81 : m < 0
                  · have q81b0 : (decide (m < 0)) = true := decide_eq_true q81
                    by_cases q82 : gm < 0
                    · have q82b0 : (decide (gm < 0)) = true := decide_eq_true q82
                      by_cases q83 : am = 1
                      · have q83b0 : (am != 1) = false := bne_eq_false_iff_eq.2 q83
                        first
                        | (exfalso; omega)
                        | (go_wp2_with fail; refine (HOv.out _).mono ?_; rintro e wz ⟨rfl, rfl⟩; go_wp2_with fail; refine (HAm.out _).mono ?_; rintro e wz ⟨rfl, rfl⟩; go_wp2_with fail; all_goals (try go_meet); all_goals exact ⟨(by first | rfl | exact congrArg (Value.int .i64) (by omega)), (by first | rfl | exact congrArg (Value.int .i64) (by omega)), (by first | rfl | exact congrArg (Value.int .i64) (by omega)), (by first | rfl | exact congrArg (Value.int .i64) (by omega)), (by first | rfl | exact congrArg (Value.int .i64) (by omega)), (by first | rfl | exact congrArg (Value.int .i64) (by omega)), congrArg Value.bool (by first | exact (decide_eq_true (p := (rv = 0 ∨ rv = 4) ∧ ((0 < m ∧ 0 < gm) ∨ (m < 0 ∧ gm < 0)) ∧ am ≠ 1) (by omega)).symm | exact (decide_eq_false (p := (rv = 0 ∨ rv = 4) ∧ ((0 < m ∧ 0 < gm) ∨ (m < 0 ∧ gm < 0)) ∧ am ≠ 1) (by omega)).symm), rfl⟩)
                      · have q83b0 : (am != 1) = true := bne_iff_ne.2 q83
                        first
                        | (exfalso; omega)
                        | (go_wp2_with fail; refine (HOv.out _).mono ?_; rintro e wz ⟨rfl, rfl⟩; go_wp2_with fail; refine (HAm.out _).mono ?_; rintro e wz ⟨rfl, rfl⟩; go_wp2_with fail; all_goals (try go_meet); all_goals exact ⟨(by first | rfl | exact congrArg (Value.int .i64) (by omega)), (by first | rfl | exact congrArg (Value.int .i64) (by omega)), (by first | rfl | exact congrArg (Value.int .i64) (by omega)), (by first | rfl | exact congrArg (Value.int .i64) (by omega)), (by first | rfl | exact congrArg (Value.int .i64) (by omega)), (by first | rfl | exact congrArg (Value.int .i64) (by omega)), congrArg Value.bool (by first | exact (decide_eq_true (p := (rv = 0 ∨ rv = 4) ∧ ((0 < m ∧ 0 < gm) ∨ (m < 0 ∧ gm < 0)) ∧ am ≠ 1) (by omega)).symm | exact (decide_eq_false (p := (rv = 0 ∨ rv = 4) ∧ ((0 < m ∧ 0 < gm) ∨ (m < 0 ∧ gm < 0)) ∧ am ≠ 1) (by omega)).symm), rfl⟩)
                    · have q82b0 : (decide (gm < 0)) = false := decide_eq_false q82
                      first
                      | (exfalso; omega)
                      | (go_wp2_with fail; refine (HOv.out _).mono ?_; rintro e wz ⟨rfl, rfl⟩; go_wp2_with fail; all_goals (try go_meet); all_goals exact ⟨(by first | rfl | exact congrArg (Value.int .i64) (by omega)), (by first | rfl | exact congrArg (Value.int .i64) (by omega)), (by first | rfl | exact congrArg (Value.int .i64) (by omega)), (by first | rfl | exact congrArg (Value.int .i64) (by omega)), (by first | rfl | exact congrArg (Value.int .i64) (by omega)), (by first | rfl | exact congrArg (Value.int .i64) (by omega)), congrArg Value.bool (by first | exact (decide_eq_true (p := (rv = 0 ∨ rv = 4) ∧ ((0 < m ∧ 0 < gm) ∨ (m < 0 ∧ gm < 0)) ∧ am ≠ 1) (by omega)).symm | exact (decide_eq_false (p := (rv = 0 ∨ rv = 4) ∧ ((0 < m ∧ 0 < gm) ∨ (m < 0 ∧ gm < 0)) ∧ am ≠ 1) (by omega)).symm), rfl⟩)
                  · have q81b0 : (decide (m < 0)) = false := decide_eq_false q81
                    first
                    | (exfalso; omega)
                    | (go_wp2_with fail; refine (HOv.out _).mono ?_; rintro e wz ⟨rfl, rfl⟩; go_wp2_with fail; all_goals (try go_meet); all_goals exact ⟨(by first | rfl | exact congrArg (Value.int .i64) (by omega)), (by first | rfl | exact congrArg (Value.int .i64) (by omega)), (by first | rfl | exact congrArg (Value.int .i64) (by omega)), (by first | rfl | exact congrArg (Value.int .i64) (by omega)), (by first | rfl | exact congrArg (Value.int .i64) (by omega)), (by first | rfl | exact congrArg (Value.int .i64) (by omega)), congrArg Value.bool (by first | exact (decide_eq_true (p := (rv = 0 ∨ rv = 4) ∧ ((0 < m ∧ 0 < gm) ∨ (m < 0 ∧ gm < 0)) ∧ am ≠ 1) (by omega)).symm | exact (decide_eq_false (p := (rv = 0 ∨ rv = 4) ∧ ((0 < m ∧ 0 < gm) ∨ (m < 0 ∧ gm < 0)) ∧ am ≠ 1) (by omega)).symm), rfl⟩)
              · have q77b0 : (decide (rv = 0 ∨ rv = 4)) = false := decide_eq_false q77
                first
                | (exfalso; omega)
                | (go_wp2_with fail; refine (HOv.out _).mono ?_; rintro e wz ⟨rfl, rfl⟩; go_wp2_with fail; all_goals (try go_meet); all_goals exact ⟨(by first | rfl | exact congrArg (Value.int .i64) (by omega)), (by first | rfl | exact congrArg (Value.int .i64) (by omega)), (by first | rfl | exact congrArg (Value.int .i64) (by omega)), (by first | rfl | exact congrArg (Value.int .i64) (by omega)), (by first | rfl | exact congrArg (Value.int .i64) (by omega)), (by first | rfl | exact congrArg (Value.int .i64) (by omega)), congrArg Value.bool (by first | exact (decide_eq_true (p := (rv = 0 ∨ rv = 4) ∧ ((0 < m ∧ 0 < gm) ∨ (m < 0 ∧ gm < 0)) ∧ am ≠ 1) (by omega)).symm | exact (decide_eq_false (p := (rv = 0 ∨ rv = 4) ∧ ((0 < m ∧ 0 < gm) ∨ (m < 0 ∧ gm < 0)) ∧ am ≠ 1) (by omega)).symm), rfl⟩)
            case rest =>
              obtain ⟨rfl, rfl, rfl, rfl, rfl, rfl, rfl, rfl⟩ := hcut
              have hd := decide_eq_true n6
              rw [hd]
              clear hd
              go_wp2
              go_ret
              exact ⟨ret_int (by rw [← HBK.out]; unfold brk; rw [if_neg n1, if_neg n2, if_neg n3, if_neg n0, if_neg n4, if_neg n5, if_pos n6]; rfl), HW1.out⟩

set_option maxHeartbeats 40000000 in
theorem RBr_9 (i Lg Ls : Nat) (x y x1 y1 y2 v rv ru m am p gm : Int) (b1 o1 c1 b2 o2 c2 : Nat) (w : World) (hi : i < Ls) (hig : i < Lg) (g8 : Lg ≤ 8) (nx : 0 ≤ x ∧ x ≤ 20) (ny : 0 ≤ y ∧ y ≤ 20) (nx1 : 0 ≤ x1 ∧ x1 ≤ 20) (ny1 : 0 ≤ y1 ∧ y1 ≤ 20) (ny2 : 0 ≤ y2 ∧ y2 ≤ 20)
    (a1 : w.cell? ⟨b1, o1 + i, none⟩ = some (.int .i64 x)) (a2 : w.cell? ⟨b2, o2 + i, none⟩ = some (.int .i64 y)) (a3 : w.cell? ⟨b1, o1 + (i - 1), none⟩ = some (.int .i64 x1)) (a4 : w.cell? ⟨b2, o2 + (i - 1), none⟩ = some (.int .i64 y1)) (a5 : w.cell? ⟨b2, o2 + (i - 1 - 1), none⟩ = some (.int .i64 y2))
    (hv : y - x = v) (hrv : v % 7 = rv) (hru : (y1 - x1) % 7 = ru) (hm : y - y1 = m) (ham : absI m = am) (hgm : x - x1 = gm) (hp : y1 - y2 = p) (hcl : (((¬ (v < 0 ∨ 14 < v)) ∧ (¬ (¬ (rv = 0 ∨ rv = 4) ∧ rv ≠ 2 ∧ rv ≠ 5)) ∧ (¬ ((i + 1 = Lg ∧ rv ≠ 0) ∨ (i = 0 ∧ rv ≠ 0 ∧ rv ≠ 4))) ∧ (¬ (i = 0)) ∧ (¬ (4 < am ∧ am ≠ 7))) ∧ (¬ ((ru = 0 ∨ ru = 4) ∧ (rv = 0 ∨ rv = 4) ∧ ru = rv ∧ m ≠ 0)) ∧ (¬ ((rv = 0 ∨ rv = 4) ∧ ((0 < m ∧ 0 < gm) ∨ (m < 0 ∧ gm < 0)) ∧ am ≠ 1))) ∧ (i = 1)) :
    Calls Try.prog 85 #[.slice (some ⟨b1, o1, none⟩) Lg c1, .slice (some ⟨b2, o2, none⟩) Ls c2, .int .i64 (i : Int)] w fun e w' => e = .returned (.int .i64 (brk v rv ru m am p gm i Lg : Nat)) ∧ ∃ q, w' = w.drewN q := by
  have HCL := Lib.hid hcl
  clear hcl
  have HOv := Lib.hid (fun W => ropen_any v (by omega) W)
  have HOu := Lib.hid (fun W => ropen_any (y1 - x1) (by omega) W)
  have HSv := Lib.hid (fun W => rsort_any v (by omega) W)
  have HSu := Lib.hid (fun W => rsort_any (y1 - x1) (by omega) W)
  have HAm := Lib.hid (fun W => rabs_any m (by omega) W)
  rw [show openB v = decide (v % 7 = 0 ∨ v % 7 = 4) from rfl, hrv] at HOv
  rw [show openB (y1 - x1) = decide ((y1 - x1) % 7 = 0 ∨ (y1 - x1) % 7 = 4) from rfl, hru] at HOu
  rw [hrv] at HSv
  rw [hru] at HSu
  rw [ham] at HAm
  have HTv := Lib.hid (show 0 ≤ v → v.tmod 7 = rv from fun h => by rw [← hrv]; exact Int.tmod_eq_emod_of_nonneg h)
  have HVe := Lib.hid hv
  have HMe := Lib.hid hm
  have HGe := Lib.hid hgm
  have HPe := Lib.hid hp
  have hmb : -20 ≤ m ∧ m ≤ 20 := by omega
  have hpb : -20 ≤ p ∧ p ≤ 20 := by omega
  obtain ⟨u, hu⟩ : ∃ u, y1 - x1 = u := ⟨_, rfl⟩
  have HUe := Lib.hid hu
  rw [hu] at HOu HSu
  have hvb : -20 ≤ v ∧ v ≤ 20 := by omega
  clear hv hrv hru hm ham hgm hp hu
  obtain ⟨bk, hbk⟩ : ∃ bk, brk v rv ru m am p gm i Lg = bk := ⟨_, rfl⟩
  have HBK := Lib.hid hbk
  rw [hbk]
  clear hbk
  go_enter Try.func85, Try.ntmps85
  go_upto_region 1 with fail
  go_quiet (fail)
  obtain ⟨w1, hw1⟩ : ∃ W, w.drewN nq = W := ⟨_, rfl⟩
  have HW1 := Lib.hid (show ∃ q, w1 = w.drewN q from ⟨_, hw1.symm⟩)
  have k1 : ∀ a v, w.cell? a = some v → w1.cell? a = some v := fun a v e => by rw [← hw1]; exact e
  have a3 := k1 _ _ a3
  have a4 := k1 _ _ a4
  have a5 := k1 _ _ a5
  have a1 := k1 _ _ a1
  have a2 := k1 _ _ a2
  rw [hw1, HVe.out]
  clear hw1 k1
  have n1 : ¬ (v < 0 ∨ 14 < v) := by have := HCL.out; omega
  go_upto_region 2 with fail
  go_cut [2, 6, 7, 26] from 12 to 26 (fun s2 s6 s7 c wx => s2 = .int .i64 (i : Int) ∧ s6 = .int .i64 0 ∧ s7 = .int .i64 v ∧ c = .bool (decide (v < 0 ∨ 14 < v)) ∧ w1 = wx)
  case first =>
    by_cases q84 : v < 0
    · have q84b0 : (decide (v < 0)) = true := decide_eq_true q84
      first
      | (exfalso; omega)
      | (go_wp2_with fail; all_goals (try go_meet); all_goals exact ⟨(by first | rfl | exact congrArg (Value.int .i64) (by omega)), (by first | rfl | exact congrArg (Value.int .i64) (by omega)), (by first | rfl | exact congrArg (Value.int .i64) (by omega)), congrArg Value.bool (by first | exact (decide_eq_true (p := v < 0 ∨ 14 < v) (by omega)).symm | exact (decide_eq_false (p := v < 0 ∨ 14 < v) (by omega)).symm), rfl⟩)
    · have q84b0 : (decide (v < 0)) = false := decide_eq_false q84
      by_cases q85 : 14 < v
      · have q85b0 : (decide (14 < v)) = true := decide_eq_true q85
        first
        | (exfalso; omega)
        | (go_wp2_with fail; all_goals (try go_meet); all_goals exact ⟨(by first | rfl | exact congrArg (Value.int .i64) (by omega)), (by first | rfl | exact congrArg (Value.int .i64) (by omega)), (by first | rfl | exact congrArg (Value.int .i64) (by omega)), congrArg Value.bool (by first | exact (decide_eq_true (p := v < 0 ∨ 14 < v) (by omega)).symm | exact (decide_eq_false (p := v < 0 ∨ 14 < v) (by omega)).symm), rfl⟩)
      · have q85b0 : (decide (14 < v)) = false := decide_eq_false q85
        first
        | (exfalso; omega)
        | (go_wp2_with fail; all_goals (try go_meet); all_goals exact ⟨(by first | rfl | exact congrArg (Value.int .i64) (by omega)), (by first | rfl | exact congrArg (Value.int .i64) (by omega)), (by first | rfl | exact congrArg (Value.int .i64) (by omega)), congrArg Value.bool (by first | exact (decide_eq_true (p := v < 0 ∨ 14 < v) (by omega)).symm | exact (decide_eq_false (p := v < 0 ∨ 14 < v) (by omega)).symm), rfl⟩)
  case rest =>
    obtain ⟨rfl, rfl, rfl, rfl, rfl⟩ := hcut
    have hd := decide_eq_false n1
    rw [hd]
    clear hd
    have n2 : ¬ (¬ (rv = 0 ∨ rv = 4) ∧ rv ≠ 2 ∧ rv ≠ 5) := by have := HCL.out; omega
    go_upto_region 4 with fail
    go_cut [2, 6, 7, 39] from 27 to 39 (fun s2 s6 s7 c wx => s2 = .int .i64 (i : Int) ∧ s6 = .int .i64 0 ∧ s7 = .int .i64 v ∧ c = .bool (decide (¬ (rv = 0 ∨ rv = 4) ∧ rv ≠ 2 ∧ rv ≠ 5)) ∧ w1 = wx)
    case first =>
      by_cases q86 : rv = 0 ∨ rv = 4
      · have q86b0 : (decide (rv = 0 ∨ rv = 4)) = true := decide_eq_true q86
        first
        | (exfalso; omega)
        | (go_wp2_with fail; refine (HOv.out _).mono ?_; rintro e wz ⟨rfl, rfl⟩; go_wp2_with fail; all_goals (try go_meet); all_goals exact ⟨(by first | rfl | exact congrArg (Value.int .i64) (by omega)), (by first | rfl | exact congrArg (Value.int .i64) (by omega)), (by first | rfl | exact congrArg (Value.int .i64) (by omega)), congrArg Value.bool (by first | exact (decide_eq_true (p := ¬ (rv = 0 ∨ rv = 4) ∧ rv ≠ 2 ∧ rv ≠ 5) (by omega)).symm | exact (decide_eq_false (p := ¬ (rv = 0 ∨ rv = 4) ∧ rv ≠ 2 ∧ rv ≠ 5) (by omega)).symm), rfl⟩)
      · have q86b0 : (decide (rv = 0 ∨ rv = 4)) = false := decide_eq_false q86
        by_cases q87 : rv = 2
        · have q87b0 : (rv != 2) = false := bne_eq_false_iff_eq.2 q87
          first
          | (exfalso; omega)
          | (go_wp2_with fail; refine (HOv.out _).mono ?_; rintro e wz ⟨rfl, rfl⟩; go_wp2_with fail; refine (HSv.out _).mono ?_; rintro e wz ⟨rfl, rfl⟩; go_wp2_with fail; all_goals (try go_meet); all_goals exact ⟨(by first | rfl | exact congrArg (Value.int .i64) (by omega)), (by first | rfl | exact congrArg (Value.int .i64) (by omega)), (by first | rfl | exact congrArg (Value.int .i64) (by omega)), congrArg Value.bool (by first | exact (decide_eq_true (p := ¬ (rv = 0 ∨ rv = 4) ∧ rv ≠ 2 ∧ rv ≠ 5) (by omega)).symm | exact (decide_eq_false (p := ¬ (rv = 0 ∨ rv = 4) ∧ rv ≠ 2 ∧ rv ≠ 5) (by omega)).symm), rfl⟩)
        · have q87b0 : (rv != 2) = true := bne_iff_ne.2 q87
          by_cases q88 : rv = 5
          · have q88b0 : (rv != 5) = false := bne_eq_false_iff_eq.2 q88
            first
            | (exfalso; omega)
            | (go_wp2_with fail; refine (HOv.out _).mono ?_; rintro e wz ⟨rfl, rfl⟩; go_wp2_with fail; refine (HSv.out _).mono ?_; rintro e wz ⟨rfl, rfl⟩; go_wp2_with fail; refine (HSv.out _).mono ?_; rintro e wz ⟨rfl, rfl⟩; go_wp2_with fail; all_goals (try go_meet); all_goals exact ⟨(by first | rfl | exact congrArg (Value.int .i64) (by omega)), (by first | rfl | exact congrArg (Value.int .i64) (by omega)), (by first | rfl | exact congrArg (Value.int .i64) (by omega)), congrArg Value.bool (by first | exact (decide_eq_true (p := ¬ (rv = 0 ∨ rv = 4) ∧ rv ≠ 2 ∧ rv ≠ 5) (by omega)).symm | exact (decide_eq_false (p := ¬ (rv = 0 ∨ rv = 4) ∧ rv ≠ 2 ∧ rv ≠ 5) (by omega)).symm), rfl⟩)
          · have q88b0 : (rv != 5) = true := bne_iff_ne.2 q88
            first
            | (exfalso; omega)
            | (go_wp2_with fail; refine (HOv.out _).mono ?_; rintro e wz ⟨rfl, rfl⟩; go_wp2_with fail; refine (HSv.out _).mono ?_; rintro e wz ⟨rfl, rfl⟩; go_wp2_with fail; refine (HSv.out _).mono ?_; rintro e wz ⟨rfl, rfl⟩; go_wp2_with fail; all_goals (try go_meet); all_goals exact ⟨(by first | rfl | exact congrArg (Value.int .i64) (by omega)), (by first | rfl | exact congrArg (Value.int .i64) (by omega)), (by first | rfl | exact congrArg (Value.int .i64) (by omega)), congrArg Value.bool (by first | exact (decide_eq_true (p := ¬ (rv = 0 ∨ rv = 4) ∧ rv ≠ 2 ∧ rv ≠ 5) (by omega)).symm | exact (decide_eq_false (p := ¬ (rv = 0 ∨ rv = 4) ∧ rv ≠ 2 ∧ rv ≠ 5) (by omega)).symm), rfl⟩)
    case rest =>
      obtain ⟨rfl, rfl, rfl, rfl, rfl⟩ := hcut
      have hd := decide_eq_false n2
      rw [hd]
      clear hd
      have hv0 : 0 ≤ v := by omega
      have htv := HTv.out hv0
      have n3 : ¬ ((i + 1 = Lg ∧ rv ≠ 0) ∨ (i = 0 ∧ rv ≠ 0 ∧ rv ≠ 4)) := by have := HCL.out; omega
      go_upto_region 6 with fail
      go_cut [2, 6, 7, 63] from 40 to 63 (fun s2 s6 s7 c wx => s2 = .int .i64 (i : Int) ∧ s6 = .int .i64 0 ∧ s7 = .int .i64 v ∧ c = .bool (decide ((i + 1 = Lg ∧ rv ≠ 0) ∨ (i = 0 ∧ rv ≠ 0 ∧ rv ≠ 4))) ∧ w1 = wx)
      case first =>
        by_cases q89 : i + 1 = Lg
        · have q89b0 : ((i : Int) == (Lg : Int) - 1) = true := beq_iff_eq.2 (by omega)
          by_cases q90 : rv = 0
          · have q90b0 : (rv != 0) = false := bne_eq_false_iff_eq.2 q90
            by_cases q91 : i = 0
            · have q91b0 : ((i : Int) == 0) = true := beq_iff_eq.2 (by omega)
              first
              | (exfalso; omega)
              | (go_wp2_with fail; all_goals (try go_meet); all_goals exact ⟨(by first | rfl | exact congrArg (Value.int .i64) (by omega)), (by first | rfl | exact congrArg (Value.int .i64) (by omega)), (by first | rfl | exact congrArg (Value.int .i64) (by omega)), congrArg Value.bool (by first | exact (decide_eq_true (p := (i + 1 = Lg ∧ rv ≠ 0) ∨ (i = 0 ∧ rv ≠ 0 ∧ rv ≠ 4)) (by omega)).symm | exact (decide_eq_false (p := (i + 1 = Lg ∧ rv ≠ 0) ∨ (i = 0 ∧ rv ≠ 0 ∧ rv ≠ 4)) (by omega)).symm), rfl⟩)
            · have q91b0 : ((i : Int) == 0) = false := beq_eq_false_iff_ne.2 (by omega)
              first
              | (exfalso; omega)
              | (go_wp2_with fail; all_goals (try go_meet); all_goals exact ⟨(by first | rfl | exact congrArg (Value.int .i64) (by omega)), (by first | rfl | exact congrArg (Value.int .i64) (by omega)), (by first | rfl | exact congrArg (Value.int .i64) (by omega)), congrArg Value.bool (by first | exact (decide_eq_true (p := (i + 1 = Lg ∧ rv ≠ 0) ∨ (i = 0 ∧ rv ≠ 0 ∧ rv ≠ 4)) (by omega)).symm | exact (decide_eq_false (p := (i + 1 = Lg ∧ rv ≠ 0) ∨ (i = 0 ∧ rv ≠ 0 ∧ rv ≠ 4)) (by omega)).symm), rfl⟩)
          · have q90b0 : (rv != 0) = true := bne_iff_ne.2 q90
            first
            | (exfalso; omega)
            | (go_wp2_with fail; all_goals (try go_meet); all_goals exact ⟨(by first | rfl | exact congrArg (Value.int .i64) (by omega)), (by first | rfl | exact congrArg (Value.int .i64) (by omega)), (by first | rfl | exact congrArg (Value.int .i64) (by omega)), congrArg Value.bool (by first | exact (decide_eq_true (p := (i + 1 = Lg ∧ rv ≠ 0) ∨ (i = 0 ∧ rv ≠ 0 ∧ rv ≠ 4)) (by omega)).symm | exact (decide_eq_false (p := (i + 1 = Lg ∧ rv ≠ 0) ∨ (i = 0 ∧ rv ≠ 0 ∧ rv ≠ 4)) (by omega)).symm), rfl⟩)
        · have q89b0 : ((i : Int) == (Lg : Int) - 1) = false := beq_eq_false_iff_ne.2 (by omega)
          by_cases q92 : i = 0
          · have q92b0 : ((i : Int) == 0) = true := beq_iff_eq.2 (by omega)
            by_cases q93 : rv = 0
            · have q93b0 : (rv != 0) = false := bne_eq_false_iff_eq.2 q93
              first
              | (exfalso; omega)
              | (go_wp2_with fail; all_goals (try go_meet); all_goals exact ⟨(by first | rfl | exact congrArg (Value.int .i64) (by omega)), (by first | rfl | exact congrArg (Value.int .i64) (by omega)), (by first | rfl | exact congrArg (Value.int .i64) (by omega)), congrArg Value.bool (by first | exact (decide_eq_true (p := (i + 1 = Lg ∧ rv ≠ 0) ∨ (i = 0 ∧ rv ≠ 0 ∧ rv ≠ 4)) (by omega)).symm | exact (decide_eq_false (p := (i + 1 = Lg ∧ rv ≠ 0) ∨ (i = 0 ∧ rv ≠ 0 ∧ rv ≠ 4)) (by omega)).symm), rfl⟩)
            · have q93b0 : (rv != 0) = true := bne_iff_ne.2 q93
              by_cases q94 : rv = 4
              · have q94b0 : (rv != 4) = false := bne_eq_false_iff_eq.2 q94
                first
                | (exfalso; omega)
                | (go_wp2_with fail; all_goals (try go_meet); all_goals exact ⟨(by first | rfl | exact congrArg (Value.int .i64) (by omega)), (by first | rfl | exact congrArg (Value.int .i64) (by omega)), (by first | rfl | exact congrArg (Value.int .i64) (by omega)), congrArg Value.bool (by first | exact (decide_eq_true (p := (i + 1 = Lg ∧ rv ≠ 0) ∨ (i = 0 ∧ rv ≠ 0 ∧ rv ≠ 4)) (by omega)).symm | exact (decide_eq_false (p := (i + 1 = Lg ∧ rv ≠ 0) ∨ (i = 0 ∧ rv ≠ 0 ∧ rv ≠ 4)) (by omega)).symm), rfl⟩)
              · have q94b0 : (rv != 4) = true := bne_iff_ne.2 q94
                first
                | (exfalso; omega)
                | (go_wp2_with fail; all_goals (try go_meet); all_goals exact ⟨(by first | rfl | exact congrArg (Value.int .i64) (by omega)), (by first | rfl | exact congrArg (Value.int .i64) (by omega)), (by first | rfl | exact congrArg (Value.int .i64) (by omega)), congrArg Value.bool (by first | exact (decide_eq_true (p := (i + 1 = Lg ∧ rv ≠ 0) ∨ (i = 0 ∧ rv ≠ 0 ∧ rv ≠ 4)) (by omega)).symm | exact (decide_eq_false (p := (i + 1 = Lg ∧ rv ≠ 0) ∨ (i = 0 ∧ rv ≠ 0 ∧ rv ≠ 4)) (by omega)).symm), rfl⟩)
          · have q92b0 : ((i : Int) == 0) = false := beq_eq_false_iff_ne.2 (by omega)
            first
            | (exfalso; omega)
            | (go_wp2_with fail; all_goals (try go_meet); all_goals exact ⟨(by first | rfl | exact congrArg (Value.int .i64) (by omega)), (by first | rfl | exact congrArg (Value.int .i64) (by omega)), (by first | rfl | exact congrArg (Value.int .i64) (by omega)), congrArg Value.bool (by first | exact (decide_eq_true (p := (i + 1 = Lg ∧ rv ≠ 0) ∨ (i = 0 ∧ rv ≠ 0 ∧ rv ≠ 4)) (by omega)).symm | exact (decide_eq_false (p := (i + 1 = Lg ∧ rv ≠ 0) ∨ (i = 0 ∧ rv ≠ 0 ∧ rv ≠ 4)) (by omega)).symm), rfl⟩)
      case rest =>
        obtain ⟨rfl, rfl, rfl, rfl, rfl⟩ := hcut
        clear htv
        have hd := decide_eq_false n3
        rw [hd]
        clear hd
        have n0 : ¬ (i = 0) := by have := HCL.out; omega
        have hd : ((i : Int) == 0) = false := beq_eq_false_iff_ne.2 (by omega)
        have hi1 : 1 ≤ i := by omega
        obtain ⟨z1, z2, z3⟩ := idx1 hi1 (show i < 1000 by omega)
        go_upto_region 10 with fail
        go_quiet (fail)
        go_upto_region 11 with fail
        obtain ⟨w2, hw2⟩ : ∃ W, w1.drewN nq = W := ⟨_, rfl⟩
        have HW2 := Lib.hid (show ∃ q, w2 = w.drewN q by obtain ⟨q, hq⟩ := HW1.out; exact ⟨q + nq, by rw [← hw2, hq, World.drewN_drewN]⟩)
        have k2 : ∀ a v, w1.cell? a = some v → w2.cell? a = some v := fun a v e => by rw [← hw2]; exact e
        have a4 := k2 _ _ a4
        have a5 := k2 _ _ a5
        rw [hw2, HMe.out, HGe.out, HUe.out]
        clear hw2 k2 a1 a2 a3 z1 z2 z3 HW1
        have HW1 := HW2
        clear HW2
        have n4 : ¬ (4 < am ∧ am ≠ 7) := by have := HCL.out; omega
        go_upto_region 11 with fail
        go_cut [2, 6, 7, 8, 9, 10, 104] from 64 to 104 (fun s2 s6 s7 s8 s9 s10 c wx => s2 = .int .i64 (i : Int) ∧ s6 = .int .i64 0 ∧ s7 = .int .i64 v ∧ s8 = .int .i64 m ∧ s9 = .int .i64 gm ∧ s10 = .int .i64 u ∧ c = .bool (decide (4 < am ∧ am ≠ 7)) ∧ w2 = wx)
        case first =>
          by_cases q95 : 4 < am
          · have q95b0 : (decide (4 < am)) = true := decide_eq_true q95
            by_cases q96 : am = 7
            · have q96b0 : (am != 7) = false := bne_eq_false_iff_eq.2 q96
              first
              | (exfalso; omega)
              | (go_wp2_with fail; refine (HAm.out _).mono ?_; rintro e wz ⟨rfl, rfl⟩; go_wp2_with fail; refine (HAm.out _).mono ?_; rintro e wz ⟨rfl, rfl⟩; go_wp2_with fail; all_goals (try go_meet); all_goals exact ⟨(by first | rfl | exact congrArg (Value.int .i64) (by omega)), (by first | rfl | exact congrArg (Value.int .i64) (by omega)), (by first | rfl | exact congrArg (Value.int .i64) (by omega)), (by first | rfl | exact congrArg (Value.int .i64) (by omega)), (by first | rfl | exact congrArg (Value.int .i64) (by omega)), (by first | rfl | exact congrArg (Value.int .i64) (by omega)), congrArg Value.bool (by first | exact (decide_eq_true (p := 4 < am ∧ am ≠ 7) (by omega)).symm | exact (decide_eq_false (p := 4 < am ∧ am ≠ 7) (by omega)).symm), rfl⟩)
            · have q96b0 : (am != 7) = true := bne_iff_ne.2 q96
              first
              | (exfalso; omega)
              | (go_wp2_with fail; refine (HAm.out _).mono ?_; rintro e wz ⟨rfl, rfl⟩; go_wp2_with fail; refine (HAm.out _).mono ?_; rintro e wz ⟨rfl, rfl⟩; go_wp2_with fail; all_goals (try go_meet); all_goals exact ⟨(by first | rfl | exact congrArg (Value.int .i64) (by omega)), (by first | rfl | exact congrArg (Value.int .i64) (by omega)), (by first | rfl | exact congrArg (Value.int .i64) (by omega)), (by first | rfl | exact congrArg (Value.int .i64) (by omega)), (by first | rfl | exact congrArg (Value.int .i64) (by omega)), (by first | rfl | exact congrArg (Value.int .i64) (by omega)), congrArg Value.bool (by first | exact (decide_eq_true (p := 4 < am ∧ am ≠ 7) (by omega)).symm | exact (decide_eq_false (p := 4 < am ∧ am ≠ 7) (by omega)).symm), rfl⟩)
          · have q95b0 : (decide (4 < am)) = false := decide_eq_false q95
            first
            | (exfalso; omega)
            | (go_wp2_with fail; refine (HAm.out _).mono ?_; rintro e wz ⟨rfl, rfl⟩; go_wp2_with fail; all_goals (try go_meet); all_goals exact ⟨(by first | rfl | exact congrArg (Value.int .i64) (by omega)), (by first | rfl | exact congrArg (Value.int .i64) (by omega)), (by first | rfl | exact congrArg (Value.int .i64) (by omega)), (by first | rfl | exact congrArg (Value.int .i64) (by omega)), (by first | rfl | exact congrArg (Value.int .i64) (by omega)), (by first | rfl | exact congrArg (Value.int .i64) (by omega)), congrArg Value.bool (by first | exact (decide_eq_true (p := 4 < am ∧ am ≠ 7) (by omega)).symm | exact (decide_eq_false (p := 4 < am ∧ am ≠ 7) (by omega)).symm), rfl⟩)
        case rest =>
          obtain ⟨rfl, rfl, rfl, rfl, rfl, rfl, rfl, rfl⟩ := hcut
          have hd := decide_eq_false n4
          rw [hd]
          clear hd
          have n5 : ¬ ((ru = 0 ∨ ru = 4) ∧ (rv = 0 ∨ rv = 4) ∧ ru = rv ∧ m ≠ 0) := by have := HCL.out; omega
          go_upto_region 13 with fail
          go_cut [2, 6, 7, 8, 9, 10, 121] from 105 to 121 (fun s2 s6 s7 s8 s9 s10 c wx => s2 = .int .i64 (i : Int) ∧ s6 = .int .i64 0 ∧ s7 = .int .i64 v ∧ s8 = .int .i64 m ∧ s9 = .int .i64 gm ∧ s10 = .int .i64 u ∧ c = .bool (decide ((ru = 0 ∨ ru = 4) ∧ (rv = 0 ∨ rv = 4) ∧ ru = rv ∧ m ≠ 0)) ∧ w2 = wx)
          case first =>
            by_cases q97 : ru = 0 ∨ ru = 4
            · have q97b0 : (decide (ru = 0 ∨ ru = 4)) = true := decide_eq_true q97
              by_cases q98 : rv = 0 ∨ rv = 4
              · have q98b0 : (decide (rv = 0 ∨ rv = 4)) = true := decide_eq_true q98
                by_cases q99 : ru = rv
                · have q99b0 : (ru == rv) = true := beq_iff_eq.2 q99
                  by_cases q100 : m = 0
                  · have q100b0 : (m != 0) = false := bne_eq_false_iff_eq.2 q100
                    first
                    | (exfalso; omega)
                    | (go_wp2_with fail; refine (HOu.out _).mono ?_; rintro e wz ⟨rfl, rfl⟩; go_wp2_with fail; refine (HOv.out _).mono ?_; rintro e wz ⟨rfl, rfl⟩; go_wp2_with fail; refine (HSu.out _).mono ?_; rintro e wz ⟨rfl, rfl⟩; go_wp2_with fail; refine (HSv.out _).mono ?_; rintro e wz ⟨rfl, rfl⟩; go_wp2_with fail; all_goals (try go_meet); all_goals exact ⟨(by first | rfl | exact congrArg (Value.int .i64) (by omega)), (by first | rfl | exact congrArg (Value.int .i64) (by omega)), (by first | rfl | exact congrArg (Value.int .i64) (by omega)), (by first | rfl | exact congrArg (Value.int .i64) (by omega)), (by first | rfl | exact congrArg (Value.int .i64) (by omega)), (by first | rfl | exact congrArg (Value.int .i64) (by omega)), congrArg Value.bool (by first | exact (decide_eq_true (p := (ru = 0 ∨ ru = 4) ∧ (rv = 0 ∨ rv = 4) ∧ ru = rv ∧ m ≠ 0) (by omega)).symm | exact (decide_eq_false (p := (ru = 0 ∨ ru = 4) ∧ (rv = 0 ∨ rv = 4) ∧ ru = rv ∧ m ≠ 0) (by omega)).symm), rfl⟩)
                  · have q100b0 : (m != 0) = true := bne_iff_ne.2 q100
                    first
                    | (exfalso; omega)
                    | (go_wp2_with fail; refine (HOu.out _).mono ?_; rintro e wz ⟨rfl, rfl⟩; go_wp2_with fail; refine (HOv.out _).mono ?_; rintro e wz ⟨rfl, rfl⟩; go_wp2_with fail; refine (HSu.out _).mono ?_; rintro e wz ⟨rfl, rfl⟩; go_wp2_with fail; refine (HSv.out _).mono ?_; rintro e wz ⟨rfl, rfl⟩; go_wp2_with fail; all_goals (try go_meet); all_goals exact ⟨(by first | rfl | exact congrArg (Value.int .i64) (by omega)), (by first | rfl | exact congrArg (Value.int .i64) (by omega)), (by first | rfl | exact congrArg (Value.int .i64) (by omega)), (by first | rfl | exact congrArg (Value.int .i64) (by omega)), (by first | rfl | exact congrArg (Value.int .i64) (by omega)), (by first | rfl | exact congrArg (Value.int .i64) (by omega)), congrArg Value.bool (by first | exact (decide_eq_true (p := (ru = 0 ∨ ru = 4) ∧ (rv = 0 ∨ rv = 4) ∧ ru = rv ∧ m ≠ 0) (by omega)).symm | exact (decide_eq_false (p := (ru = 0 ∨ ru = 4) ∧ (rv = 0 ∨ rv = 4) ∧ ru = rv ∧ m ≠ 0) (by omega)).symm), rfl⟩)
                · have q99b0 : (ru == rv) = false := beq_eq_false_iff_ne.2 q99
                  first
                  | (exfalso; omega)
                  | (go_wp2_with fail; refine (HOu.out _).mono ?_; rintro e wz ⟨rfl, rfl⟩; go_wp2_with fail; refine (HOv.out _).mono ?_; rintro e wz ⟨rfl, rfl⟩; go_wp2_with fail; refine (HSu.out _).mono ?_; rintro e wz ⟨rfl, rfl⟩; go_wp2_with fail; refine (HSv.out _).mono ?_; rintro e wz ⟨rfl, rfl⟩; go_wp2_with fail; all_goals (try go_meet); all_goals exact ⟨(by first | rfl | exact congrArg (Value.int .i64) (by omega)), (by first | rfl | exact congrArg (Value.int .i64) (by omega)), (by first | rfl | exact congrArg (Value.int .i64) (by omega)), (by first | rfl | exact congrArg (Value.int .i64) (by omega)), (by first | rfl | exact congrArg (Value.int .i64) (by omega)), (by first | rfl | exact congrArg (Value.int .i64) (by omega)), congrArg Value.bool (by first | exact (decide_eq_true (p := (ru = 0 ∨ ru = 4) ∧ (rv = 0 ∨ rv = 4) ∧ ru = rv ∧ m ≠ 0) (by omega)).symm | exact (decide_eq_false (p := (ru = 0 ∨ ru = 4) ∧ (rv = 0 ∨ rv = 4) ∧ ru = rv ∧ m ≠ 0) (by omega)).symm), rfl⟩)
              · have q98b0 : (decide (rv = 0 ∨ rv = 4)) = false := decide_eq_false q98
                first
                | (exfalso; omega)
                | (go_wp2_with fail; refine (HOu.out _).mono ?_; rintro e wz ⟨rfl, rfl⟩; go_wp2_with fail; refine (HOv.out _).mono ?_; rintro e wz ⟨rfl, rfl⟩; go_wp2_with fail; all_goals (try go_meet); all_goals exact ⟨(by first | rfl | exact congrArg (Value.int .i64) (by omega)), (by first | rfl | exact congrArg (Value.int .i64) (by omega)), (by first | rfl | exact congrArg (Value.int .i64) (by omega)), (by first | rfl | exact congrArg (Value.int .i64) (by omega)), (by first | rfl | exact congrArg (Value.int .i64) (by omega)), (by first | rfl | exact congrArg (Value.int .i64) (by omega)), congrArg Value.bool (by first | exact (decide_eq_true (p := (ru = 0 ∨ ru = 4) ∧ (rv = 0 ∨ rv = 4) ∧ ru = rv ∧ m ≠ 0) (by omega)).symm | exact (decide_eq_false (p := (ru = 0 ∨ ru = 4) ∧ (rv = 0 ∨ rv = 4) ∧ ru = rv ∧ m ≠ 0) (by omega)).symm), rfl⟩)
            · have q97b0 : (decide (ru = 0 ∨ ru = 4)) = false := decide_eq_false q97
              first
              | (exfalso; omega)
              | (go_wp2_with fail; refine (HOu.out _).mono ?_; rintro e wz ⟨rfl, rfl⟩; go_wp2_with fail; all_goals (try go_meet); all_goals exact ⟨(by first | rfl | exact congrArg (Value.int .i64) (by omega)), (by first | rfl | exact congrArg (Value.int .i64) (by omega)), (by first | rfl | exact congrArg (Value.int .i64) (by omega)), (by first | rfl | exact congrArg (Value.int .i64) (by omega)), (by first | rfl | exact congrArg (Value.int .i64) (by omega)), (by first | rfl | exact congrArg (Value.int .i64) (by omega)), congrArg Value.bool (by first | exact (decide_eq_true (p := (ru = 0 ∨ ru = 4) ∧ (rv = 0 ∨ rv = 4) ∧ ru = rv ∧ m ≠ 0) (by omega)).symm | exact (decide_eq_false (p := (ru = 0 ∨ ru = 4) ∧ (rv = 0 ∨ rv = 4) ∧ ru = rv ∧ m ≠ 0) (by omega)).symm), rfl⟩)
          case rest =>
            obtain ⟨rfl, rfl, rfl, rfl, rfl, rfl, rfl, rfl⟩ := hcut
            have hd := decide_eq_false n5
            rw [hd]
            clear hd
            have n6 : ¬ ((rv = 0 ∨ rv = 4) ∧ ((0 < m ∧ 0 < gm) ∨ (m < 0 ∧ gm < 0)) ∧ am ≠ 1) := by have := HCL.out; omega
            go_upto_region 15 with fail
            go_cut [2, 6, 7, 8, 9, 10, 144] from 122 to 144 (fun s2 s6 s7 s8 s9 s10 c wx => s2 = .int .i64 (i : Int) ∧ s6 = .int .i64 0 ∧ s7 = .int .i64 v ∧ s8 = .int .i64 m ∧ s9 = .int .i64 gm ∧ s10 = .int .i64 u ∧ c = .bool (decide ((rv = 0 ∨ rv = 4) ∧ ((0 < m ∧ 0 < gm) ∨ (m < 0 ∧ gm < 0)) ∧ am ≠ 1)) ∧ w2 = wx)
            case first =>
              by_cases q101 : rv = 0 ∨ rv = 4
              · have q101b0 : (decide (rv = 0 ∨ rv = 4)) = true := decide_eq_true q101
                by_cases q102 : 0 < m
                · have q102b0 : (decide (0 < m)) = true := decide_eq_true q102
                  have q102b1 : (decide (m < 0)) = false := decide_eq_false (by omega)
                  by_cases q103 : 0 < gm
                  · have q103b0 : (decide (0 < gm)) = true := decide_eq_true q103
                    by_cases q104 : am = 1
                    · have q104b0 : (am != 1) = false := bne_eq_false_iff_eq.2 q104
                      first
                      | (exfalso; omega)
                      | (go_wp2_with fail; refine (HOv.out _).mono ?_; rintro e wz ⟨rfl, rfl⟩; go_wp2_with fail; refine (HAm.out _).mono ?_; rintro e wz ⟨rfl, rfl⟩; go_wp2_with fail; all_goals (try go_meet); all_goals exact ⟨(by first | rfl | exact congrArg (Value.int .i64) (by omega)), (by first | rfl | exact congrArg (Value.int .i64) (by omega)), (by first | rfl | exact congrArg (Value.int .i64) (by omega)), (by first | rfl | exact congrArg (Value.int .i64) (by omega)), (by first | rfl | exact congrArg (Value.int .i64) (by omega)), (by first | rfl | exact congrArg (Value.int .i64) (by omega)), congrArg Value.bool (by first | exact (decide_eq_true (p := (rv = 0 ∨ rv = 4) ∧ ((0 < m ∧ 0 < gm) ∨ (m < 0 ∧ gm < 0)) ∧ am ≠ 1) (by omega)).symm | exact (decide_eq_false (p := (rv = 0 ∨ rv = 4) ∧ ((0 < m ∧ 0 < gm) ∨ (m < 0 ∧ gm < 0)) ∧ am ≠ 1) (by omega)).symm), rfl⟩)
                    · have q104b0 : (am != 1) = true := bne_iff_ne.2 q104
                      first
                      | (exfalso; omega)
                      | (go_wp2_with fail; refine (HOv.out _).mono ?_; rintro e wz ⟨rfl, rfl⟩; go_wp2_with fail; refine (HAm.out _).mono ?_; rintro e wz ⟨rfl, rfl⟩; go_wp2_with fail; all_goals (try go_meet); all_goals exact ⟨(by first | rfl | exact congrArg (Value.int .i64) (by omega)), (by first | rfl | exact congrArg (Value.int .i64) (by omega)), (by first | rfl | exact congrArg (Value.int .i64) (by omega)), (by first | rfl | exact congrArg (Value.int .i64) (by omega)), (by first | rfl | exact congrArg (Value.int .i64) (by omega)), (by first | rfl | exact congrArg (Value.int .i64) (by omega)), congrArg Value.bool (by first | exact (decide_eq_true (p := (rv = 0 ∨ rv = 4) ∧ ((0 < m ∧ 0 < gm) ∨ (m < 0 ∧ gm < 0)) ∧ am ≠ 1) (by omega)).symm | exact (decide_eq_false (p := (rv = 0 ∨ rv = 4) ∧ ((0 < m ∧ 0 < gm) ∨ (m < 0 ∧ gm < 0)) ∧ am ≠ 1) (by omega)).symm), rfl⟩)
                  · have q103b0 : (decide (0 < gm)) = false := decide_eq_false q103
                    first
                    | (exfalso; omega)
                    | (go_wp2_with fail; refine (HOv.out _).mono ?_; rintro e wz ⟨rfl, rfl⟩; go_wp2_with fail; all_goals (try go_meet); all_goals exact ⟨(by first | rfl | exact congrArg (Value.int .i64) (by omega)), (by first | rfl | exact congrArg (Value.int .i64) (by omega)), (by first | rfl | exact congrArg (Value.int .i64) (by omega)), (by first | rfl | exact congrArg (Value.int .i64) (by omega)), (by first | rfl | exact congrArg (Value.int .i64) (by omega)), (by first | rfl | exact congrArg (Value.int .i64) (by omega)), congrArg Value.bool (by first | exact (decide_eq_true (p := (rv = 0 ∨ rv = 4) ∧ ((0 < m ∧ 0 < gm) ∨ (m < 0 ∧ gm < 0)) ∧ am ≠ 1) (by omega)).symm | exact (decide_eq_false (p := (rv = 0 ∨ rv = 4) ∧ ((0 < m ∧ 0 < gm) ∨ (m < 0 ∧ gm < 0)) ∧ am ≠ 1) (by omega)).symm), rfl⟩)
                · have q102b0 : (decide (0 < m)) = false := decide_eq_false q102
                  by_cases q105 : m < 0
                  · have q105b0 : (decide (m < 0)) = true := decide_eq_true q105
                    by_cases q106 : gm < 0
                    · have q106b0 : (decide (gm < 0)) = true := decide_eq_true q106
                      by_cases q107 : am = 1
                      · have q107b0 : (am != 1) = false := bne_eq_false_iff_eq.2 q107
                        first
                        | (exfalso; omega)
                        | (go_wp2_with fail; refine (HOv.out _).mono ?_; rintro e wz ⟨rfl, rfl⟩; go_wp2_with fail; refine (HAm.out _).mono ?_; rintro e wz ⟨rfl, rfl⟩; go_wp2_with fail; all_goals (try go_meet); all_goals exact ⟨(by first | rfl | exact congrArg (Value.int .i64) (by omega)), (by first | rfl | exact congrArg (Value.int .i64) (by omega)), (by first | rfl | exact congrArg (Value.int .i64) (by omega)), (by first | rfl | exact congrArg (Value.int .i64) (by omega)), (by first | rfl | exact congrArg (Value.int .i64) (by omega)), (by first | rfl | exact congrArg (Value.int .i64) (by omega)), congrArg Value.bool (by first | exact (decide_eq_true (p := (rv = 0 ∨ rv = 4) ∧ ((0 < m ∧ 0 < gm) ∨ (m < 0 ∧ gm < 0)) ∧ am ≠ 1) (by omega)).symm | exact (decide_eq_false (p := (rv = 0 ∨ rv = 4) ∧ ((0 < m ∧ 0 < gm) ∨ (m < 0 ∧ gm < 0)) ∧ am ≠ 1) (by omega)).symm), rfl⟩)
                      · have q107b0 : (am != 1) = true := bne_iff_ne.2 q107
                        first
                        | (exfalso; omega)
                        | (go_wp2_with fail; refine (HOv.out _).mono ?_; rintro e wz ⟨rfl, rfl⟩; go_wp2_with fail; refine (HAm.out _).mono ?_; rintro e wz ⟨rfl, rfl⟩; go_wp2_with fail; all_goals (try go_meet); all_goals exact ⟨(by first | rfl | exact congrArg (Value.int .i64) (by omega)), (by first | rfl | exact congrArg (Value.int .i64) (by omega)), (by first | rfl | exact congrArg (Value.int .i64) (by omega)), (by first | rfl | exact congrArg (Value.int .i64) (by omega)), (by first | rfl | exact congrArg (Value.int .i64) (by omega)), (by first | rfl | exact congrArg (Value.int .i64) (by omega)), congrArg Value.bool (by first | exact (decide_eq_true (p := (rv = 0 ∨ rv = 4) ∧ ((0 < m ∧ 0 < gm) ∨ (m < 0 ∧ gm < 0)) ∧ am ≠ 1) (by omega)).symm | exact (decide_eq_false (p := (rv = 0 ∨ rv = 4) ∧ ((0 < m ∧ 0 < gm) ∨ (m < 0 ∧ gm < 0)) ∧ am ≠ 1) (by omega)).symm), rfl⟩)
                    · have q106b0 : (decide (gm < 0)) = false := decide_eq_false q106
                      first
                      | (exfalso; omega)
                      | (go_wp2_with fail; refine (HOv.out _).mono ?_; rintro e wz ⟨rfl, rfl⟩; go_wp2_with fail; all_goals (try go_meet); all_goals exact ⟨(by first | rfl | exact congrArg (Value.int .i64) (by omega)), (by first | rfl | exact congrArg (Value.int .i64) (by omega)), (by first | rfl | exact congrArg (Value.int .i64) (by omega)), (by first | rfl | exact congrArg (Value.int .i64) (by omega)), (by first | rfl | exact congrArg (Value.int .i64) (by omega)), (by first | rfl | exact congrArg (Value.int .i64) (by omega)), congrArg Value.bool (by first | exact (decide_eq_true (p := (rv = 0 ∨ rv = 4) ∧ ((0 < m ∧ 0 < gm) ∨ (m < 0 ∧ gm < 0)) ∧ am ≠ 1) (by omega)).symm | exact (decide_eq_false (p := (rv = 0 ∨ rv = 4) ∧ ((0 < m ∧ 0 < gm) ∨ (m < 0 ∧ gm < 0)) ∧ am ≠ 1) (by omega)).symm), rfl⟩)
                  · have q105b0 : (decide (m < 0)) = false := decide_eq_false q105
                    first
                    | (exfalso; omega)
                    | (go_wp2_with fail; refine (HOv.out _).mono ?_; rintro e wz ⟨rfl, rfl⟩; go_wp2_with fail; all_goals (try go_meet); all_goals exact ⟨(by first | rfl | exact congrArg (Value.int .i64) (by omega)), (by first | rfl | exact congrArg (Value.int .i64) (by omega)), (by first | rfl | exact congrArg (Value.int .i64) (by omega)), (by first | rfl | exact congrArg (Value.int .i64) (by omega)), (by first | rfl | exact congrArg (Value.int .i64) (by omega)), (by first | rfl | exact congrArg (Value.int .i64) (by omega)), congrArg Value.bool (by first | exact (decide_eq_true (p := (rv = 0 ∨ rv = 4) ∧ ((0 < m ∧ 0 < gm) ∨ (m < 0 ∧ gm < 0)) ∧ am ≠ 1) (by omega)).symm | exact (decide_eq_false (p := (rv = 0 ∨ rv = 4) ∧ ((0 < m ∧ 0 < gm) ∨ (m < 0 ∧ gm < 0)) ∧ am ≠ 1) (by omega)).symm), rfl⟩)
              · have q101b0 : (decide (rv = 0 ∨ rv = 4)) = false := decide_eq_false q101
                first
                | (exfalso; omega)
                | (go_wp2_with fail; refine (HOv.out _).mono ?_; rintro e wz ⟨rfl, rfl⟩; go_wp2_with fail; all_goals (try go_meet); all_goals exact ⟨(by first | rfl | exact congrArg (Value.int .i64) (by omega)), (by first | rfl | exact congrArg (Value.int .i64) (by omega)), (by first | rfl | exact congrArg (Value.int .i64) (by omega)), (by first | rfl | exact congrArg (Value.int .i64) (by omega)), (by first | rfl | exact congrArg (Value.int .i64) (by omega)), (by first | rfl | exact congrArg (Value.int .i64) (by omega)), congrArg Value.bool (by first | exact (decide_eq_true (p := (rv = 0 ∨ rv = 4) ∧ ((0 < m ∧ 0 < gm) ∨ (m < 0 ∧ gm < 0)) ∧ am ≠ 1) (by omega)).symm | exact (decide_eq_false (p := (rv = 0 ∨ rv = 4) ∧ ((0 < m ∧ 0 < gm) ∨ (m < 0 ∧ gm < 0)) ∧ am ≠ 1) (by omega)).symm), rfl⟩)
            case rest =>
              obtain ⟨rfl, rfl, rfl, rfl, rfl, rfl, rfl, rfl⟩ := hcut
              have hd := decide_eq_false n6
              rw [hd]
              clear hd
              have n9 : i = 1 := by have := HCL.out; omega
              have hd : ((i : Int) == 1) = true := beq_iff_eq.2 (by omega)
              go_wp2
              go_ret
              exact ⟨ret_int (by rw [← HBK.out]; unfold brk; rw [if_neg n1, if_neg n2, if_neg n3, if_neg n0, if_neg n4, if_neg n5, if_neg n6, if_pos n9]; rfl), HW1.out⟩
end

section
/-
  The reference's rules at a place, second part.
-/
open Go.ChangeShapes Go.WideShapes Go.ChangeAt Go.RowKit
set_option maxRecDepth 100000

set_option maxHeartbeats 40000000 in
theorem RBr_7a (i Lg Ls : Nat) (x y x1 y1 y2 v rv ru m am p gm : Int) (b1 o1 c1 b2 o2 c2 : Nat) (w : World) (hi : i < Ls) (hig : i < Lg) (g8 : Lg ≤ 8) (nx : 0 ≤ x ∧ x ≤ 20) (ny : 0 ≤ y ∧ y ≤ 20) (nx1 : 0 ≤ x1 ∧ x1 ≤ 20) (ny1 : 0 ≤ y1 ∧ y1 ≤ 20) (ny2 : 0 ≤ y2 ∧ y2 ≤ 20)
    (a1 : w.cell? ⟨b1, o1 + i, none⟩ = some (.int .i64 x)) (a2 : w.cell? ⟨b2, o2 + i, none⟩ = some (.int .i64 y)) (a3 : w.cell? ⟨b1, o1 + (i - 1), none⟩ = some (.int .i64 x1)) (a4 : w.cell? ⟨b2, o2 + (i - 1), none⟩ = some (.int .i64 y1)) (a5 : w.cell? ⟨b2, o2 + (i - 1 - 1), none⟩ = some (.int .i64 y2))
    (hv : y - x = v) (hrv : v % 7 = rv) (hru : (y1 - x1) % 7 = ru) (hm : y - y1 = m) (ham : absI m = am) (hgm : x - x1 = gm) (hp : y1 - y2 = p) (hcl : (((¬ (v < 0 ∨ 14 < v)) ∧ (¬ (¬ (rv = 0 ∨ rv = 4) ∧ rv ≠ 2 ∧ rv ≠ 5)) ∧ (¬ ((i + 1 = Lg ∧ rv ≠ 0) ∨ (i = 0 ∧ rv ≠ 0 ∧ rv ≠ 4))) ∧ (¬ (i = 0)) ∧ (¬ (4 < am ∧ am ≠ 7))) ∧ (¬ ((ru = 0 ∨ ru = 4) ∧ (rv = 0 ∨ rv = 4) ∧ ru = rv ∧ m ≠ 0)) ∧ (¬ ((rv = 0 ∨ rv = 4) ∧ ((0 < m ∧ 0 < gm) ∨ (m < 0 ∧ gm < 0)) ∧ am ≠ 1))) ∧ (¬ (i = 1)) ∧ ((2 < p ∧ m ≠ -1 ∧ m ≠ -2) ∨ (p < -2 ∧ m ≠ 1 ∧ m ≠ 2)) ∧ (rv = 0 ∨ rv = 4)) :
    Calls Try.prog 85 #[.slice (some ⟨b1, o1, none⟩) Lg c1, .slice (some ⟨b2, o2, none⟩) Ls c2, .int .i64 (i : Int)] w fun e w' => e = .returned (.int .i64 (brk v rv ru m am p gm i Lg : Nat)) ∧ ∃ q, w' = w.drewN q := by
  have HCL := Lib.hid hcl
  clear hcl
  have HOv := Lib.hid (fun W => ropen_any v (by omega) W)
  have HOu := Lib.hid (fun W => ropen_any (y1 - x1) (by omega) W)
  have HSv := Lib.hid (fun W => rsort_any v (by omega) W)
  have HSu := Lib.hid (fun W => rsort_any (y1 - x1) (by omega) W)
  have HAm := Lib.hid (fun W => rabs_any m (by omega) W)
  rw [show openB v = decide (v % 7 = 0 ∨ v % 7 = 4) from rfl, hrv] at HOv
  rw [show openB (y1 - x1) = decide ((y1 - x1) % 7 = 0 ∨ (y1 - x1) % 7 = 4) from rfl, hru] at HOu
  rw [hrv] at HSv
  rw [hru] at HSu
  rw [ham] at HAm
  have HTv := Lib.hid (show 0 ≤ v → v.tmod 7 = rv from fun h => by rw [← hrv]; exact Int.tmod_eq_emod_of_nonneg h)
  have HVe := Lib.hid hv
  have HMe := Lib.hid hm
  have HGe := Lib.hid hgm
  have HPe := Lib.hid hp
  have hmb : -20 ≤ m ∧ m ≤ 20 := by omega
  have hpb : -20 ≤ p ∧ p ≤ 20 := by omega
  obtain ⟨u, hu⟩ : ∃ u, y1 - x1 = u := ⟨_, rfl⟩
  have HUe := Lib.hid hu
  rw [hu] at HOu HSu
  have hvb : -20 ≤ v ∧ v ≤ 20 := by omega
  clear hv hrv hru hm ham hgm hp hu
  obtain ⟨bk, hbk⟩ : ∃ bk, brk v rv ru m am p gm i Lg = bk := ⟨_, rfl⟩
  have HBK := Lib.hid hbk
  rw [hbk]
  clear hbk
  go_enter Try.func85, Try.ntmps85
  go_upto_region 1 with fail
  go_quiet (fail)
  obtain ⟨w1, hw1⟩ : ∃ W, w.drewN nq = W := ⟨_, rfl⟩
  have HW1 := Lib.hid (show ∃ q, w1 = w.drewN q from ⟨_, hw1.symm⟩)
  have k1 : ∀ a v, w.cell? a = some v → w1.cell? a = some v := fun a v e => by rw [← hw1]; exact e
  have a3 := k1 _ _ a3
  have a4 := k1 _ _ a4
  have a5 := k1 _ _ a5
  have a1 := k1 _ _ a1
  have a2 := k1 _ _ a2
  rw [hw1, HVe.out]
  clear hw1 k1
  have n1 : ¬ (v < 0 ∨ 14 < v) := by have := HCL.out; omega
  go_upto_region 2 with fail
  go_cut [2, 6, 7, 26] from 12 to 26 (fun s2 s6 s7 c wx => s2 = .int .i64 (i : Int) ∧ s6 = .int .i64 0 ∧ s7 = .int .i64 v ∧ c = .bool (decide (v < 0 ∨ 14 < v)) ∧ w1 = wx)
  case first =>
    by_cases q108 : v < 0
    · have q108b0 : (decide (v < 0)) = true := decide_eq_true q108
      first
      | (exfalso; omega)
      | (go_wp2_with fail; all_goals (try go_meet); all_goals exact ⟨(by first | rfl | exact congrArg (Value.int .i64) (by omega)), (by first | rfl | exact congrArg (Value.int .i64) (by omega)), (by first | rfl | exact congrArg (Value.int .i64) (by omega)), congrArg Value.bool (by first | exact (decide_eq_true (p := v < 0 ∨ 14 < v) (by omega)).symm | exact (decide_eq_false (p := v < 0 ∨ 14 < v) (by omega)).symm), rfl⟩)
    · have q108b0 : (decide (v < 0)) = false := decide_eq_false q108
      by_cases q109 : 14 < v
      · have q109b0 : (decide (14 < v)) = true := decide_eq_true q109
        first
        | (exfalso; omega)
        | (go_wp2_with fail; all_goals (try go_meet); all_goals exact ⟨(by first | rfl | exact congrArg (Value.int .i64) (by omega)), (by first | rfl | exact congrArg (Value.int .i64) (by omega)), (by first | rfl | exact congrArg (Value.int .i64) (by omega)), congrArg Value.bool (by first | exact (decide_eq_true (p := v < 0 ∨ 14 < v) (by omega)).symm | exact (decide_eq_false (p := v < 0 ∨ 14 < v) (by omega)).symm), rfl⟩)
      · have q109b0 : (decide (14 < v)) = false := decide_eq_false q109
        first
        | (exfalso; omega)
        | (go_wp2_with fail; all_goals (try go_meet); all_goals exact ⟨(by first | rfl | exact congrArg (Value.int .i64) (by omega)), (by first | rfl | exact congrArg (Value.int .i64) (by omega)), (by first | rfl | exact congrArg (Value.int .i64) (by omega)), congrArg Value.bool (by first | exact (decide_eq_true (p := v < 0 ∨ 14 < v) (by omega)).symm | exact (decide_eq_false (p := v < 0 ∨ 14 < v) (by omega)).symm), rfl⟩)
  case rest =>
    obtain ⟨rfl, rfl, rfl, rfl, rfl⟩ := hcut
    have hd := decide_eq_false n1
    rw [hd]
    clear hd
    have n2 : ¬ (¬ (rv = 0 ∨ rv = 4) ∧ rv ≠ 2 ∧ rv ≠ 5) := by have := HCL.out; omega
    go_upto_region 4 with fail
    go_cut [2, 6, 7, 39] from 27 to 39 (fun s2 s6 s7 c wx => s2 = .int .i64 (i : Int) ∧ s6 = .int .i64 0 ∧ s7 = .int .i64 v ∧ c = .bool (decide (¬ (rv = 0 ∨ rv = 4) ∧ rv ≠ 2 ∧ rv ≠ 5)) ∧ w1 = wx)
    case first =>
      by_cases q110 : rv = 0 ∨ rv = 4
      · have q110b0 : (decide (rv = 0 ∨ rv = 4)) = true := decide_eq_true q110
        first
        | (exfalso; omega)
        | (go_wp2_with fail; refine (HOv.out _).mono ?_; rintro e wz ⟨rfl, rfl⟩; go_wp2_with fail; all_goals (try go_meet); all_goals exact ⟨(by first | rfl | exact congrArg (Value.int .i64) (by omega)), (by first | rfl | exact congrArg (Value.int .i64) (by omega)), (by first | rfl | exact congrArg (Value.int .i64) (by omega)), congrArg Value.bool (by first | exact (decide_eq_true (p := ¬ (rv = 0 ∨ rv = 4) ∧ rv ≠ 2 ∧ rv ≠ 5) (by omega)).symm | exact (decide_eq_false (p := ¬ (rv = 0 ∨ rv = 4) ∧ rv ≠ 2 ∧ rv ≠ 5) (by omega)).symm), rfl⟩)
      · have q110b0 : (decide (rv = 0 ∨ rv = 4)) = false := decide_eq_false q110
        by_cases q111 : rv = 2
        · have q111b0 : (rv != 2) = false := bne_eq_false_iff_eq.2 q111
          first
          | (exfalso; omega)
          | (go_wp2_with fail; refine (HOv.out _).mono ?_; rintro e wz ⟨rfl, rfl⟩; go_wp2_with fail; refine (HSv.out _).mono ?_; rintro e wz ⟨rfl, rfl⟩; go_wp2_with fail; all_goals (try go_meet); all_goals exact ⟨(by first | rfl | exact congrArg (Value.int .i64) (by omega)), (by first | rfl | exact congrArg (Value.int .i64) (by omega)), (by first | rfl | exact congrArg (Value.int .i64) (by omega)), congrArg Value.bool (by first | exact (decide_eq_true (p := ¬ (rv = 0 ∨ rv = 4) ∧ rv ≠ 2 ∧ rv ≠ 5) (by omega)).symm | exact (decide_eq_false (p := ¬ (rv = 0 ∨ rv = 4) ∧ rv ≠ 2 ∧ rv ≠ 5) (by omega)).symm), rfl⟩)
        · have q111b0 : (rv != 2) = true := bne_iff_ne.2 q111
          by_cases q112 : rv = 5
          · have q112b0 : (rv != 5) = false := bne_eq_false_iff_eq.2 q112
            first
            | (exfalso; omega)
            | (go_wp2_with fail; refine (HOv.out _).mono ?_; rintro e wz ⟨rfl, rfl⟩; go_wp2_with fail; refine (HSv.out _).mono ?_; rintro e wz ⟨rfl, rfl⟩; go_wp2_with fail; refine (HSv.out _).mono ?_; rintro e wz ⟨rfl, rfl⟩; go_wp2_with fail; all_goals (try go_meet); all_goals exact ⟨(by first | rfl | exact congrArg (Value.int .i64) (by omega)), (by first | rfl | exact congrArg (Value.int .i64) (by omega)), (by first | rfl | exact congrArg (Value.int .i64) (by omega)), congrArg Value.bool (by first | exact (decide_eq_true (p := ¬ (rv = 0 ∨ rv = 4) ∧ rv ≠ 2 ∧ rv ≠ 5) (by omega)).symm | exact (decide_eq_false (p := ¬ (rv = 0 ∨ rv = 4) ∧ rv ≠ 2 ∧ rv ≠ 5) (by omega)).symm), rfl⟩)
          · have q112b0 : (rv != 5) = true := bne_iff_ne.2 q112
            first
            | (exfalso; omega)
            | (go_wp2_with fail; refine (HOv.out _).mono ?_; rintro e wz ⟨rfl, rfl⟩; go_wp2_with fail; refine (HSv.out _).mono ?_; rintro e wz ⟨rfl, rfl⟩; go_wp2_with fail; refine (HSv.out _).mono ?_; rintro e wz ⟨rfl, rfl⟩; go_wp2_with fail; all_goals (try go_meet); all_goals exact ⟨(by first | rfl | exact congrArg (Value.int .i64) (by omega)), (by first | rfl | exact congrArg (Value.int .i64) (by omega)), (by first | rfl | exact congrArg (Value.int .i64) (by omega)), congrArg Value.bool (by first | exact (decide_eq_true (p := ¬ (rv = 0 ∨ rv = 4) ∧ rv ≠ 2 ∧ rv ≠ 5) (by omega)).symm | exact (decide_eq_false (p := ¬ (rv = 0 ∨ rv = 4) ∧ rv ≠ 2 ∧ rv ≠ 5) (by omega)).symm), rfl⟩)
    case rest =>
      obtain ⟨rfl, rfl, rfl, rfl, rfl⟩ := hcut
      have hd := decide_eq_false n2
      rw [hd]
      clear hd
      have hv0 : 0 ≤ v := by omega
      have htv := HTv.out hv0
      have n3 : ¬ ((i + 1 = Lg ∧ rv ≠ 0) ∨ (i = 0 ∧ rv ≠ 0 ∧ rv ≠ 4)) := by have := HCL.out; omega
      go_upto_region 6 with fail
      go_cut [2, 6, 7, 63] from 40 to 63 (fun s2 s6 s7 c wx => s2 = .int .i64 (i : Int) ∧ s6 = .int .i64 0 ∧ s7 = .int .i64 v ∧ c = .bool (decide ((i + 1 = Lg ∧ rv ≠ 0) ∨ (i = 0 ∧ rv ≠ 0 ∧ rv ≠ 4))) ∧ w1 = wx)
      case first =>
        by_cases q113 : i + 1 = Lg
        · have q113b0 : ((i : Int) == (Lg : Int) - 1) = true := beq_iff_eq.2 (by omega)
          by_cases q114 : rv = 0
          · have q114b0 : (rv != 0) = false := bne_eq_false_iff_eq.2 q114
            by_cases q115 : i = 0
            · have q115b0 : ((i : Int) == 0) = true := beq_iff_eq.2 (by omega)
              first
              | (exfalso; omega)
              | (go_wp2_with fail; all_goals (try go_meet); all_goals exact ⟨(by first | rfl | exact congrArg (Value.int .i64) (by omega)), (by first | rfl | exact congrArg (Value.int .i64) (by omega)), (by first | rfl | exact congrArg (Value.int .i64) (by omega)), congrArg Value.bool (by first | exact (decide_eq_true (p := (i + 1 = Lg ∧ rv ≠ 0) ∨ (i = 0 ∧ rv ≠ 0 ∧ rv ≠ 4)) (by omega)).symm | exact (decide_eq_false (p := (i + 1 = Lg ∧ rv ≠ 0) ∨ (i = 0 ∧ rv ≠ 0 ∧ rv ≠ 4)) (by omega)).symm), rfl⟩)
            · have q115b0 : ((i : Int) == 0) = false := beq_eq_false_iff_ne.2 (by omega)
              first
              | (exfalso; omega)
              | (go_wp2_with fail; all_goals (try go_meet); all_goals exact ⟨(by first | rfl | exact congrArg (Value.int .i64) (by omega)), (by first | rfl | exact congrArg (Value.int .i64) (by omega)), (by first | rfl | exact congrArg (Value.int .i64) (by omega)), congrArg Value.bool (by first | exact (decide_eq_true (p := (i + 1 = Lg ∧ rv ≠ 0) ∨ (i = 0 ∧ rv ≠ 0 ∧ rv ≠ 4)) (by omega)).symm | exact (decide_eq_false (p := (i + 1 = Lg ∧ rv ≠ 0) ∨ (i = 0 ∧ rv ≠ 0 ∧ rv ≠ 4)) (by omega)).symm), rfl⟩)
          · have q114b0 : (rv != 0) = true := bne_iff_ne.2 q114
            first
            | (exfalso; omega)
            | (go_wp2_with fail; all_goals (try go_meet); all_goals exact ⟨(by first | rfl | exact congrArg (Value.int .i64) (by omega)), (by first | rfl | exact congrArg (Value.int .i64) (by omega)), (by first | rfl | exact congrArg (Value.int .i64) (by omega)), congrArg Value.bool (by first | exact (decide_eq_true (p := (i + 1 = Lg ∧ rv ≠ 0) ∨ (i = 0 ∧ rv ≠ 0 ∧ rv ≠ 4)) (by omega)).symm | exact (decide_eq_false (p := (i + 1 = Lg ∧ rv ≠ 0) ∨ (i = 0 ∧ rv ≠ 0 ∧ rv ≠ 4)) (by omega)).symm), rfl⟩)
        · have q113b0 : ((i : Int) == (Lg : Int) - 1) = false := beq_eq_false_iff_ne.2 (by omega)
          by_cases q116 : i = 0
          · have q116b0 : ((i : Int) == 0) = true := beq_iff_eq.2 (by omega)
            by_cases q117 : rv = 0
            · have q117b0 : (rv != 0) = false := bne_eq_false_iff_eq.2 q117
              first
              | (exfalso; omega)
              | (go_wp2_with fail; all_goals (try go_meet); all_goals exact ⟨(by first | rfl | exact congrArg (Value.int .i64) (by omega)), (by first | rfl | exact congrArg (Value.int .i64) (by omega)), (by first | rfl | exact congrArg (Value.int .i64) (by omega)), congrArg Value.bool (by first | exact (decide_eq_true (p := (i + 1 = Lg ∧ rv ≠ 0) ∨ (i = 0 ∧ rv ≠ 0 ∧ rv ≠ 4)) (by omega)).symm | exact (decide_eq_false (p := (i + 1 = Lg ∧ rv ≠ 0) ∨ (i = 0 ∧ rv ≠ 0 ∧ rv ≠ 4)) (by omega)).symm), rfl⟩)
            · have q117b0 : (rv != 0) = true := bne_iff_ne.2 q117
              by_cases q118 : rv = 4
              · have q118b0 : (rv != 4) = false := bne_eq_false_iff_eq.2 q118
                first
                | (exfalso; omega)
                | (go_wp2_with fail; all_goals (try go_meet); all_goals exact ⟨(by first | rfl | exact congrArg (Value.int .i64) (by omega)), (by first | rfl | exact congrArg (Value.int .i64) (by omega)), (by first | rfl | exact congrArg (Value.int .i64) (by omega)), congrArg Value.bool (by first | exact (decide_eq_true (p := (i + 1 = Lg ∧ rv ≠ 0) ∨ (i = 0 ∧ rv ≠ 0 ∧ rv ≠ 4)) (by omega)).symm | exact (decide_eq_false (p := (i + 1 = Lg ∧ rv ≠ 0) ∨ (i = 0 ∧ rv ≠ 0 ∧ rv ≠ 4)) (by omega)).symm), rfl⟩)
              · have q118b0 : (rv != 4) = true := bne_iff_ne.2 q118
                first
                | (exfalso; omega)
                | (go_wp2_with fail; all_goals (try go_meet); all_goals exact ⟨(by first | rfl | exact congrArg (Value.int .i64) (by omega)), (by first | rfl | exact congrArg (Value.int .i64) (by omega)), (by first | rfl | exact congrArg (Value.int .i64) (by omega)), congrArg Value.bool (by first | exact (decide_eq_true (p := (i + 1 = Lg ∧ rv ≠ 0) ∨ (i = 0 ∧ rv ≠ 0 ∧ rv ≠ 4)) (by omega)).symm | exact (decide_eq_false (p := (i + 1 = Lg ∧ rv ≠ 0) ∨ (i = 0 ∧ rv ≠ 0 ∧ rv ≠ 4)) (by omega)).symm), rfl⟩)
          · have q116b0 : ((i : Int) == 0) = false := beq_eq_false_iff_ne.2 (by omega)
            first
            | (exfalso; omega)
            | (go_wp2_with fail; all_goals (try go_meet); all_goals exact ⟨(by first | rfl | exact congrArg (Value.int .i64) (by omega)), (by first | rfl | exact congrArg (Value.int .i64) (by omega)), (by first | rfl | exact congrArg (Value.int .i64) (by omega)), congrArg Value.bool (by first | exact (decide_eq_true (p := (i + 1 = Lg ∧ rv ≠ 0) ∨ (i = 0 ∧ rv ≠ 0 ∧ rv ≠ 4)) (by omega)).symm | exact (decide_eq_false (p := (i + 1 = Lg ∧ rv ≠ 0) ∨ (i = 0 ∧ rv ≠ 0 ∧ rv ≠ 4)) (by omega)).symm), rfl⟩)
      case rest =>
        obtain ⟨rfl, rfl, rfl, rfl, rfl⟩ := hcut
        clear htv
        have hd := decide_eq_false n3
        rw [hd]
        clear hd
        have n0 : ¬ (i = 0) := by have := HCL.out; omega
        have hd : ((i : Int) == 0) = false := beq_eq_false_iff_ne.2 (by omega)
        have hi1 : 1 ≤ i := by omega
        obtain ⟨z1, z2, z3⟩ := idx1 hi1 (show i < 1000 by omega)
        go_upto_region 10 with fail
        go_quiet (fail)
        go_upto_region 11 with fail
        obtain ⟨w2, hw2⟩ : ∃ W, w1.drewN nq = W := ⟨_, rfl⟩
        have HW2 := Lib.hid (show ∃ q, w2 = w.drewN q by obtain ⟨q, hq⟩ := HW1.out; exact ⟨q + nq, by rw [← hw2, hq, World.drewN_drewN]⟩)
        have k2 : ∀ a v, w1.cell? a = some v → w2.cell? a = some v := fun a v e => by rw [← hw2]; exact e
        have a4 := k2 _ _ a4
        have a5 := k2 _ _ a5
        rw [hw2, HMe.out, HGe.out, HUe.out]
        clear hw2 k2 a1 a2 a3 z1 z2 z3 HW1
        have HW1 := HW2
        clear HW2
        have n4 : ¬ (4 < am ∧ am ≠ 7) := by have := HCL.out; omega
        go_upto_region 11 with fail
        go_cut [2, 6, 7, 8, 9, 10, 104] from 64 to 104 (fun s2 s6 s7 s8 s9 s10 c wx => s2 = .int .i64 (i : Int) ∧ s6 = .int .i64 0 ∧ s7 = .int .i64 v ∧ s8 = .int .i64 m ∧ s9 = .int .i64 gm ∧ s10 = .int .i64 u ∧ c = .bool (decide (4 < am ∧ am ≠ 7)) ∧ w2 = wx)
        case first =>
          by_cases q119 : 4 < am
          · have q119b0 : (decide (4 < am)) = true := decide_eq_true q119
            by_cases q120 : am = 7
            · have q120b0 : (am != 7) = false := bne_eq_false_iff_eq.2 q120
              first
              | (exfalso; omega)
              | (go_wp2_with fail; refine (HAm.out _).mono ?_; rintro e wz ⟨rfl, rfl⟩; go_wp2_with fail; refine (HAm.out _).mono ?_; rintro e wz ⟨rfl, rfl⟩; go_wp2_with fail; all_goals (try go_meet); all_goals exact ⟨(by first | rfl | exact congrArg (Value.int .i64) (by omega)), (by first | rfl | exact congrArg (Value.int .i64) (by omega)), (by first | rfl | exact congrArg (Value.int .i64) (by omega)), (by first | rfl | exact congrArg (Value.int .i64) (by omega)), (by first | rfl | exact congrArg (Value.int .i64) (by omega)), (by first | rfl | exact congrArg (Value.int .i64) (by omega)), congrArg Value.bool (by first | exact (decide_eq_true (p := 4 < am ∧ am ≠ 7) (by omega)).symm | exact (decide_eq_false (p := 4 < am ∧ am ≠ 7) (by omega)).symm), rfl⟩)
            · have q120b0 : (am != 7) = true := bne_iff_ne.2 q120
              first
              | (exfalso; omega)
              | (go_wp2_with fail; refine (HAm.out _).mono ?_; rintro e wz ⟨rfl, rfl⟩; go_wp2_with fail; refine (HAm.out _).mono ?_; rintro e wz ⟨rfl, rfl⟩; go_wp2_with fail; all_goals (try go_meet); all_goals exact ⟨(by first | rfl | exact congrArg (Value.int .i64) (by omega)), (by first | rfl | exact congrArg (Value.int .i64) (by omega)), (by first | rfl | exact congrArg (Value.int .i64) (by omega)), (by first | rfl | exact congrArg (Value.int .i64) (by omega)), (by first | rfl | exact congrArg (Value.int .i64) (by omega)), (by first | rfl | exact congrArg (Value.int .i64) (by omega)), congrArg Value.bool (by first | exact (decide_eq_true (p := 4 < am ∧ am ≠ 7) (by omega)).symm | exact (decide_eq_false (p := 4 < am ∧ am ≠ 7) (by omega)).symm), rfl⟩)
          · have q119b0 : (decide (4 < am)) = false := decide_eq_false q119
            first
            | (exfalso; omega)
            | (go_wp2_with fail; refine (HAm.out _).mono ?_; rintro e wz ⟨rfl, rfl⟩; go_wp2_with fail; all_goals (try go_meet); all_goals exact ⟨(by first | rfl | exact congrArg (Value.int .i64) (by omega)), (by first | rfl | exact congrArg (Value.int .i64) (by omega)), (by first | rfl | exact congrArg (Value.int .i64) (by omega)), (by first | rfl | exact congrArg (Value.int .i64) (by omega)), (by first | rfl | exact congrArg (Value.int .i64) (by omega)), (by first | rfl | exact congrArg (Value.int .i64) (by omega)), congrArg Value.bool (by first | exact (decide_eq_true (p := 4 < am ∧ am ≠ 7) (by omega)).symm | exact (decide_eq_false (p := 4 < am ∧ am ≠ 7) (by omega)).symm), rfl⟩)
        case rest =>
          obtain ⟨rfl, rfl, rfl, rfl, rfl, rfl, rfl, rfl⟩ := hcut
          have hd := decide_eq_false n4
          rw [hd]
          clear hd
          have n5 : ¬ ((ru = 0 ∨ ru = 4) ∧ (rv = 0 ∨ rv = 4) ∧ ru = rv ∧ m ≠ 0) := by have := HCL.out; omega
          go_upto_region 13 with fail
          go_cut [2, 6, 7, 8, 9, 10, 121] from 105 to 121 (fun s2 s6 s7 s8 s9 s10 c wx => s2 = .int .i64 (i : Int) ∧ s6 = .int .i64 0 ∧ s7 = .int .i64 v ∧ s8 = .int .i64 m ∧ s9 = .int .i64 gm ∧ s10 = .int .i64 u ∧ c = .bool (decide ((ru = 0 ∨ ru = 4) ∧ (rv = 0 ∨ rv = 4) ∧ ru = rv ∧ m ≠ 0)) ∧ w2 = wx)
          case first =>
            by_cases q121 : ru = 0 ∨ ru = 4
            · have q121b0 : (decide (ru = 0 ∨ ru = 4)) = true := decide_eq_true q121
              by_cases q122 : rv = 0 ∨ rv = 4
              · have q122b0 : (decide (rv = 0 ∨ rv = 4)) = true := decide_eq_true q122
                by_cases q123 : ru = rv
                · have q123b0 : (ru == rv) = true := beq_iff_eq.2 q123
                  by_cases q124 : m = 0
                  · have q124b0 : (m != 0) = false := bne_eq_false_iff_eq.2 q124
                    first
                    | (exfalso; omega)
                    | (go_wp2_with fail; refine (HOu.out _).mono ?_; rintro e wz ⟨rfl, rfl⟩; go_wp2_with fail; refine (HOv.out _).mono ?_; rintro e wz ⟨rfl, rfl⟩; go_wp2_with fail; refine (HSu.out _).mono ?_; rintro e wz ⟨rfl, rfl⟩; go_wp2_with fail; refine (HSv.out _).mono ?_; rintro e wz ⟨rfl, rfl⟩; go_wp2_with fail; all_goals (try go_meet); all_goals exact ⟨(by first | rfl | exact congrArg (Value.int .i64) (by omega)), (by first | rfl | exact congrArg (Value.int .i64) (by omega)), (by first | rfl | exact congrArg (Value.int .i64) (by omega)), (by first | rfl | exact congrArg (Value.int .i64) (by omega)), (by first | rfl | exact congrArg (Value.int .i64) (by omega)), (by first | rfl | exact congrArg (Value.int .i64) (by omega)), congrArg Value.bool (by first | exact (decide_eq_true (p := (ru = 0 ∨ ru = 4) ∧ (rv = 0 ∨ rv = 4) ∧ ru = rv ∧ m ≠ 0) (by omega)).symm | exact (decide_eq_false (p := (ru = 0 ∨ ru = 4) ∧ (rv = 0 ∨ rv = 4) ∧ ru = rv ∧ m ≠ 0) (by omega)).symm), rfl⟩)
                  · have q124b0 : (m != 0) = true := bne_iff_ne.2 q124
                    first
                    | (exfalso; omega)
                    | (go_wp2_with fail; refine (HOu.out _).mono ?_; rintro e wz ⟨rfl, rfl⟩; go_wp2_with fail; refine (HOv.out _).mono ?_; rintro e wz ⟨rfl, rfl⟩; go_wp2_with fail; refine (HSu.out _).mono ?_; rintro e wz ⟨rfl, rfl⟩; go_wp2_with fail; refine (HSv.out _).mono ?_; rintro e wz ⟨rfl, rfl⟩; go_wp2_with fail; all_goals (try go_meet); all_goals exact ⟨(by first | rfl | exact congrArg (Value.int .i64) (by omega)), (by first | rfl | exact congrArg (Value.int .i64) (by omega)), (by first | rfl | exact congrArg (Value.int .i64) (by omega)), (by first | rfl | exact congrArg (Value.int .i64) (by omega)), (by first | rfl | exact congrArg (Value.int .i64) (by omega)), (by first | rfl | exact congrArg (Value.int .i64) (by omega)), congrArg Value.bool (by first | exact (decide_eq_true (p := (ru = 0 ∨ ru = 4) ∧ (rv = 0 ∨ rv = 4) ∧ ru = rv ∧ m ≠ 0) (by omega)).symm | exact (decide_eq_false (p := (ru = 0 ∨ ru = 4) ∧ (rv = 0 ∨ rv = 4) ∧ ru = rv ∧ m ≠ 0) (by omega)).symm), rfl⟩)
                · have q123b0 : (ru == rv) = false := beq_eq_false_iff_ne.2 q123
                  first
                  | (exfalso; omega)
                  | (go_wp2_with fail; refine (HOu.out _).mono ?_; rintro e wz ⟨rfl, rfl⟩; go_wp2_with fail; refine (HOv.out _).mono ?_; rintro e wz ⟨rfl, rfl⟩; go_wp2_with fail; refine (HSu.out _).mono ?_; rintro e wz ⟨rfl, rfl⟩; go_wp2_with fail; refine (HSv.out _).mono ?_; rintro e wz ⟨rfl, rfl⟩; go_wp2_with fail; all_goals (try go_meet); all_goals exact ⟨(by first | rfl | exact congrArg (Value.int .i64) (by omega)), (by first | rfl | exact congrArg (Value.int .i64) (by omega)), (by first | rfl | exact congrArg (Value.int .i64) (by omega)), (by first | rfl | exact congrArg (Value.int .i64) (by omega)), (by first | rfl | exact congrArg (Value.int .i64) (by omega)), (by first | rfl | exact congrArg (Value.int .i64) (by omega)), congrArg Value.bool (by first | exact (decide_eq_true (p := (ru = 0 ∨ ru = 4) ∧ (rv = 0 ∨ rv = 4) ∧ ru = rv ∧ m ≠ 0) (by omega)).symm | exact (decide_eq_false (p := (ru = 0 ∨ ru = 4) ∧ (rv = 0 ∨ rv = 4) ∧ ru = rv ∧ m ≠ 0) (by omega)).symm), rfl⟩)
              · have q122b0 : (decide (rv = 0 ∨ rv = 4)) = false := decide_eq_false q122
                first
                | (exfalso; omega)
                | (go_wp2_with fail; refine (HOu.out _).mono ?_; rintro e wz ⟨rfl, rfl⟩; go_wp2_with fail; refine (HOv.out _).mono ?_; rintro e wz ⟨rfl, rfl⟩; go_wp2_with fail; all_goals (try go_meet); all_goals exact ⟨(by first | rfl | exact congrArg (Value.int .i64) (by omega)), (by first | rfl | exact congrArg (Value.int .i64) (by omega)), (by first | rfl | exact congrArg (Value.int .i64) (by omega)), (by first | rfl | exact congrArg (Value.int .i64) (by omega)), (by first | rfl | exact congrArg (Value.int .i64) (by omega)), (by first | rfl | exact congrArg (Value.int .i64) (by omega)), congrArg Value.bool (by first | exact (decide_eq_true (p := (ru = 0 ∨ ru = 4) ∧ (rv = 0 ∨ rv = 4) ∧ ru = rv ∧ m ≠ 0) (by omega)).symm | exact (decide_eq_false (p := (ru = 0 ∨ ru = 4) ∧ (rv = 0 ∨ rv = 4) ∧ ru = rv ∧ m ≠ 0) (by omega)).symm), rfl⟩)
            · have q121b0 : (decide (ru = 0 ∨ ru = 4)) = false := decide_eq_false q121
              first
              | (exfalso; omega)
              | (go_wp2_with fail; refine (HOu.out _).mono ?_; rintro e wz ⟨rfl, rfl⟩; go_wp2_with fail; all_goals (try go_meet); all_goals exact ⟨(by first | rfl | exact congrArg (Value.int .i64) (by omega)), (by first | rfl | exact congrArg (Value.int .i64) (by omega)), (by first | rfl | exact congrArg (Value.int .i64) (by omega)), (by first | rfl | exact congrArg (Value.int .i64) (by omega)), (by first | rfl | exact congrArg (Value.int .i64) (by omega)), (by first | rfl | exact congrArg (Value.int .i64) (by omega)), congrArg Value.bool (by first | exact (decide_eq_true (p := (ru = 0 ∨ ru = 4) ∧ (rv = 0 ∨ rv = 4) ∧ ru = rv ∧ m ≠ 0) (by omega)).symm | exact (decide_eq_false (p := (ru = 0 ∨ ru = 4) ∧ (rv = 0 ∨ rv = 4) ∧ ru = rv ∧ m ≠ 0) (by omega)).symm), rfl⟩)
          case rest =>
            obtain ⟨rfl, rfl, rfl, rfl, rfl, rfl, rfl, rfl⟩ := hcut
            have hd := decide_eq_false n5
            rw [hd]
            clear hd
            have n6 : ¬ ((rv = 0 ∨ rv = 4) ∧ ((0 < m ∧ 0 < gm) ∨ (m < 0 ∧ gm < 0)) ∧ am ≠ 1) := by have := HCL.out; omega
            go_upto_region 15 with fail
            go_cut [2, 6, 7, 8, 9, 10, 144] from 122 to 144 (fun s2 s6 s7 s8 s9 s10 c wx => s2 = .int .i64 (i : Int) ∧ s6 = .int .i64 0 ∧ s7 = .int .i64 v ∧ s8 = .int .i64 m ∧ s9 = .int .i64 gm ∧ s10 = .int .i64 u ∧ c = .bool (decide ((rv = 0 ∨ rv = 4) ∧ ((0 < m ∧ 0 < gm) ∨ (m < 0 ∧ gm < 0)) ∧ am ≠ 1)) ∧ w2 = wx)
            case first =>
              by_cases q125 : rv = 0 ∨ rv = 4
              · have q125b0 : (decide (rv = 0 ∨ rv = 4)) = true := decide_eq_true q125
                by_cases q126 : 0 < m
                · have q126b0 : (decide (0 < m)) = true := decide_eq_true q126
                  have q126b1 : (decide (m < 0)) = false := decide_eq_false (by omega)
                  by_cases q127 : 0 < gm
                  · have q127b0 : (decide (0 < gm)) = true := decide_eq_true q127
                    by_cases q128 : am = 1
                    · have q128b0 : (am != 1) = false := bne_eq_false_iff_eq.2 q128
                      first
                      | (exfalso; omega)
                      | (go_wp2_with fail; refine (HOv.out _).mono ?_; rintro e wz ⟨rfl, rfl⟩; go_wp2_with fail; refine (HAm.out _).mono ?_; rintro e wz ⟨rfl, rfl⟩; go_wp2_with fail; all_goals (try go_meet); all_goals exact ⟨(by first | rfl | exact congrArg (Value.int .i64) (by omega)), (by first | rfl | exact congrArg (Value.int .i64) (by omega)), (by first | rfl | exact congrArg (Value.int .i64) (by omega)), (by first | rfl | exact congrArg (Value.int .i64) (by omega)), (by first | rfl | exact congrArg (Value.int .i64) (by omega)), (by first | rfl | exact congrArg (Value.int .i64) (by omega)), congrArg Value.bool (by first | exact (decide_eq_true (p := (rv = 0 ∨ rv = 4) ∧ ((0 < m ∧ 0 < gm) ∨ (m < 0 ∧ gm < 0)) ∧ am ≠ 1) (by omega)).symm | exact (decide_eq_false (p := (rv = 0 ∨ rv = 4) ∧ ((0 < m ∧ 0 < gm) ∨ (m < 0 ∧ gm < 0)) ∧ am ≠ 1) (by omega)).symm), rfl⟩)
                    · have q128b0 : (am != 1) = true := bne_iff_ne.2 q128
                      first
                      | (exfalso; omega)
                      | (go_wp2_with fail; refine (HOv.out _).mono ?_; rintro e wz ⟨rfl, rfl⟩; go_wp2_with fail; refine (HAm.out _).mono ?_; rintro e wz ⟨rfl, rfl⟩; go_wp2_with fail; all_goals (try go_meet); all_goals exact ⟨(by first | rfl | exact congrArg (Value.int .i64) (by omega)), (by first | rfl | exact congrArg (Value.int .i64) (by omega)), (by first | rfl | exact congrArg (Value.int .i64) (by omega)), (by first | rfl | exact congrArg (Value.int .i64) (by omega)), (by first | rfl | exact congrArg (Value.int .i64) (by omega)), (by first | rfl | exact congrArg (Value.int .i64) (by omega)), congrArg Value.bool (by first | exact (decide_eq_true (p := (rv = 0 ∨ rv = 4) ∧ ((0 < m ∧ 0 < gm) ∨ (m < 0 ∧ gm < 0)) ∧ am ≠ 1) (by omega)).symm | exact (decide_eq_false (p := (rv = 0 ∨ rv = 4) ∧ ((0 < m ∧ 0 < gm) ∨ (m < 0 ∧ gm < 0)) ∧ am ≠ 1) (by omega)).symm), rfl⟩)
                  · have q127b0 : (decide (0 < gm)) = false := decide_eq_false q127
                    first
                    | (exfalso; omega)
                    | (go_wp2_with fail; refine (HOv.out _).mono ?_; rintro e wz ⟨rfl, rfl⟩; go_wp2_with fail; all_goals (try go_meet); all_goals exact ⟨(by first | rfl | exact congrArg (Value.int .i64) (by omega)), (by first | rfl | exact congrArg (Value.int .i64) (by omega)), (by first | rfl | exact congrArg (Value.int .i64) (by omega)), (by first | rfl | exact congrArg (Value.int .i64) (by omega)), (by first | rfl | exact congrArg (Value.int .i64) (by omega)), (by first | rfl | exact congrArg (Value.int .i64) (by omega)), congrArg Value.bool (by first | exact (decide_eq_true (p := (rv = 0 ∨ rv = 4) ∧ ((0 < m ∧ 0 < gm) ∨ (m < 0 ∧ gm < 0)) ∧ am ≠ 1) (by omega)).symm | exact (decide_eq_false (p := (rv = 0 ∨ rv = 4) ∧ ((0 < m ∧ 0 < gm) ∨ (m < 0 ∧ gm < 0)) ∧ am ≠ 1) (by omega)).symm), rfl⟩)
                · have q126b0 : (decide (0 < m)) = false := decide_eq_false q126
                  by_cases q129 : m < 0
                  · have q129b0 : (decide (m < 0)) = true := decide_eq_true q129
                    by_cases q130 : gm < 0
                    · have q130b0 : (decide (gm < 0)) = true := decide_eq_true q130
                      by_cases q131 : am = 1
                      · have q131b0 : (am != 1) = false := bne_eq_false_iff_eq.2 q131
                        first
                        | (exfalso; omega)
                        | (go_wp2_with fail; refine (HOv.out _).mono ?_; rintro e wz ⟨rfl, rfl⟩; go_wp2_with fail; refine (HAm.out _).mono ?_; rintro e wz ⟨rfl, rfl⟩; go_wp2_with fail; all_goals (try go_meet); all_goals exact ⟨(by first | rfl | exact congrArg (Value.int .i64) (by omega)), (by first | rfl | exact congrArg (Value.int .i64) (by omega)), (by first | rfl | exact congrArg (Value.int .i64) (by omega)), (by first | rfl | exact congrArg (Value.int .i64) (by omega)), (by first | rfl | exact congrArg (Value.int .i64) (by omega)), (by first | rfl | exact congrArg (Value.int .i64) (by omega)), congrArg Value.bool (by first | exact (decide_eq_true (p := (rv = 0 ∨ rv = 4) ∧ ((0 < m ∧ 0 < gm) ∨ (m < 0 ∧ gm < 0)) ∧ am ≠ 1) (by omega)).symm | exact (decide_eq_false (p := (rv = 0 ∨ rv = 4) ∧ ((0 < m ∧ 0 < gm) ∨ (m < 0 ∧ gm < 0)) ∧ am ≠ 1) (by omega)).symm), rfl⟩)
                      · have q131b0 : (am != 1) = true := bne_iff_ne.2 q131
                        first
                        | (exfalso; omega)
                        | (go_wp2_with fail; refine (HOv.out _).mono ?_; rintro e wz ⟨rfl, rfl⟩; go_wp2_with fail; refine (HAm.out _).mono ?_; rintro e wz ⟨rfl, rfl⟩; go_wp2_with fail; all_goals (try go_meet); all_goals exact ⟨(by first | rfl | exact congrArg (Value.int .i64) (by omega)), (by first | rfl | exact congrArg (Value.int .i64) (by omega)), (by first | rfl | exact congrArg (Value.int .i64) (by omega)), (by first | rfl | exact congrArg (Value.int .i64) (by omega)), (by first | rfl | exact congrArg (Value.int .i64) (by omega)), (by first | rfl | exact congrArg (Value.int .i64) (by omega)), congrArg Value.bool (by first | exact (decide_eq_true (p := (rv = 0 ∨ rv = 4) ∧ ((0 < m ∧ 0 < gm) ∨ (m < 0 ∧ gm < 0)) ∧ am ≠ 1) (by omega)).symm | exact (decide_eq_false (p := (rv = 0 ∨ rv = 4) ∧ ((0 < m ∧ 0 < gm) ∨ (m < 0 ∧ gm < 0)) ∧ am ≠ 1) (by omega)).symm), rfl⟩)
                    · have q130b0 : (decide (gm < 0)) = false := decide_eq_false q130
                      first
                      | (exfalso; omega)
                      | (go_wp2_with fail; refine (HOv.out _).mono ?_; rintro e wz ⟨rfl, rfl⟩; go_wp2_with fail; all_goals (try go_meet); all_goals exact ⟨(by first | rfl | exact congrArg (Value.int .i64) (by omega)), (by first | rfl | exact congrArg (Value.int .i64) (by omega)), (by first | rfl | exact congrArg (Value.int .i64) (by omega)), (by first | rfl | exact congrArg (Value.int .i64) (by omega)), (by first | rfl | exact congrArg (Value.int .i64) (by omega)), (by first | rfl | exact congrArg (Value.int .i64) (by omega)), congrArg Value.bool (by first | exact (decide_eq_true (p := (rv = 0 ∨ rv = 4) ∧ ((0 < m ∧ 0 < gm) ∨ (m < 0 ∧ gm < 0)) ∧ am ≠ 1) (by omega)).symm | exact (decide_eq_false (p := (rv = 0 ∨ rv = 4) ∧ ((0 < m ∧ 0 < gm) ∨ (m < 0 ∧ gm < 0)) ∧ am ≠ 1) (by omega)).symm), rfl⟩)
                  · have q129b0 : (decide (m < 0)) = false := decide_eq_false q129
                    first
                    | (exfalso; omega)
                    | (go_wp2_with fail; refine (HOv.out _).mono ?_; rintro e wz ⟨rfl, rfl⟩; go_wp2_with fail; all_goals (try go_meet); all_goals exact ⟨(by first | rfl | exact congrArg (Value.int .i64) (by omega)), (by first | rfl | exact congrArg (Value.int .i64) (by omega)), (by first | rfl | exact congrArg (Value.int .i64) (by omega)), (by first | rfl | exact congrArg (Value.int .i64) (by omega)), (by first | rfl | exact congrArg (Value.int .i64) (by omega)), (by first | rfl | exact congrArg (Value.int .i64) (by omega)), congrArg Value.bool (by first | exact (decide_eq_true (p := (rv = 0 ∨ rv = 4) ∧ ((0 < m ∧ 0 < gm) ∨ (m < 0 ∧ gm < 0)) ∧ am ≠ 1) (by omega)).symm | exact (decide_eq_false (p := (rv = 0 ∨ rv = 4) ∧ ((0 < m ∧ 0 < gm) ∨ (m < 0 ∧ gm < 0)) ∧ am ≠ 1) (by omega)).symm), rfl⟩)
              · have q125b0 : (decide (rv = 0 ∨ rv = 4)) = false := decide_eq_false q125
                first
                | (exfalso; omega)
                | (go_wp2_with fail; refine (HOv.out _).mono ?_; rintro e wz ⟨rfl, rfl⟩; go_wp2_with fail; all_goals (try go_meet); all_goals exact ⟨(by first | rfl | exact congrArg (Value.int .i64) (by omega)), (by first | rfl | exact congrArg (Value.int .i64) (by omega)), (by first | rfl | exact congrArg (Value.int .i64) (by omega)), (by first | rfl | exact congrArg (Value.int .i64) (by omega)), (by first | rfl | exact congrArg (Value.int .i64) (by omega)), (by first | rfl | exact congrArg (Value.int .i64) (by omega)), congrArg Value.bool (by first | exact (decide_eq_true (p := (rv = 0 ∨ rv = 4) ∧ ((0 < m ∧ 0 < gm) ∨ (m < 0 ∧ gm < 0)) ∧ am ≠ 1) (by omega)).symm | exact (decide_eq_false (p := (rv = 0 ∨ rv = 4) ∧ ((0 < m ∧ 0 < gm) ∨ (m < 0 ∧ gm < 0)) ∧ am ≠ 1) (by omega)).symm), rfl⟩)
            case rest =>
              obtain ⟨rfl, rfl, rfl, rfl, rfl, rfl, rfl, rfl⟩ := hcut
              have hd := decide_eq_false n6
              rw [hd]
              clear hd
              have n9 : ¬ (i = 1) := by have := HCL.out; omega
              have hd : ((i : Int) == 1) = false := beq_eq_false_iff_ne.2 (by omega)
              have hi2 : 2 ≤ i := by omega
              have hi1000 : i < 1000 := by omega
              have z0 : i - 1 - 1 = i - 2 := by omega
              rw [z0] at a5
              clear z0
              obtain ⟨z1, z2, z3⟩ := idx1 hi1 hi1000
              obtain ⟨f1, f2, f3⟩ := idx2 hi2 hi1000
              go_upto_region 19 with fail
              go_quiet (fail)
              go_upto_region 20 with fail
              obtain ⟨w3, hw3⟩ : ∃ W, w2.drewN nq = W := ⟨_, rfl⟩
              have HW2 := Lib.hid (show ∃ q, w3 = w.drewN q by obtain ⟨q, hq⟩ := HW1.out; exact ⟨q + nq, by rw [← hw3, hq, World.drewN_drewN]⟩)
              rw [hw3, HPe.out]
              clear hw3 a4 a5 z1 z2 z3 f1 f2 f3 HW1
              have HW1 := HW2
              clear HW2
              have n7 : (2 < p ∧ m ≠ -1 ∧ m ≠ -2) ∨ (p < -2 ∧ m ≠ 1 ∧ m ≠ 2) := by have := HCL.out; omega
              go_upto_region 20 with fail
              go_cut [2, 6, 7, 8, 9, 10, 11, 179] from 145 to 179 (fun s2 s6 s7 s8 s9 s10 s11 c wx => s2 = .int .i64 (i : Int) ∧ s6 = .int .i64 0 ∧ s7 = .int .i64 v ∧ s8 = .int .i64 m ∧ s9 = .int .i64 gm ∧ s10 = .int .i64 u ∧ s11 = .int .i64 p ∧ c = .bool (decide ((2 < p ∧ m ≠ -1 ∧ m ≠ -2) ∨ (p < -2 ∧ m ≠ 1 ∧ m ≠ 2))) ∧ w3 = wx)
              case first =>
                by_cases q132 : 2 < p
                · have q132b0 : (decide (2 < p)) = true := decide_eq_true q132
                  have q132b1 : (decide (p < -2)) = false := decide_eq_false (by omega)
                  by_cases q133 : m = -1
                  · have q133b0 : (m != -1) = false := bne_eq_false_iff_eq.2 q133
                    first
                    | (exfalso; omega)
                    | (go_wp2_with fail; all_goals (try go_meet); all_goals exact ⟨(by first | rfl | exact congrArg (Value.int .i64) (by omega)), (by first | rfl | exact congrArg (Value.int .i64) (by omega)), (by first | rfl | exact congrArg (Value.int .i64) (by omega)), (by first | rfl | exact congrArg (Value.int .i64) (by omega)), (by first | rfl | exact congrArg (Value.int .i64) (by omega)), (by first | rfl | exact congrArg (Value.int .i64) (by omega)), (by first | rfl | exact congrArg (Value.int .i64) (by omega)), congrArg Value.bool (by first | exact (decide_eq_true (p := (2 < p ∧ m ≠ -1 ∧ m ≠ -2) ∨ (p < -2 ∧ m ≠ 1 ∧ m ≠ 2)) (by omega)).symm | exact (decide_eq_false (p := (2 < p ∧ m ≠ -1 ∧ m ≠ -2) ∨ (p < -2 ∧ m ≠ 1 ∧ m ≠ 2)) (by omega)).symm), rfl⟩)
                  · have q133b0 : (m != -1) = true := bne_iff_ne.2 q133
                    by_cases q134 : m = -2
                    · have q134b0 : (m != -2) = false := bne_eq_false_iff_eq.2 q134
                      first
                      | (exfalso; omega)
                      | (go_wp2_with fail; all_goals (try go_meet); all_goals exact ⟨(by first | rfl | exact congrArg (Value.int .i64) (by omega)), (by first | rfl | exact congrArg (Value.int .i64) (by omega)), (by first | rfl | exact congrArg (Value.int .i64) (by omega)), (by first | rfl | exact congrArg (Value.int .i64) (by omega)), (by first | rfl | exact congrArg (Value.int .i64) (by omega)), (by first | rfl | exact congrArg (Value.int .i64) (by omega)), (by first | rfl | exact congrArg (Value.int .i64) (by omega)), congrArg Value.bool (by first | exact (decide_eq_true (p := (2 < p ∧ m ≠ -1 ∧ m ≠ -2) ∨ (p < -2 ∧ m ≠ 1 ∧ m ≠ 2)) (by omega)).symm | exact (decide_eq_false (p := (2 < p ∧ m ≠ -1 ∧ m ≠ -2) ∨ (p < -2 ∧ m ≠ 1 ∧ m ≠ 2)) (by omega)).symm), rfl⟩)
                    · have q134b0 : (m != -2) = true := bne_iff_ne.2 q134
                      first
                      | (exfalso; omega)
                      | (go_wp2_with fail; all_goals (try go_meet); all_goals exact ⟨(by first | rfl | exact congrArg (Value.int .i64) (by omega)), (by first | rfl | exact congrArg (Value.int .i64) (by omega)), (by first | rfl | exact congrArg (Value.int .i64) (by omega)), (by first | rfl | exact congrArg (Value.int .i64) (by omega)), (by first | rfl | exact congrArg (Value.int .i64) (by omega)), (by first | rfl | exact congrArg (Value.int .i64) (by omega)), (by first | rfl | exact congrArg (Value.int .i64) (by omega)), congrArg Value.bool (by first | exact (decide_eq_true (p := (2 < p ∧ m ≠ -1 ∧ m ≠ -2) ∨ (p < -2 ∧ m ≠ 1 ∧ m ≠ 2)) (by omega)).symm | exact (decide_eq_false (p := (2 < p ∧ m ≠ -1 ∧ m ≠ -2) ∨ (p < -2 ∧ m ≠ 1 ∧ m ≠ 2)) (by omega)).symm), rfl⟩)
                · have q132b0 : (decide (2 < p)) = false := decide_eq_false q132
                  by_cases q135 : p < -2
                  · have q135b0 : (decide (p < -2)) = true := decide_eq_true q135
                    by_cases q136 : m = 1
                    · have q136b0 : (m != 1) = false := bne_eq_false_iff_eq.2 q136
                      first
                      | (exfalso; omega)
                      | (go_wp2_with fail; all_goals (try go_meet); all_goals exact ⟨(by first | rfl | exact congrArg (Value.int .i64) (by omega)), (by first | rfl | exact congrArg (Value.int .i64) (by omega)), (by first | rfl | exact congrArg (Value.int .i64) (by omega)), (by first | rfl | exact congrArg (Value.int .i64) (by omega)), (by first | rfl | exact congrArg (Value.int .i64) (by omega)), (by first | rfl | exact congrArg (Value.int .i64) (by omega)), (by first | rfl | exact congrArg (Value.int .i64) (by omega)), congrArg Value.bool (by first | exact (decide_eq_true (p := (2 < p ∧ m ≠ -1 ∧ m ≠ -2) ∨ (p < -2 ∧ m ≠ 1 ∧ m ≠ 2)) (by omega)).symm | exact (decide_eq_false (p := (2 < p ∧ m ≠ -1 ∧ m ≠ -2) ∨ (p < -2 ∧ m ≠ 1 ∧ m ≠ 2)) (by omega)).symm), rfl⟩)
                    · have q136b0 : (m != 1) = true := bne_iff_ne.2 q136
                      by_cases q137 : m = 2
                      · have q137b0 : (m != 2) = false := bne_eq_false_iff_eq.2 q137
                        first
                        | (exfalso; omega)
                        | (go_wp2_with fail; all_goals (try go_meet); all_goals exact ⟨(by first | rfl | exact congrArg (Value.int .i64) (by omega)), (by first | rfl | exact congrArg (Value.int .i64) (by omega)), (by first | rfl | exact congrArg (Value.int .i64) (by omega)), (by first | rfl | exact congrArg (Value.int .i64) (by omega)), (by first | rfl | exact congrArg (Value.int .i64) (by omega)), (by first | rfl | exact congrArg (Value.int .i64) (by omega)), (by first | rfl | exact congrArg (Value.int .i64) (by omega)), congrArg Value.bool (by first | exact (decide_eq_true (p := (2 < p ∧ m ≠ -1 ∧ m ≠ -2) ∨ (p < -2 ∧ m ≠ 1 ∧ m ≠ 2)) (by omega)).symm | exact (decide_eq_false (p := (2 < p ∧ m ≠ -1 ∧ m ≠ -2) ∨ (p < -2 ∧ m ≠ 1 ∧ m ≠ 2)) (by omega)).symm), rfl⟩)
                      · have q137b0 : (m != 2) = true := bne_iff_ne.2 q137
                        first
                        | (exfalso; omega)
                        | (go_wp2_with fail; all_goals (try go_meet); all_goals exact ⟨(by first | rfl | exact congrArg (Value.int .i64) (by omega)), (by first | rfl | exact congrArg (Value.int .i64) (by omega)), (by first | rfl | exact congrArg (Value.int .i64) (by omega)), (by first | rfl | exact congrArg (Value.int .i64) (by omega)), (by first | rfl | exact congrArg (Value.int .i64) (by omega)), (by first | rfl | exact congrArg (Value.int .i64) (by omega)), (by first | rfl | exact congrArg (Value.int .i64) (by omega)), congrArg Value.bool (by first | exact (decide_eq_true (p := (2 < p ∧ m ≠ -1 ∧ m ≠ -2) ∨ (p < -2 ∧ m ≠ 1 ∧ m ≠ 2)) (by omega)).symm | exact (decide_eq_false (p := (2 < p ∧ m ≠ -1 ∧ m ≠ -2) ∨ (p < -2 ∧ m ≠ 1 ∧ m ≠ 2)) (by omega)).symm), rfl⟩)
                  · have q135b0 : (decide (p < -2)) = false := decide_eq_false q135
                    first
                    | (exfalso; omega)
                    | (go_wp2_with fail; all_goals (try go_meet); all_goals exact ⟨(by first | rfl | exact congrArg (Value.int .i64) (by omega)), (by first | rfl | exact congrArg (Value.int .i64) (by omega)), (by first | rfl | exact congrArg (Value.int .i64) (by omega)), (by first | rfl | exact congrArg (Value.int .i64) (by omega)), (by first | rfl | exact congrArg (Value.int .i64) (by omega)), (by first | rfl | exact congrArg (Value.int .i64) (by omega)), (by first | rfl | exact congrArg (Value.int .i64) (by omega)), congrArg Value.bool (by first | exact (decide_eq_true (p := (2 < p ∧ m ≠ -1 ∧ m ≠ -2) ∨ (p < -2 ∧ m ≠ 1 ∧ m ≠ 2)) (by omega)).symm | exact (decide_eq_false (p := (2 < p ∧ m ≠ -1 ∧ m ≠ -2) ∨ (p < -2 ∧ m ≠ 1 ∧ m ≠ 2)) (by omega)).symm), rfl⟩)
              case rest =>
                obtain ⟨rfl, rfl, rfl, rfl, rfl, rfl, rfl, rfl, rfl⟩ := hcut
                have hd := decide_eq_true n7
                rw [hd]
                clear hd
                go_wp2
                go_ret
                exact ⟨ret_int (by rw [← HBK.out]; unfold brk; rw [if_neg n1, if_neg n2, if_neg n3, if_neg n0, if_neg n4, if_neg n5, if_neg n6, if_neg n9, if_pos n7]; rfl), HW1.out⟩

set_option maxHeartbeats 40000000 in
theorem RBr_7b (i Lg Ls : Nat) (x y x1 y1 y2 v rv ru m am p gm : Int) (b1 o1 c1 b2 o2 c2 : Nat) (w : World) (hi : i < Ls) (hig : i < Lg) (g8 : Lg ≤ 8) (nx : 0 ≤ x ∧ x ≤ 20) (ny : 0 ≤ y ∧ y ≤ 20) (nx1 : 0 ≤ x1 ∧ x1 ≤ 20) (ny1 : 0 ≤ y1 ∧ y1 ≤ 20) (ny2 : 0 ≤ y2 ∧ y2 ≤ 20)
    (a1 : w.cell? ⟨b1, o1 + i, none⟩ = some (.int .i64 x)) (a2 : w.cell? ⟨b2, o2 + i, none⟩ = some (.int .i64 y)) (a3 : w.cell? ⟨b1, o1 + (i - 1), none⟩ = some (.int .i64 x1)) (a4 : w.cell? ⟨b2, o2 + (i - 1), none⟩ = some (.int .i64 y1)) (a5 : w.cell? ⟨b2, o2 + (i - 1 - 1), none⟩ = some (.int .i64 y2))
    (hv : y - x = v) (hrv : v % 7 = rv) (hru : (y1 - x1) % 7 = ru) (hm : y - y1 = m) (ham : absI m = am) (hgm : x - x1 = gm) (hp : y1 - y2 = p) (hcl : (((¬ (v < 0 ∨ 14 < v)) ∧ (¬ (¬ (rv = 0 ∨ rv = 4) ∧ rv ≠ 2 ∧ rv ≠ 5)) ∧ (¬ ((i + 1 = Lg ∧ rv ≠ 0) ∨ (i = 0 ∧ rv ≠ 0 ∧ rv ≠ 4))) ∧ (¬ (i = 0)) ∧ (¬ (4 < am ∧ am ≠ 7))) ∧ (¬ ((ru = 0 ∨ ru = 4) ∧ (rv = 0 ∨ rv = 4) ∧ ru = rv ∧ m ≠ 0)) ∧ (¬ ((rv = 0 ∨ rv = 4) ∧ ((0 < m ∧ 0 < gm) ∨ (m < 0 ∧ gm < 0)) ∧ am ≠ 1))) ∧ (¬ (i = 1)) ∧ ((2 < p ∧ m ≠ -1 ∧ m ≠ -2) ∨ (p < -2 ∧ m ≠ 1 ∧ m ≠ 2)) ∧ (¬ (rv = 0 ∨ rv = 4))) :
    Calls Try.prog 85 #[.slice (some ⟨b1, o1, none⟩) Lg c1, .slice (some ⟨b2, o2, none⟩) Ls c2, .int .i64 (i : Int)] w fun e w' => e = .returned (.int .i64 (brk v rv ru m am p gm i Lg : Nat)) ∧ ∃ q, w' = w.drewN q := by
  have HCL := Lib.hid hcl
  clear hcl
  have HOv := Lib.hid (fun W => ropen_any v (by omega) W)
  have HOu := Lib.hid (fun W => ropen_any (y1 - x1) (by omega) W)
  have HSv := Lib.hid (fun W => rsort_any v (by omega) W)
  have HSu := Lib.hid (fun W => rsort_any (y1 - x1) (by omega) W)
  have HAm := Lib.hid (fun W => rabs_any m (by omega) W)
  rw [show openB v = decide (v % 7 = 0 ∨ v % 7 = 4) from rfl, hrv] at HOv
  rw [show openB (y1 - x1) = decide ((y1 - x1) % 7 = 0 ∨ (y1 - x1) % 7 = 4) from rfl, hru] at HOu
  rw [hrv] at HSv
  rw [hru] at HSu
  rw [ham] at HAm
  have HTv := Lib.hid (show 0 ≤ v → v.tmod 7 = rv from fun h => by rw [← hrv]; exact Int.tmod_eq_emod_of_nonneg h)
  have HVe := Lib.hid hv
  have HMe := Lib.hid hm
  have HGe := Lib.hid hgm
  have HPe := Lib.hid hp
  have hmb : -20 ≤ m ∧ m ≤ 20 := by omega
  have hpb : -20 ≤ p ∧ p ≤ 20 := by omega
  obtain ⟨u, hu⟩ : ∃ u, y1 - x1 = u := ⟨_, rfl⟩
  have HUe := Lib.hid hu
  rw [hu] at HOu HSu
  have hvb : -20 ≤ v ∧ v ≤ 20 := by omega
  clear hv hrv hru hm ham hgm hp hu
  obtain ⟨bk, hbk⟩ : ∃ bk, brk v rv ru m am p gm i Lg = bk := ⟨_, rfl⟩
  have HBK := Lib.hid hbk
  rw [hbk]
  clear hbk
  go_enter Try.func85, Try.ntmps85
  go_upto_region 1 with fail
  go_quiet (fail)
  obtain ⟨w1, hw1⟩ : ∃ W, w.drewN nq = W := ⟨_, rfl⟩
  have HW1 := Lib.hid (show ∃ q, w1 = w.drewN q from ⟨_, hw1.symm⟩)
  have k1 : ∀ a v, w.cell? a = some v → w1.cell? a = some v := fun a v e => by rw [← hw1]; exact e
  have a3 := k1 _ _ a3
  have a4 := k1 _ _ a4
  have a5 := k1 _ _ a5
  have a1 := k1 _ _ a1
  have a2 := k1 _ _ a2
  rw [hw1, HVe.out]
  clear hw1 k1
  have n1 : ¬ (v < 0 ∨ 14 < v) := by have := HCL.out; omega
  go_upto_region 2 with fail
  go_cut [2, 6, 7, 26] from 12 to 26 (fun s2 s6 s7 c wx => s2 = .int .i64 (i : Int) ∧ s6 = .int .i64 0 ∧ s7 = .int .i64 v ∧ c = .bool (decide (v < 0 ∨ 14 < v)) ∧ w1 = wx)
  case first =>
    by_cases q138 : v < 0
    · have q138b0 : (decide (v < 0)) = true := decide_eq_true q138
      first
      | (exfalso; omega)
      | (go_wp2_with fail; all_goals (try go_meet); all_goals exact ⟨(by first | rfl | exact congrArg (Value.int .i64) (by omega)), (by first | rfl | exact congrArg (Value.int .i64) (by omega)), (by first | rfl | exact congrArg (Value.int .i64) (by omega)), congrArg Value.bool (by first | exact (decide_eq_true (p := v < 0 ∨ 14 < v) (by omega)).symm | exact (decide_eq_false (p := v < 0 ∨ 14 < v) (by omega)).symm), rfl⟩)
    · have q138b0 : (decide (v < 0)) = false := decide_eq_false q138
      by_cases q139 : 14 < v
      · have q139b0 : (decide (14 < v)) = true := decide_eq_true q139
        first
        | (exfalso; omega)
        | (go_wp2_with fail; all_goals (try go_meet); all_goals exact ⟨(by first | rfl | exact congrArg (Value.int .i64) (by omega)), (by first | rfl | exact congrArg (Value.int .i64) (by omega)), (by first | rfl | exact congrArg (Value.int .i64) (by omega)), congrArg Value.bool (by first | exact (decide_eq_true (p := v < 0 ∨ 14 < v) (by omega)).symm | exact (decide_eq_false (p := v < 0 ∨ 14 < v) (by omega)).symm), rfl⟩)
      · have q139b0 : (decide (14 < v)) = false := decide_eq_false q139
        first
        | (exfalso; omega)
        | (go_wp2_with fail; all_goals (try go_meet); all_goals exact ⟨(by first | rfl | exact congrArg (Value.int .i64) (by omega)), (by first | rfl | exact congrArg (Value.int .i64) (by omega)), (by first | rfl | exact congrArg (Value.int .i64) (by omega)), congrArg Value.bool (by first | exact (decide_eq_true (p := v < 0 ∨ 14 < v) (by omega)).symm | exact (decide_eq_false (p := v < 0 ∨ 14 < v) (by omega)).symm), rfl⟩)
  case rest =>
    obtain ⟨rfl, rfl, rfl, rfl, rfl⟩ := hcut
    have hd := decide_eq_false n1
    rw [hd]
    clear hd
    have n2 : ¬ (¬ (rv = 0 ∨ rv = 4) ∧ rv ≠ 2 ∧ rv ≠ 5) := by have := HCL.out; omega
    go_upto_region 4 with fail
    go_cut [2, 6, 7, 39] from 27 to 39 (fun s2 s6 s7 c wx => s2 = .int .i64 (i : Int) ∧ s6 = .int .i64 0 ∧ s7 = .int .i64 v ∧ c = .bool (decide (¬ (rv = 0 ∨ rv = 4) ∧ rv ≠ 2 ∧ rv ≠ 5)) ∧ w1 = wx)
    case first =>
      by_cases q140 : rv = 0 ∨ rv = 4
      · have q140b0 : (decide (rv = 0 ∨ rv = 4)) = true := decide_eq_true q140
        first
        | (exfalso; omega)
        | (go_wp2_with fail; refine (HOv.out _).mono ?_; rintro e wz ⟨rfl, rfl⟩; go_wp2_with fail; all_goals (try go_meet); all_goals exact ⟨(by first | rfl | exact congrArg (Value.int .i64) (by omega)), (by first | rfl | exact congrArg (Value.int .i64) (by omega)), (by first | rfl | exact congrArg (Value.int .i64) (by omega)), congrArg Value.bool (by first | exact (decide_eq_true (p := ¬ (rv = 0 ∨ rv = 4) ∧ rv ≠ 2 ∧ rv ≠ 5) (by omega)).symm | exact (decide_eq_false (p := ¬ (rv = 0 ∨ rv = 4) ∧ rv ≠ 2 ∧ rv ≠ 5) (by omega)).symm), rfl⟩)
      · have q140b0 : (decide (rv = 0 ∨ rv = 4)) = false := decide_eq_false q140
        by_cases q141 : rv = 2
        · have q141b0 : (rv != 2) = false := bne_eq_false_iff_eq.2 q141
          first
          | (exfalso; omega)
          | (go_wp2_with fail; refine (HOv.out _).mono ?_; rintro e wz ⟨rfl, rfl⟩; go_wp2_with fail; refine (HSv.out _).mono ?_; rintro e wz ⟨rfl, rfl⟩; go_wp2_with fail; all_goals (try go_meet); all_goals exact ⟨(by first | rfl | exact congrArg (Value.int .i64) (by omega)), (by first | rfl | exact congrArg (Value.int .i64) (by omega)), (by first | rfl | exact congrArg (Value.int .i64) (by omega)), congrArg Value.bool (by first | exact (decide_eq_true (p := ¬ (rv = 0 ∨ rv = 4) ∧ rv ≠ 2 ∧ rv ≠ 5) (by omega)).symm | exact (decide_eq_false (p := ¬ (rv = 0 ∨ rv = 4) ∧ rv ≠ 2 ∧ rv ≠ 5) (by omega)).symm), rfl⟩)
        · have q141b0 : (rv != 2) = true := bne_iff_ne.2 q141
          by_cases q142 : rv = 5
          · have q142b0 : (rv != 5) = false := bne_eq_false_iff_eq.2 q142
            first
            | (exfalso; omega)
            | (go_wp2_with fail; refine (HOv.out _).mono ?_; rintro e wz ⟨rfl, rfl⟩; go_wp2_with fail; refine (HSv.out _).mono ?_; rintro e wz ⟨rfl, rfl⟩; go_wp2_with fail; refine (HSv.out _).mono ?_; rintro e wz ⟨rfl, rfl⟩; go_wp2_with fail; all_goals (try go_meet); all_goals exact ⟨(by first | rfl | exact congrArg (Value.int .i64) (by omega)), (by first | rfl | exact congrArg (Value.int .i64) (by omega)), (by first | rfl | exact congrArg (Value.int .i64) (by omega)), congrArg Value.bool (by first | exact (decide_eq_true (p := ¬ (rv = 0 ∨ rv = 4) ∧ rv ≠ 2 ∧ rv ≠ 5) (by omega)).symm | exact (decide_eq_false (p := ¬ (rv = 0 ∨ rv = 4) ∧ rv ≠ 2 ∧ rv ≠ 5) (by omega)).symm), rfl⟩)
          · have q142b0 : (rv != 5) = true := bne_iff_ne.2 q142
            first
            | (exfalso; omega)
            | (go_wp2_with fail; refine (HOv.out _).mono ?_; rintro e wz ⟨rfl, rfl⟩; go_wp2_with fail; refine (HSv.out _).mono ?_; rintro e wz ⟨rfl, rfl⟩; go_wp2_with fail; refine (HSv.out _).mono ?_; rintro e wz ⟨rfl, rfl⟩; go_wp2_with fail; all_goals (try go_meet); all_goals exact ⟨(by first | rfl | exact congrArg (Value.int .i64) (by omega)), (by first | rfl | exact congrArg (Value.int .i64) (by omega)), (by first | rfl | exact congrArg (Value.int .i64) (by omega)), congrArg Value.bool (by first | exact (decide_eq_true (p := ¬ (rv = 0 ∨ rv = 4) ∧ rv ≠ 2 ∧ rv ≠ 5) (by omega)).symm | exact (decide_eq_false (p := ¬ (rv = 0 ∨ rv = 4) ∧ rv ≠ 2 ∧ rv ≠ 5) (by omega)).symm), rfl⟩)
    case rest =>
      obtain ⟨rfl, rfl, rfl, rfl, rfl⟩ := hcut
      have hd := decide_eq_false n2
      rw [hd]
      clear hd
      have hv0 : 0 ≤ v := by omega
      have htv := HTv.out hv0
      have n3 : ¬ ((i + 1 = Lg ∧ rv ≠ 0) ∨ (i = 0 ∧ rv ≠ 0 ∧ rv ≠ 4)) := by have := HCL.out; omega
      go_upto_region 6 with fail
      go_cut [2, 6, 7, 63] from 40 to 63 (fun s2 s6 s7 c wx => s2 = .int .i64 (i : Int) ∧ s6 = .int .i64 0 ∧ s7 = .int .i64 v ∧ c = .bool (decide ((i + 1 = Lg ∧ rv ≠ 0) ∨ (i = 0 ∧ rv ≠ 0 ∧ rv ≠ 4))) ∧ w1 = wx)
      case first =>
        by_cases q143 : i + 1 = Lg
        · have q143b0 : ((i : Int) == (Lg : Int) - 1) = true := beq_iff_eq.2 (by omega)
          by_cases q144 : rv = 0
          · have q144b0 : (rv != 0) = false := bne_eq_false_iff_eq.2 q144
            by_cases q145 : i = 0
            · have q145b0 : ((i : Int) == 0) = true := beq_iff_eq.2 (by omega)
              first
              | (exfalso; omega)
              | (go_wp2_with fail; all_goals (try go_meet); all_goals exact ⟨(by first | rfl | exact congrArg (Value.int .i64) (by omega)), (by first | rfl | exact congrArg (Value.int .i64) (by omega)), (by first | rfl | exact congrArg (Value.int .i64) (by omega)), congrArg Value.bool (by first | exact (decide_eq_true (p := (i + 1 = Lg ∧ rv ≠ 0) ∨ (i = 0 ∧ rv ≠ 0 ∧ rv ≠ 4)) (by omega)).symm | exact (decide_eq_false (p := (i + 1 = Lg ∧ rv ≠ 0) ∨ (i = 0 ∧ rv ≠ 0 ∧ rv ≠ 4)) (by omega)).symm), rfl⟩)
            · have q145b0 : ((i : Int) == 0) = false := beq_eq_false_iff_ne.2 (by omega)
              first
              | (exfalso; omega)
              | (go_wp2_with fail; all_goals (try go_meet); all_goals exact ⟨(by first | rfl | exact congrArg (Value.int .i64) (by omega)), (by first | rfl | exact congrArg (Value.int .i64) (by omega)), (by first | rfl | exact congrArg (Value.int .i64) (by omega)), congrArg Value.bool (by first | exact (decide_eq_true (p := (i + 1 = Lg ∧ rv ≠ 0) ∨ (i = 0 ∧ rv ≠ 0 ∧ rv ≠ 4)) (by omega)).symm | exact (decide_eq_false (p := (i + 1 = Lg ∧ rv ≠ 0) ∨ (i = 0 ∧ rv ≠ 0 ∧ rv ≠ 4)) (by omega)).symm), rfl⟩)
          · have q144b0 : (rv != 0) = true := bne_iff_ne.2 q144
            first
            | (exfalso; omega)
            | (go_wp2_with fail; all_goals (try go_meet); all_goals exact ⟨(by first | rfl | exact congrArg (Value.int .i64) (by omega)), (by first | rfl | exact congrArg (Value.int .i64) (by omega)), (by first | rfl | exact congrArg (Value.int .i64) (by omega)), congrArg Value.bool (by first | exact (decide_eq_true (p := (i + 1 = Lg ∧ rv ≠ 0) ∨ (i = 0 ∧ rv ≠ 0 ∧ rv ≠ 4)) (by omega)).symm | exact (decide_eq_false (p := (i + 1 = Lg ∧ rv ≠ 0) ∨ (i = 0 ∧ rv ≠ 0 ∧ rv ≠ 4)) (by omega)).symm), rfl⟩)
        · have q143b0 : ((i : Int) == (Lg : Int) - 1) = false := beq_eq_false_iff_ne.2 (by omega)
          by_cases q146 : i = 0
          · have q146b0 : ((i : Int) == 0) = true := beq_iff_eq.2 (by omega)
            by_cases q147 : rv = 0
            · have q147b0 : (rv != 0) = false := bne_eq_false_iff_eq.2 q147
              first
              | (exfalso; omega)
              | (go_wp2_with fail; all_goals (try go_meet); all_goals exact ⟨(by first | rfl | exact congrArg (Value.int .i64) (by omega)), (by first | rfl | exact congrArg (Value.int .i64) (by omega)), (by first | rfl | exact congrArg (Value.int .i64) (by omega)), congrArg Value.bool (by first | exact (decide_eq_true (p := (i + 1 = Lg ∧ rv ≠ 0) ∨ (i = 0 ∧ rv ≠ 0 ∧ rv ≠ 4)) (by omega)).symm | exact (decide_eq_false (p := (i + 1 = Lg ∧ rv ≠ 0) ∨ (i = 0 ∧ rv ≠ 0 ∧ rv ≠ 4)) (by omega)).symm), rfl⟩)
            · have q147b0 : (rv != 0) = true := bne_iff_ne.2 q147
              by_cases q148 : rv = 4
              · have q148b0 : (rv != 4) = false := bne_eq_false_iff_eq.2 q148
                first
                | (exfalso; omega)
                | (go_wp2_with fail; all_goals (try go_meet); all_goals exact ⟨(by first | rfl | exact congrArg (Value.int .i64) (by omega)), (by first | rfl | exact congrArg (Value.int .i64) (by omega)), (by first | rfl | exact congrArg (Value.int .i64) (by omega)), congrArg Value.bool (by first | exact (decide_eq_true (p := (i + 1 = Lg ∧ rv ≠ 0) ∨ (i = 0 ∧ rv ≠ 0 ∧ rv ≠ 4)) (by omega)).symm | exact (decide_eq_false (p := (i + 1 = Lg ∧ rv ≠ 0) ∨ (i = 0 ∧ rv ≠ 0 ∧ rv ≠ 4)) (by omega)).symm), rfl⟩)
              · have q148b0 : (rv != 4) = true := bne_iff_ne.2 q148
                first
                | (exfalso; omega)
                | (go_wp2_with fail; all_goals (try go_meet); all_goals exact ⟨(by first | rfl | exact congrArg (Value.int .i64) (by omega)), (by first | rfl | exact congrArg (Value.int .i64) (by omega)), (by first | rfl | exact congrArg (Value.int .i64) (by omega)), congrArg Value.bool (by first | exact (decide_eq_true (p := (i + 1 = Lg ∧ rv ≠ 0) ∨ (i = 0 ∧ rv ≠ 0 ∧ rv ≠ 4)) (by omega)).symm | exact (decide_eq_false (p := (i + 1 = Lg ∧ rv ≠ 0) ∨ (i = 0 ∧ rv ≠ 0 ∧ rv ≠ 4)) (by omega)).symm), rfl⟩)
          · have q146b0 : ((i : Int) == 0) = false := beq_eq_false_iff_ne.2 (by omega)
            first
            | (exfalso; omega)
            | (go_wp2_with fail; all_goals (try go_meet); all_goals exact ⟨(by first | rfl | exact congrArg (Value.int .i64) (by omega)), (by first | rfl | exact congrArg (Value.int .i64) (by omega)), (by first | rfl | exact congrArg (Value.int .i64) (by omega)), congrArg Value.bool (by first | exact (decide_eq_true (p := (i + 1 = Lg ∧ rv ≠ 0) ∨ (i = 0 ∧ rv ≠ 0 ∧ rv ≠ 4)) (by omega)).symm | exact (decide_eq_false (p := (i + 1 = Lg ∧ rv ≠ 0) ∨ (i = 0 ∧ rv ≠ 0 ∧ rv ≠ 4)) (by omega)).symm), rfl⟩)
      case rest =>
        obtain ⟨rfl, rfl, rfl, rfl, rfl⟩ := hcut
        clear htv
        have hd := decide_eq_false n3
        rw [hd]
        clear hd
        have n0 : ¬ (i = 0) := by have := HCL.out; omega
        have hd : ((i : Int) == 0) = false := beq_eq_false_iff_ne.2 (by omega)
        have hi1 : 1 ≤ i := by omega
        obtain ⟨z1, z2, z3⟩ := idx1 hi1 (show i < 1000 by omega)
        go_upto_region 10 with fail
        go_quiet (fail)
        go_upto_region 11 with fail
        obtain ⟨w2, hw2⟩ : ∃ W, w1.drewN nq = W := ⟨_, rfl⟩
        have HW2 := Lib.hid (show ∃ q, w2 = w.drewN q by obtain ⟨q, hq⟩ := HW1.out; exact ⟨q + nq, by rw [← hw2, hq, World.drewN_drewN]⟩)
        have k2 : ∀ a v, w1.cell? a = some v → w2.cell? a = some v := fun a v e => by rw [← hw2]; exact e
        have a4 := k2 _ _ a4
        have a5 := k2 _ _ a5
        rw [hw2, HMe.out, HGe.out, HUe.out]
        clear hw2 k2 a1 a2 a3 z1 z2 z3 HW1
        have HW1 := HW2
        clear HW2
        have n4 : ¬ (4 < am ∧ am ≠ 7) := by have := HCL.out; omega
        go_upto_region 11 with fail
        go_cut [2, 6, 7, 8, 9, 10, 104] from 64 to 104 (fun s2 s6 s7 s8 s9 s10 c wx => s2 = .int .i64 (i : Int) ∧ s6 = .int .i64 0 ∧ s7 = .int .i64 v ∧ s8 = .int .i64 m ∧ s9 = .int .i64 gm ∧ s10 = .int .i64 u ∧ c = .bool (decide (4 < am ∧ am ≠ 7)) ∧ w2 = wx)
        case first =>
          by_cases q149 : 4 < am
          · have q149b0 : (decide (4 < am)) = true := decide_eq_true q149
            by_cases q150 : am = 7
            · have q150b0 : (am != 7) = false := bne_eq_false_iff_eq.2 q150
              first
              | (exfalso; omega)
              | (go_wp2_with fail; refine (HAm.out _).mono ?_; rintro e wz ⟨rfl, rfl⟩; go_wp2_with fail; refine (HAm.out _).mono ?_; rintro e wz ⟨rfl, rfl⟩; go_wp2_with fail; all_goals (try go_meet); all_goals exact ⟨(by first | rfl | exact congrArg (Value.int .i64) (by omega)), (by first | rfl | exact congrArg (Value.int .i64) (by omega)), (by first | rfl | exact congrArg (Value.int .i64) (by omega)), (by first | rfl | exact congrArg (Value.int .i64) (by omega)), (by first | rfl | exact congrArg (Value.int .i64) (by omega)), (by first | rfl | exact congrArg (Value.int .i64) (by omega)), congrArg Value.bool (by first | exact (decide_eq_true (p := 4 < am ∧ am ≠ 7) (by omega)).symm | exact (decide_eq_false (p := 4 < am ∧ am ≠ 7) (by omega)).symm), rfl⟩)
            · have q150b0 : (am != 7) = true := bne_iff_ne.2 q150
              first
              | (exfalso; omega)
              | (go_wp2_with fail; refine (HAm.out _).mono ?_; rintro e wz ⟨rfl, rfl⟩; go_wp2_with fail; refine (HAm.out _).mono ?_; rintro e wz ⟨rfl, rfl⟩; go_wp2_with fail; all_goals (try go_meet); all_goals exact ⟨(by first | rfl | exact congrArg (Value.int .i64) (by omega)), (by first | rfl | exact congrArg (Value.int .i64) (by omega)), (by first | rfl | exact congrArg (Value.int .i64) (by omega)), (by first | rfl | exact congrArg (Value.int .i64) (by omega)), (by first | rfl | exact congrArg (Value.int .i64) (by omega)), (by first | rfl | exact congrArg (Value.int .i64) (by omega)), congrArg Value.bool (by first | exact (decide_eq_true (p := 4 < am ∧ am ≠ 7) (by omega)).symm | exact (decide_eq_false (p := 4 < am ∧ am ≠ 7) (by omega)).symm), rfl⟩)
          · have q149b0 : (decide (4 < am)) = false := decide_eq_false q149
            first
            | (exfalso; omega)
            | (go_wp2_with fail; refine (HAm.out _).mono ?_; rintro e wz ⟨rfl, rfl⟩; go_wp2_with fail; all_goals (try go_meet); all_goals exact ⟨(by first | rfl | exact congrArg (Value.int .i64) (by omega)), (by first | rfl | exact congrArg (Value.int .i64) (by omega)), (by first | rfl | exact congrArg (Value.int .i64) (by omega)), (by first | rfl | exact congrArg (Value.int .i64) (by omega)), (by first | rfl | exact congrArg (Value.int .i64) (by omega)), (by first | rfl | exact congrArg (Value.int .i64) (by omega)), congrArg Value.bool (by first | exact (decide_eq_true (p := 4 < am ∧ am ≠ 7) (by omega)).symm | exact (decide_eq_false (p := 4 < am ∧ am ≠ 7) (by omega)).symm), rfl⟩)
        case rest =>
          obtain ⟨rfl, rfl, rfl, rfl, rfl, rfl, rfl, rfl⟩ := hcut
          have hd := decide_eq_false n4
          rw [hd]
          clear hd
          have n5 : ¬ ((ru = 0 ∨ ru = 4) ∧ (rv = 0 ∨ rv = 4) ∧ ru = rv ∧ m ≠ 0) := by have := HCL.out; omega
          go_upto_region 13 with fail
          go_cut [2, 6, 7, 8, 9, 10, 121] from 105 to 121 (fun s2 s6 s7 s8 s9 s10 c wx => s2 = .int .i64 (i : Int) ∧ s6 = .int .i64 0 ∧ s7 = .int .i64 v ∧ s8 = .int .i64 m ∧ s9 = .int .i64 gm ∧ s10 = .int .i64 u ∧ c = .bool (decide ((ru = 0 ∨ ru = 4) ∧ (rv = 0 ∨ rv = 4) ∧ ru = rv ∧ m ≠ 0)) ∧ w2 = wx)
          case first =>
            by_cases q151 : ru = 0 ∨ ru = 4
            · have q151b0 : (decide (ru = 0 ∨ ru = 4)) = true := decide_eq_true q151
              by_cases q152 : rv = 0 ∨ rv = 4
              · have q152b0 : (decide (rv = 0 ∨ rv = 4)) = true := decide_eq_true q152
                by_cases q153 : ru = rv
                · have q153b0 : (ru == rv) = true := beq_iff_eq.2 q153
                  by_cases q154 : m = 0
                  · have q154b0 : (m != 0) = false := bne_eq_false_iff_eq.2 q154
                    first
                    | (exfalso; omega)
                    | (go_wp2_with fail; refine (HOu.out _).mono ?_; rintro e wz ⟨rfl, rfl⟩; go_wp2_with fail; refine (HOv.out _).mono ?_; rintro e wz ⟨rfl, rfl⟩; go_wp2_with fail; refine (HSu.out _).mono ?_; rintro e wz ⟨rfl, rfl⟩; go_wp2_with fail; refine (HSv.out _).mono ?_; rintro e wz ⟨rfl, rfl⟩; go_wp2_with fail; all_goals (try go_meet); all_goals exact ⟨(by first | rfl | exact congrArg (Value.int .i64) (by omega)), (by first | rfl | exact congrArg (Value.int .i64) (by omega)), (by first | rfl | exact congrArg (Value.int .i64) (by omega)), (by first | rfl | exact congrArg (Value.int .i64) (by omega)), (by first | rfl | exact congrArg (Value.int .i64) (by omega)), (by first | rfl | exact congrArg (Value.int .i64) (by omega)), congrArg Value.bool (by first | exact (decide_eq_true (p := (ru = 0 ∨ ru = 4) ∧ (rv = 0 ∨ rv = 4) ∧ ru = rv ∧ m ≠ 0) (by omega)).symm | exact (decide_eq_false (p := (ru = 0 ∨ ru = 4) ∧ (rv = 0 ∨ rv = 4) ∧ ru = rv ∧ m ≠ 0) (by omega)).symm), rfl⟩)
                  · have q154b0 : (m != 0) = true := bne_iff_ne.2 q154
                    first
                    | (exfalso; omega)
                    | (go_wp2_with fail; refine (HOu.out _).mono ?_; rintro e wz ⟨rfl, rfl⟩; go_wp2_with fail; refine (HOv.out _).mono ?_; rintro e wz ⟨rfl, rfl⟩; go_wp2_with fail; refine (HSu.out _).mono ?_; rintro e wz ⟨rfl, rfl⟩; go_wp2_with fail; refine (HSv.out _).mono ?_; rintro e wz ⟨rfl, rfl⟩; go_wp2_with fail; all_goals (try go_meet); all_goals exact ⟨(by first | rfl | exact congrArg (Value.int .i64) (by omega)), (by first | rfl | exact congrArg (Value.int .i64) (by omega)), (by first | rfl | exact congrArg (Value.int .i64) (by omega)), (by first | rfl | exact congrArg (Value.int .i64) (by omega)), (by first | rfl | exact congrArg (Value.int .i64) (by omega)), (by first | rfl | exact congrArg (Value.int .i64) (by omega)), congrArg Value.bool (by first | exact (decide_eq_true (p := (ru = 0 ∨ ru = 4) ∧ (rv = 0 ∨ rv = 4) ∧ ru = rv ∧ m ≠ 0) (by omega)).symm | exact (decide_eq_false (p := (ru = 0 ∨ ru = 4) ∧ (rv = 0 ∨ rv = 4) ∧ ru = rv ∧ m ≠ 0) (by omega)).symm), rfl⟩)
                · have q153b0 : (ru == rv) = false := beq_eq_false_iff_ne.2 q153
                  first
                  | (exfalso; omega)
                  | (go_wp2_with fail; refine (HOu.out _).mono ?_; rintro e wz ⟨rfl, rfl⟩; go_wp2_with fail; refine (HOv.out _).mono ?_; rintro e wz ⟨rfl, rfl⟩; go_wp2_with fail; refine (HSu.out _).mono ?_; rintro e wz ⟨rfl, rfl⟩; go_wp2_with fail; refine (HSv.out _).mono ?_; rintro e wz ⟨rfl, rfl⟩; go_wp2_with fail; all_goals (try go_meet); all_goals exact ⟨(by first | rfl | exact congrArg (Value.int .i64) (by omega)), (by first | rfl | exact congrArg (Value.int .i64) (by omega)), (by first | rfl | exact congrArg (Value.int .i64) (by omega)), (by first | rfl | exact congrArg (Value.int .i64) (by omega)), (by first | rfl | exact congrArg (Value.int .i64) (by omega)), (by first | rfl | exact congrArg (Value.int .i64) (by omega)), congrArg Value.bool (by first | exact (decide_eq_true (p := (ru = 0 ∨ ru = 4) ∧ (rv = 0 ∨ rv = 4) ∧ ru = rv ∧ m ≠ 0) (by omega)).symm | exact (decide_eq_false (p := (ru = 0 ∨ ru = 4) ∧ (rv = 0 ∨ rv = 4) ∧ ru = rv ∧ m ≠ 0) (by omega)).symm), rfl⟩)
              · have q152b0 : (decide (rv = 0 ∨ rv = 4)) = false := decide_eq_false q152
                first
                | (exfalso; omega)
                | (go_wp2_with fail; refine (HOu.out _).mono ?_; rintro e wz ⟨rfl, rfl⟩; go_wp2_with fail; refine (HOv.out _).mono ?_; rintro e wz ⟨rfl, rfl⟩; go_wp2_with fail; all_goals (try go_meet); all_goals exact ⟨(by first | rfl | exact congrArg (Value.int .i64) (by omega)), (by first | rfl | exact congrArg (Value.int .i64) (by omega)), (by first | rfl | exact congrArg (Value.int .i64) (by omega)), (by first | rfl | exact congrArg (Value.int .i64) (by omega)), (by first | rfl | exact congrArg (Value.int .i64) (by omega)), (by first | rfl | exact congrArg (Value.int .i64) (by omega)), congrArg Value.bool (by first | exact (decide_eq_true (p := (ru = 0 ∨ ru = 4) ∧ (rv = 0 ∨ rv = 4) ∧ ru = rv ∧ m ≠ 0) (by omega)).symm | exact (decide_eq_false (p := (ru = 0 ∨ ru = 4) ∧ (rv = 0 ∨ rv = 4) ∧ ru = rv ∧ m ≠ 0) (by omega)).symm), rfl⟩)
            · have q151b0 : (decide (ru = 0 ∨ ru = 4)) = false := decide_eq_false q151
              first
              | (exfalso; omega)
              | (go_wp2_with fail; refine (HOu.out _).mono ?_; rintro e wz ⟨rfl, rfl⟩; go_wp2_with fail; all_goals (try go_meet); all_goals exact ⟨(by first | rfl | exact congrArg (Value.int .i64) (by omega)), (by first | rfl | exact congrArg (Value.int .i64) (by omega)), (by first | rfl | exact congrArg (Value.int .i64) (by omega)), (by first | rfl | exact congrArg (Value.int .i64) (by omega)), (by first | rfl | exact congrArg (Value.int .i64) (by omega)), (by first | rfl | exact congrArg (Value.int .i64) (by omega)), congrArg Value.bool (by first | exact (decide_eq_true (p := (ru = 0 ∨ ru = 4) ∧ (rv = 0 ∨ rv = 4) ∧ ru = rv ∧ m ≠ 0) (by omega)).symm | exact (decide_eq_false (p := (ru = 0 ∨ ru = 4) ∧ (rv = 0 ∨ rv = 4) ∧ ru = rv ∧ m ≠ 0) (by omega)).symm), rfl⟩)
          case rest =>
            obtain ⟨rfl, rfl, rfl, rfl, rfl, rfl, rfl, rfl⟩ := hcut
            have hd := decide_eq_false n5
            rw [hd]
            clear hd
            have n6 : ¬ ((rv = 0 ∨ rv = 4) ∧ ((0 < m ∧ 0 < gm) ∨ (m < 0 ∧ gm < 0)) ∧ am ≠ 1) := by have := HCL.out; omega
            go_upto_region 15 with fail
            go_cut [2, 6, 7, 8, 9, 10, 144] from 122 to 144 (fun s2 s6 s7 s8 s9 s10 c wx => s2 = .int .i64 (i : Int) ∧ s6 = .int .i64 0 ∧ s7 = .int .i64 v ∧ s8 = .int .i64 m ∧ s9 = .int .i64 gm ∧ s10 = .int .i64 u ∧ c = .bool (decide ((rv = 0 ∨ rv = 4) ∧ ((0 < m ∧ 0 < gm) ∨ (m < 0 ∧ gm < 0)) ∧ am ≠ 1)) ∧ w2 = wx)
            case first =>
              by_cases q155 : rv = 0 ∨ rv = 4
              · have q155b0 : (decide (rv = 0 ∨ rv = 4)) = true := decide_eq_true q155
                by_cases q156 : 0 < m
                · have q156b0 : (decide (0 < m)) = true := decide_eq_true q156
                  have q156b1 : (decide (m < 0)) = false := decide_eq_false (by omega)
                  by_cases q157 : 0 < gm
                  · have q157b0 : (decide (0 < gm)) = true := decide_eq_true q157
                    by_cases q158 : am = 1
                    · have q158b0 : (am != 1) = false := bne_eq_false_iff_eq.2 q158
                      first
                      | (exfalso; omega)
                      | (go_wp2_with fail; refine (HOv.out _).mono ?_; rintro e wz ⟨rfl, rfl⟩; go_wp2_with fail; refine (HAm.out _).mono ?_; rintro e wz ⟨rfl, rfl⟩; go_wp2_with fail; all_goals (try go_meet); all_goals exact ⟨(by first | rfl | exact congrArg (Value.int .i64) (by omega)), (by first | rfl | exact congrArg (Value.int .i64) (by omega)), (by first | rfl | exact congrArg (Value.int .i64) (by omega)), (by first | rfl | exact congrArg (Value.int .i64) (by omega)), (by first | rfl | exact congrArg (Value.int .i64) (by omega)), (by first | rfl | exact congrArg (Value.int .i64) (by omega)), congrArg Value.bool (by first | exact (decide_eq_true (p := (rv = 0 ∨ rv = 4) ∧ ((0 < m ∧ 0 < gm) ∨ (m < 0 ∧ gm < 0)) ∧ am ≠ 1) (by omega)).symm | exact (decide_eq_false (p := (rv = 0 ∨ rv = 4) ∧ ((0 < m ∧ 0 < gm) ∨ (m < 0 ∧ gm < 0)) ∧ am ≠ 1) (by omega)).symm), rfl⟩)
                    · have q158b0 : (am != 1) = true := bne_iff_ne.2 q158
                      first
                      | (exfalso; omega)
                      | (go_wp2_with fail; refine (HOv.out _).mono ?_; rintro e wz ⟨rfl, rfl⟩; go_wp2_with fail; refine (HAm.out _).mono ?_; rintro e wz ⟨rfl, rfl⟩; go_wp2_with fail; all_goals (try go_meet); all_goals exact ⟨(by first | rfl | exact congrArg (Value.int .i64) (by omega)), (by first | rfl | exact congrArg (Value.int .i64) (by omega)), (by first | rfl | exact congrArg (Value.int .i64) (by omega)), (by first | rfl | exact congrArg (Value.int .i64) (by omega)), (by first | rfl | exact congrArg (Value.int .i64) (by omega)), (by first | rfl | exact congrArg (Value.int .i64) (by omega)), congrArg Value.bool (by first | exact (decide_eq_true (p := (rv = 0 ∨ rv = 4) ∧ ((0 < m ∧ 0 < gm) ∨ (m < 0 ∧ gm < 0)) ∧ am ≠ 1) (by omega)).symm | exact (decide_eq_false (p := (rv = 0 ∨ rv = 4) ∧ ((0 < m ∧ 0 < gm) ∨ (m < 0 ∧ gm < 0)) ∧ am ≠ 1) (by omega)).symm), rfl⟩)
                  · have q157b0 : (decide (0 < gm)) = false := decide_eq_false q157
                    first
                    | (exfalso; omega)
                    | (go_wp2_with fail; refine (HOv.out _).mono ?_; rintro e wz ⟨rfl, rfl⟩; go_wp2_with fail; all_goals (try go_meet); all_goals exact ⟨(by first | rfl | exact congrArg (Value.int .i64) (by omega)), (by first | rfl | exact congrArg (Value.int .i64) (by omega)), (by first | rfl | exact congrArg (Value.int .i64) (by omega)), (by first | rfl | exact congrArg (Value.int .i64) (by omega)), (by first | rfl | exact congrArg (Value.int .i64) (by omega)), (by first | rfl | exact congrArg (Value.int .i64) (by omega)), congrArg Value.bool (by first | exact (decide_eq_true (p := (rv = 0 ∨ rv = 4) ∧ ((0 < m ∧ 0 < gm) ∨ (m < 0 ∧ gm < 0)) ∧ am ≠ 1) (by omega)).symm | exact (decide_eq_false (p := (rv = 0 ∨ rv = 4) ∧ ((0 < m ∧ 0 < gm) ∨ (m < 0 ∧ gm < 0)) ∧ am ≠ 1) (by omega)).symm), rfl⟩)
                · have q156b0 : (decide (0 < m)) = false := decide_eq_false q156
                  by_cases q159 : m < 0
                  · have q159b0 : (decide (m < 0)) = true := decide_eq_true q159
                    by_cases q160 : gm < 0
                    · have q160b0 : (decide (gm < 0)) = true := decide_eq_true q160
                      by_cases q161 : am = 1
                      · have q161b0 : (am != 1) = false := bne_eq_false_iff_eq.2 q161
                        first
                        | (exfalso; omega)
                        | (go_wp2_with fail; refine (HOv.out _).mono ?_; rintro e wz ⟨rfl, rfl⟩; go_wp2_with fail; refine (HAm.out _).mono ?_; rintro e wz ⟨rfl, rfl⟩; go_wp2_with fail; all_goals (try go_meet); all_goals exact ⟨(by first | rfl | exact congrArg (Value.int .i64) (by omega)), (by first | rfl | exact congrArg (Value.int .i64) (by omega)), (by first | rfl | exact congrArg (Value.int .i64) (by omega)), (by first | rfl | exact congrArg (Value.int .i64) (by omega)), (by first | rfl | exact congrArg (Value.int .i64) (by omega)), (by first | rfl | exact congrArg (Value.int .i64) (by omega)), congrArg Value.bool (by first | exact (decide_eq_true (p := (rv = 0 ∨ rv = 4) ∧ ((0 < m ∧ 0 < gm) ∨ (m < 0 ∧ gm < 0)) ∧ am ≠ 1) (by omega)).symm | exact (decide_eq_false (p := (rv = 0 ∨ rv = 4) ∧ ((0 < m ∧ 0 < gm) ∨ (m < 0 ∧ gm < 0)) ∧ am ≠ 1) (by omega)).symm), rfl⟩)
                      · have q161b0 : (am != 1) = true := bne_iff_ne.2 q161
                        first
                        | (exfalso; omega)
                        | (go_wp2_with fail; refine (HOv.out _).mono ?_; rintro e wz ⟨rfl, rfl⟩; go_wp2_with fail; refine (HAm.out _).mono ?_; rintro e wz ⟨rfl, rfl⟩; go_wp2_with fail; all_goals (try go_meet); all_goals exact ⟨(by first | rfl | exact congrArg (Value.int .i64) (by omega)), (by first | rfl | exact congrArg (Value.int .i64) (by omega)), (by first | rfl | exact congrArg (Value.int .i64) (by omega)), (by first | rfl | exact congrArg (Value.int .i64) (by omega)), (by first | rfl | exact congrArg (Value.int .i64) (by omega)), (by first | rfl | exact congrArg (Value.int .i64) (by omega)), congrArg Value.bool (by first | exact (decide_eq_true (p := (rv = 0 ∨ rv = 4) ∧ ((0 < m ∧ 0 < gm) ∨ (m < 0 ∧ gm < 0)) ∧ am ≠ 1) (by omega)).symm | exact (decide_eq_false (p := (rv = 0 ∨ rv = 4) ∧ ((0 < m ∧ 0 < gm) ∨ (m < 0 ∧ gm < 0)) ∧ am ≠ 1) (by omega)).symm), rfl⟩)
                    · have q160b0 : (decide (gm < 0)) = false := decide_eq_false q160
                      first
                      | (exfalso; omega)
                      | (go_wp2_with fail; refine (HOv.out _).mono ?_; rintro e wz ⟨rfl, rfl⟩; go_wp2_with fail; all_goals (try go_meet); all_goals exact ⟨(by first | rfl | exact congrArg (Value.int .i64) (by omega)), (by first | rfl | exact congrArg (Value.int .i64) (by omega)), (by first | rfl | exact congrArg (Value.int .i64) (by omega)), (by first | rfl | exact congrArg (Value.int .i64) (by omega)), (by first | rfl | exact congrArg (Value.int .i64) (by omega)), (by first | rfl | exact congrArg (Value.int .i64) (by omega)), congrArg Value.bool (by first | exact (decide_eq_true (p := (rv = 0 ∨ rv = 4) ∧ ((0 < m ∧ 0 < gm) ∨ (m < 0 ∧ gm < 0)) ∧ am ≠ 1) (by omega)).symm | exact (decide_eq_false (p := (rv = 0 ∨ rv = 4) ∧ ((0 < m ∧ 0 < gm) ∨ (m < 0 ∧ gm < 0)) ∧ am ≠ 1) (by omega)).symm), rfl⟩)
                  · have q159b0 : (decide (m < 0)) = false := decide_eq_false q159
                    first
                    | (exfalso; omega)
                    | (go_wp2_with fail; refine (HOv.out _).mono ?_; rintro e wz ⟨rfl, rfl⟩; go_wp2_with fail; all_goals (try go_meet); all_goals exact ⟨(by first | rfl | exact congrArg (Value.int .i64) (by omega)), (by first | rfl | exact congrArg (Value.int .i64) (by omega)), (by first | rfl | exact congrArg (Value.int .i64) (by omega)), (by first | rfl | exact congrArg (Value.int .i64) (by omega)), (by first | rfl | exact congrArg (Value.int .i64) (by omega)), (by first | rfl | exact congrArg (Value.int .i64) (by omega)), congrArg Value.bool (by first | exact (decide_eq_true (p := (rv = 0 ∨ rv = 4) ∧ ((0 < m ∧ 0 < gm) ∨ (m < 0 ∧ gm < 0)) ∧ am ≠ 1) (by omega)).symm | exact (decide_eq_false (p := (rv = 0 ∨ rv = 4) ∧ ((0 < m ∧ 0 < gm) ∨ (m < 0 ∧ gm < 0)) ∧ am ≠ 1) (by omega)).symm), rfl⟩)
              · have q155b0 : (decide (rv = 0 ∨ rv = 4)) = false := decide_eq_false q155
                first
                | (exfalso; omega)
                | (go_wp2_with fail; refine (HOv.out _).mono ?_; rintro e wz ⟨rfl, rfl⟩; go_wp2_with fail; all_goals (try go_meet); all_goals exact ⟨(by first | rfl | exact congrArg (Value.int .i64) (by omega)), (by first | rfl | exact congrArg (Value.int .i64) (by omega)), (by first | rfl | exact congrArg (Value.int .i64) (by omega)), (by first | rfl | exact congrArg (Value.int .i64) (by omega)), (by first | rfl | exact congrArg (Value.int .i64) (by omega)), (by first | rfl | exact congrArg (Value.int .i64) (by omega)), congrArg Value.bool (by first | exact (decide_eq_true (p := (rv = 0 ∨ rv = 4) ∧ ((0 < m ∧ 0 < gm) ∨ (m < 0 ∧ gm < 0)) ∧ am ≠ 1) (by omega)).symm | exact (decide_eq_false (p := (rv = 0 ∨ rv = 4) ∧ ((0 < m ∧ 0 < gm) ∨ (m < 0 ∧ gm < 0)) ∧ am ≠ 1) (by omega)).symm), rfl⟩)
            case rest =>
              obtain ⟨rfl, rfl, rfl, rfl, rfl, rfl, rfl, rfl⟩ := hcut
              have hd := decide_eq_false n6
              rw [hd]
              clear hd
              have n9 : ¬ (i = 1) := by have := HCL.out; omega
              have hd : ((i : Int) == 1) = false := beq_eq_false_iff_ne.2 (by omega)
              have hi2 : 2 ≤ i := by omega
              have hi1000 : i < 1000 := by omega
              have z0 : i - 1 - 1 = i - 2 := by omega
              rw [z0] at a5
              clear z0
              obtain ⟨z1, z2, z3⟩ := idx1 hi1 hi1000
              obtain ⟨f1, f2, f3⟩ := idx2 hi2 hi1000
              go_upto_region 19 with fail
              go_quiet (fail)
              go_upto_region 20 with fail
              obtain ⟨w3, hw3⟩ : ∃ W, w2.drewN nq = W := ⟨_, rfl⟩
              have HW2 := Lib.hid (show ∃ q, w3 = w.drewN q by obtain ⟨q, hq⟩ := HW1.out; exact ⟨q + nq, by rw [← hw3, hq, World.drewN_drewN]⟩)
              rw [hw3, HPe.out]
              clear hw3 a4 a5 z1 z2 z3 f1 f2 f3 HW1
              have HW1 := HW2
              clear HW2
              have n7 : (2 < p ∧ m ≠ -1 ∧ m ≠ -2) ∨ (p < -2 ∧ m ≠ 1 ∧ m ≠ 2) := by have := HCL.out; omega
              go_upto_region 20 with fail
              go_cut [2, 6, 7, 8, 9, 10, 11, 179] from 145 to 179 (fun s2 s6 s7 s8 s9 s10 s11 c wx => s2 = .int .i64 (i : Int) ∧ s6 = .int .i64 0 ∧ s7 = .int .i64 v ∧ s8 = .int .i64 m ∧ s9 = .int .i64 gm ∧ s10 = .int .i64 u ∧ s11 = .int .i64 p ∧ c = .bool (decide ((2 < p ∧ m ≠ -1 ∧ m ≠ -2) ∨ (p < -2 ∧ m ≠ 1 ∧ m ≠ 2))) ∧ w3 = wx)
              case first =>
                by_cases q162 : 2 < p
                · have q162b0 : (decide (2 < p)) = true := decide_eq_true q162
                  have q162b1 : (decide (p < -2)) = false := decide_eq_false (by omega)
                  by_cases q163 : m = -1
                  · have q163b0 : (m != -1) = false := bne_eq_false_iff_eq.2 q163
                    first
                    | (exfalso; omega)
                    | (go_wp2_with fail; all_goals (try go_meet); all_goals exact ⟨(by first | rfl | exact congrArg (Value.int .i64) (by omega)), (by first | rfl | exact congrArg (Value.int .i64) (by omega)), (by first | rfl | exact congrArg (Value.int .i64) (by omega)), (by first | rfl | exact congrArg (Value.int .i64) (by omega)), (by first | rfl | exact congrArg (Value.int .i64) (by omega)), (by first | rfl | exact congrArg (Value.int .i64) (by omega)), (by first | rfl | exact congrArg (Value.int .i64) (by omega)), congrArg Value.bool (by first | exact (decide_eq_true (p := (2 < p ∧ m ≠ -1 ∧ m ≠ -2) ∨ (p < -2 ∧ m ≠ 1 ∧ m ≠ 2)) (by omega)).symm | exact (decide_eq_false (p := (2 < p ∧ m ≠ -1 ∧ m ≠ -2) ∨ (p < -2 ∧ m ≠ 1 ∧ m ≠ 2)) (by omega)).symm), rfl⟩)
                  · have q163b0 : (m != -1) = true := bne_iff_ne.2 q163
                    by_cases q164 : m = -2
                    · have q164b0 : (m != -2) = false := bne_eq_false_iff_eq.2 q164
                      first
                      | (exfalso; omega)
                      | (go_wp2_with fail; all_goals (try go_meet); all_goals exact ⟨(by first | rfl | exact congrArg (Value.int .i64) (by omega)), (by first | rfl | exact congrArg (Value.int .i64) (by omega)), (by first | rfl | exact congrArg (Value.int .i64) (by omega)), (by first | rfl | exact congrArg (Value.int .i64) (by omega)), (by first | rfl | exact congrArg (Value.int .i64) (by omega)), (by first | rfl | exact congrArg (Value.int .i64) (by omega)), (by first | rfl | exact congrArg (Value.int .i64) (by omega)), congrArg Value.bool (by first | exact (decide_eq_true (p := (2 < p ∧ m ≠ -1 ∧ m ≠ -2) ∨ (p < -2 ∧ m ≠ 1 ∧ m ≠ 2)) (by omega)).symm | exact (decide_eq_false (p := (2 < p ∧ m ≠ -1 ∧ m ≠ -2) ∨ (p < -2 ∧ m ≠ 1 ∧ m ≠ 2)) (by omega)).symm), rfl⟩)
                    · have q164b0 : (m != -2) = true := bne_iff_ne.2 q164
                      first
                      | (exfalso; omega)
                      | (go_wp2_with fail; all_goals (try go_meet); all_goals exact ⟨(by first | rfl | exact congrArg (Value.int .i64) (by omega)), (by first | rfl | exact congrArg (Value.int .i64) (by omega)), (by first | rfl | exact congrArg (Value.int .i64) (by omega)), (by first | rfl | exact congrArg (Value.int .i64) (by omega)), (by first | rfl | exact congrArg (Value.int .i64) (by omega)), (by first | rfl | exact congrArg (Value.int .i64) (by omega)), (by first | rfl | exact congrArg (Value.int .i64) (by omega)), congrArg Value.bool (by first | exact (decide_eq_true (p := (2 < p ∧ m ≠ -1 ∧ m ≠ -2) ∨ (p < -2 ∧ m ≠ 1 ∧ m ≠ 2)) (by omega)).symm | exact (decide_eq_false (p := (2 < p ∧ m ≠ -1 ∧ m ≠ -2) ∨ (p < -2 ∧ m ≠ 1 ∧ m ≠ 2)) (by omega)).symm), rfl⟩)
                · have q162b0 : (decide (2 < p)) = false := decide_eq_false q162
                  by_cases q165 : p < -2
                  · have q165b0 : (decide (p < -2)) = true := decide_eq_true q165
                    by_cases q166 : m = 1
                    · have q166b0 : (m != 1) = false := bne_eq_false_iff_eq.2 q166
                      first
                      | (exfalso; omega)
                      | (go_wp2_with fail; all_goals (try go_meet); all_goals exact ⟨(by first | rfl | exact congrArg (Value.int .i64) (by omega)), (by first | rfl | exact congrArg (Value.int .i64) (by omega)), (by first | rfl | exact congrArg (Value.int .i64) (by omega)), (by first | rfl | exact congrArg (Value.int .i64) (by omega)), (by first | rfl | exact congrArg (Value.int .i64) (by omega)), (by first | rfl | exact congrArg (Value.int .i64) (by omega)), (by first | rfl | exact congrArg (Value.int .i64) (by omega)), congrArg Value.bool (by first | exact (decide_eq_true (p := (2 < p ∧ m ≠ -1 ∧ m ≠ -2) ∨ (p < -2 ∧ m ≠ 1 ∧ m ≠ 2)) (by omega)).symm | exact (decide_eq_false (p := (2 < p ∧ m ≠ -1 ∧ m ≠ -2) ∨ (p < -2 ∧ m ≠ 1 ∧ m ≠ 2)) (by omega)).symm), rfl⟩)
                    · have q166b0 : (m != 1) = true := bne_iff_ne.2 q166
                      by_cases q167 : m = 2
                      · have q167b0 : (m != 2) = false := bne_eq_false_iff_eq.2 q167
                        first
                        | (exfalso; omega)
                        | (go_wp2_with fail; all_goals (try go_meet); all_goals exact ⟨(by first | rfl | exact congrArg (Value.int .i64) (by omega)), (by first | rfl | exact congrArg (Value.int .i64) (by omega)), (by first | rfl | exact congrArg (Value.int .i64) (by omega)), (by first | rfl | exact congrArg (Value.int .i64) (by omega)), (by first | rfl | exact congrArg (Value.int .i64) (by omega)), (by first | rfl | exact congrArg (Value.int .i64) (by omega)), (by first | rfl | exact congrArg (Value.int .i64) (by omega)), congrArg Value.bool (by first | exact (decide_eq_true (p := (2 < p ∧ m ≠ -1 ∧ m ≠ -2) ∨ (p < -2 ∧ m ≠ 1 ∧ m ≠ 2)) (by omega)).symm | exact (decide_eq_false (p := (2 < p ∧ m ≠ -1 ∧ m ≠ -2) ∨ (p < -2 ∧ m ≠ 1 ∧ m ≠ 2)) (by omega)).symm), rfl⟩)
                      · have q167b0 : (m != 2) = true := bne_iff_ne.2 q167
                        first
                        | (exfalso; omega)
                        | (go_wp2_with fail; all_goals (try go_meet); all_goals exact ⟨(by first | rfl | exact congrArg (Value.int .i64) (by omega)), (by first | rfl | exact congrArg (Value.int .i64) (by omega)), (by first | rfl | exact congrArg (Value.int .i64) (by omega)), (by first | rfl | exact congrArg (Value.int .i64) (by omega)), (by first | rfl | exact congrArg (Value.int .i64) (by omega)), (by first | rfl | exact congrArg (Value.int .i64) (by omega)), (by first | rfl | exact congrArg (Value.int .i64) (by omega)), congrArg Value.bool (by first | exact (decide_eq_true (p := (2 < p ∧ m ≠ -1 ∧ m ≠ -2) ∨ (p < -2 ∧ m ≠ 1 ∧ m ≠ 2)) (by omega)).symm | exact (decide_eq_false (p := (2 < p ∧ m ≠ -1 ∧ m ≠ -2) ∨ (p < -2 ∧ m ≠ 1 ∧ m ≠ 2)) (by omega)).symm), rfl⟩)
                  · have q165b0 : (decide (p < -2)) = false := decide_eq_false q165
                    first
                    | (exfalso; omega)
                    | (go_wp2_with fail; all_goals (try go_meet); all_goals exact ⟨(by first | rfl | exact congrArg (Value.int .i64) (by omega)), (by first | rfl | exact congrArg (Value.int .i64) (by omega)), (by first | rfl | exact congrArg (Value.int .i64) (by omega)), (by first | rfl | exact congrArg (Value.int .i64) (by omega)), (by first | rfl | exact congrArg (Value.int .i64) (by omega)), (by first | rfl | exact congrArg (Value.int .i64) (by omega)), (by first | rfl | exact congrArg (Value.int .i64) (by omega)), congrArg Value.bool (by first | exact (decide_eq_true (p := (2 < p ∧ m ≠ -1 ∧ m ≠ -2) ∨ (p < -2 ∧ m ≠ 1 ∧ m ≠ 2)) (by omega)).symm | exact (decide_eq_false (p := (2 < p ∧ m ≠ -1 ∧ m ≠ -2) ∨ (p < -2 ∧ m ≠ 1 ∧ m ≠ 2)) (by omega)).symm), rfl⟩)
              case rest =>
                obtain ⟨rfl, rfl, rfl, rfl, rfl, rfl, rfl, rfl, rfl⟩ := hcut
                have hd := decide_eq_true n7
                rw [hd]
                clear hd
                go_wp2
                go_ret
                exact ⟨ret_int (by rw [← HBK.out]; unfold brk; rw [if_neg n1, if_neg n2, if_neg n3, if_neg n0, if_neg n4, if_neg n5, if_neg n6, if_neg n9, if_pos n7]; rfl), HW1.out⟩
end

end Go.Proofs.Ytlmfmfbnbbooaaa
