/-
  The reference's rules at a place, third part.
-/
import Derived.Test.YtlmfmfbnbbooaaaDuBrkA
import Derived.Test.YtlmfmfbnbbooaaaDuBroken
namespace Go.Proofs.Ytlmfmfbnbbooaaa

section
open Go.ChangeShapes Go.WideShapes Go.ChangeAt Go.RowKit
set_option maxRecDepth 100000

set_option maxHeartbeats 40000000 in
theorem RBr_8a (i Lg Ls : Nat) (x y x1 y1 y2 v rv ru m am p gm : Int) (b1 o1 c1 b2 o2 c2 : Nat) (w : World) (hi : i < Ls) (hig : i < Lg) (g8 : Lg ≤ 8) (nx : 0 ≤ x ∧ x ≤ 20) (ny : 0 ≤ y ∧ y ≤ 20) (nx1 : 0 ≤ x1 ∧ x1 ≤ 20) (ny1 : 0 ≤ y1 ∧ y1 ≤ 20) (ny2 : 0 ≤ y2 ∧ y2 ≤ 20)
    (a1 : w.cell? ⟨b1, o1 + i, none⟩ = some (.int .i64 x)) (a2 : w.cell? ⟨b2, o2 + i, none⟩ = some (.int .i64 y)) (a3 : w.cell? ⟨b1, o1 + (i - 1), none⟩ = some (.int .i64 x1)) (a4 : w.cell? ⟨b2, o2 + (i - 1), none⟩ = some (.int .i64 y1)) (a5 : w.cell? ⟨b2, o2 + (i - 1 - 1), none⟩ = some (.int .i64 y2))
    (hv : y - x = v) (hrv : v % 7 = rv) (hru : (y1 - x1) % 7 = ru) (hm : y - y1 = m) (ham : absI m = am) (hgm : x - x1 = gm) (hp : y1 - y2 = p) (hcl : ((((¬ (v < 0 ∨ 14 < v)) ∧ (¬ (¬ (rv = 0 ∨ rv = 4) ∧ rv ≠ 2 ∧ rv ≠ 5)) ∧ (¬ ((i + 1 = Lg ∧ rv ≠ 0) ∨ (i = 0 ∧ rv ≠ 0 ∧ rv ≠ 4))) ∧ (¬ (i = 0)) ∧ (¬ (4 < am ∧ am ≠ 7))) ∧ (¬ ((ru = 0 ∨ ru = 4) ∧ (rv = 0 ∨ rv = 4) ∧ ru = rv ∧ m ≠ 0)) ∧ (¬ ((rv = 0 ∨ rv = 4) ∧ ((0 < m ∧ 0 < gm) ∨ (m < 0 ∧ gm < 0)) ∧ am ≠ 1))) ∧ (¬ (i = 1)) ∧ (¬ ((2 < p ∧ m ≠ -1 ∧ m ≠ -2) ∨ (p < -2 ∧ m ≠ 1 ∧ m ≠ 2)))) ∧ (rv = 0 ∨ rv = 4) ∧ (2 < p)) :
    Calls Try.prog 85 #[.slice (some ⟨b1, o1, none⟩) Lg c1, .slice (some ⟨b2, o2, none⟩) Ls c2, .int .i64 (i : Int)] w fun e w' => e = .returned (.int .i64 (brk v rv ru m am p gm i Lg : Nat)) ∧ ∃ q, w' = w.drewN q := by
  have HCL := Lib.hid hcl
  clear hcl
  have HOv := Lib.hid (fun W => ropen_any v (by omega) W)
  have HOu := Lib.hid (fun W => ropen_any (y1 - x1) (by omega) W)
  have HSv := Lib.hid (fun W => rsort_any v (by omega) W)
  have HSu := Lib.hid (fun W => rsort_any (y1 - x1) (by omega) W)
  have HAm := Lib.hid (fun W => rabs_any m (by omega) W)
  rw [show openB v = decide (v % 7 = 0 ∨ v % 7 = 4) from rfl, hrv] at HOv
  rw [show openB (y1 - x1) = decide ((y1 - x1) % 7 = 0 ∨ (y1 - x1) % 7 = 4) from rfl, hru] at HOu
  rw [hrv] at HSv
  rw [hru] at HSu
  rw [ham] at HAm
  have HTv := Lib.hid (show 0 ≤ v → v.tmod 7 = rv from fun h => by rw [← hrv]; exact Int.tmod_eq_emod_of_nonneg h)
  have HVe := Lib.hid hv
  have HMe := Lib.hid hm
  have HGe := Lib.hid hgm
  have HPe := Lib.hid hp
  have hmb : -20 ≤ m ∧ m ≤ 20 := by omega
  have hpb : -20 ≤ p ∧ p ≤ 20 := by omega
  obtain ⟨u, hu⟩ : ∃ u, y1 - x1 = u := ⟨_, rfl⟩
  have HUe := Lib.hid hu
  rw [hu] at HOu HSu
  have hvb : -20 ≤ v ∧ v ≤ 20 := by omega
  clear hv hrv hru hm ham hgm hp hu
  obtain ⟨bk, hbk⟩ : ∃ bk, brk v rv ru m am p gm i Lg = bk := ⟨_, rfl⟩
  have HBK := Lib.hid hbk
  rw [hbk]
  clear hbk
  go_enter Try.func85, Try.ntmps85
  go_upto_region 1 with fail
  go_quiet (fail)
  obtain ⟨w1, hw1⟩ : ∃ W, w.drewN nq = W := ⟨_, rfl⟩
  have HW1 := Lib.hid (show ∃ q, w1 = w.drewN q from ⟨_, hw1.symm⟩)
  have k1 : ∀ a v, w.cell? a = some v → w1.cell? a = some v := fun a v e => by rw [← hw1]; exact e
  have a3 := k1 _ _ a3
  have a4 := k1 _ _ a4
  have a5 := k1 _ _ a5
  have a1 := k1 _ _ a1
  have a2 := k1 _ _ a2
  rw [hw1, HVe.out]
  clear hw1 k1
  have n1 : ¬ (v < 0 ∨ 14 < v) := by have := HCL.out; omega
  go_upto_region 2 with fail
  go_cut [2, 6, 7, 26] from 12 to 26 (fun s2 s6 s7 c wx => s2 = .int .i64 (i : Int) ∧ s6 = .int .i64 0 ∧ s7 = .int .i64 v ∧ c = .bool (decide (v < 0 ∨ 14 < v)) ∧ w1 = wx)
  case first =>
    by_cases q168 : v < 0
    · have q168b0 : (decide (v < 0)) = true := decide_eq_true q168
      first
      | (exfalso; omega)
      | (go_wp2_with fail; all_goals (try go_meet); all_goals exact ⟨(by first | rfl | exact congrArg (Value.int .i64) (by omega)), (by first | rfl | exact congrArg (Value.int .i64) (by omega)), (by first | rfl | exact congrArg (Value.int .i64) (by omega)), congrArg Value.bool (by first | exact (decide_eq_true (p := v < 0 ∨ 14 < v) (by omega)).symm | exact (decide_eq_false (p := v < 0 ∨ 14 < v) (by omega)).symm), rfl⟩)
    · have q168b0 : (decide (v < 0)) = false := decide_eq_false q168
      by_cases q169 : 14 < v
      · have q169b0 : (decide (14 < v)) = true := decide_eq_true q169
        first
        | (exfalso; omega)
        | (go_wp2_with fail; all_goals (try go_meet); all_goals exact ⟨(by first | rfl | exact congrArg (Value.int .i64) (by omega)), (by first | rfl | exact congrArg (Value.int .i64) (by omega)), (by first | rfl | exact congrArg (Value.int .i64) (by omega)), congrArg Value.bool (by first | exact (decide_eq_true (p := v < 0 ∨ 14 < v) (by omega)).symm | exact (decide_eq_false (p := v < 0 ∨ 14 < v) (by omega)).symm), rfl⟩)
      · have q169b0 : (decide (14 < v)) = false := decide_eq_false q169
        first
        | (exfalso; omega)
        | (go_wp2_with fail; all_goals (try go_meet); all_goals exact ⟨(by first | rfl | exact congrArg (Value.int .i64) (by omega)), (by first | rfl | exact congrArg (Value.int .i64) (by omega)), (by first | rfl | exact congrArg (Value.int .i64) (by omega)), congrArg Value.bool (by first | exact (decide_eq_true (p := v < 0 ∨ 14 < v) (by omega)).symm | exact (decide_eq_false (p := v < 0 ∨ 14 < v) (by omega)).symm), rfl⟩)
  case rest =>
    obtain ⟨rfl, rfl, rfl, rfl, rfl⟩ := hcut
    have hd := decide_eq_false n1
    rw [hd]
    clear hd
    have n2 : ¬ (¬ (rv = 0 ∨ rv = 4) ∧ rv ≠ 2 ∧ rv ≠ 5) := by have := HCL.out; omega
    go_upto_region 4 with fail
    go_cut [2, 6, 7, 39] from 27 to 39 (fun s2 s6 s7 c wx => s2 = .int .i64 (i : Int) ∧ s6 = .int .i64 0 ∧ s7 = .int .i64 v ∧ c = .bool (decide (¬ (rv = 0 ∨ rv = 4) ∧ rv ≠ 2 ∧ rv ≠ 5)) ∧ w1 = wx)
    case first =>
      by_cases q170 : rv = 0 ∨ rv = 4
      · have q170b0 : (decide (rv = 0 ∨ rv = 4)) = true := decide_eq_true q170
        first
        | (exfalso; omega)
        | (go_wp2_with fail; refine (HOv.out _).mono ?_; rintro e wz ⟨rfl, rfl⟩; go_wp2_with fail; all_goals (try go_meet); all_goals exact ⟨(by first | rfl | exact congrArg (Value.int .i64) (by omega)), (by first | rfl | exact congrArg (Value.int .i64) (by omega)), (by first | rfl | exact congrArg (Value.int .i64) (by omega)), congrArg Value.bool (by first | exact (decide_eq_true (p := ¬ (rv = 0 ∨ rv = 4) ∧ rv ≠ 2 ∧ rv ≠ 5) (by omega)).symm | exact (decide_eq_false (p := ¬ (rv = 0 ∨ rv = 4) ∧ rv ≠ 2 ∧ rv ≠ 5) (by omega)).symm), rfl⟩)
      · have q170b0 : (decide (rv = 0 ∨ rv = 4)) = false := decide_eq_false q170
        by_cases q171 : rv = 2
        · have q171b0 : (rv != 2) = false := bne_eq_false_iff_eq.2 q171
          first
          | (exfalso; omega)
          | (go_wp2_with fail; refine (HOv.out _).mono ?_; rintro e wz ⟨rfl, rfl⟩; go_wp2_with fail; refine (HSv.out _).mono ?_; rintro e wz ⟨rfl, rfl⟩; go_wp2_with fail; all_goals (try go_meet); all_goals exact ⟨(by first | rfl | exact congrArg (Value.int .i64) (by omega)), (by first | rfl | exact congrArg (Value.int .i64) (by omega)), (by first | rfl | exact congrArg (Value.int .i64) (by omega)), congrArg Value.bool (by first | exact (decide_eq_true (p := ¬ (rv = 0 ∨ rv = 4) ∧ rv ≠ 2 ∧ rv ≠ 5) (by omega)).symm | exact (decide_eq_false (p := ¬ (rv = 0 ∨ rv = 4) ∧ rv ≠ 2 ∧ rv ≠ 5) (by omega)).symm), rfl⟩)
        · have q171b0 : (rv != 2) = true := bne_iff_ne.2 q171
          by_cases q172 : rv = 5
          · have q172b0 : (rv != 5) = false := bne_eq_false_iff_eq.2 q172
            first
            | (exfalso; omega)
            | (go_wp2_with fail; refine (HOv.out _).mono ?_; rintro e wz ⟨rfl, rfl⟩; go_wp2_with fail; refine (HSv.out _).mono ?_; rintro e wz ⟨rfl, rfl⟩; go_wp2_with fail; refine (HSv.out _).mono ?_; rintro e wz ⟨rfl, rfl⟩; go_wp2_with fail; all_goals (try go_meet); all_goals exact ⟨(by first | rfl | exact congrArg (Value.int .i64) (by omega)), (by first | rfl | exact congrArg (Value.int .i64) (by omega)), (by first | rfl | exact congrArg (Value.int .i64) (by omega)), congrArg Value.bool (by first | exact (decide_eq_true (p := ¬ (rv = 0 ∨ rv = 4) ∧ rv ≠ 2 ∧ rv ≠ 5) (by omega)).symm | exact (decide_eq_false (p := ¬ (rv = 0 ∨ rv = 4) ∧ rv ≠ 2 ∧ rv ≠ 5) (by omega)).symm), rfl⟩)
          · have q172b0 : (rv != 5) = true := bne_iff_ne.2 q172
            first
            | (exfalso; omega)
            | (go_wp2_with fail; refine (HOv.out _).mono ?_; rintro e wz ⟨rfl, rfl⟩; go_wp2_with fail; refine (HSv.out _).mono ?_; rintro e wz ⟨rfl, rfl⟩; go_wp2_with fail; refine (HSv.out _).mono ?_; rintro e wz ⟨rfl, rfl⟩; go_wp2_with fail; all_goals (try go_meet); all_goals exact ⟨(by first | rfl | exact congrArg (Value.int .i64) (by omega)), (by first | rfl | exact congrArg (Value.int .i64) (by omega)), (by first | rfl | exact congrArg (Value.int .i64) (by omega)), congrArg Value.bool (by first | exact (decide_eq_true (p := ¬ (rv = 0 ∨ rv = 4) ∧ rv ≠ 2 ∧ rv ≠ 5) (by omega)).symm | exact (decide_eq_false (p := ¬ (rv = 0 ∨ rv = 4) ∧ rv ≠ 2 ∧ rv ≠ 5) (by omega)).symm), rfl⟩)
    case rest =>
      obtain ⟨rfl, rfl, rfl, rfl, rfl⟩ := hcut
      have hd := decide_eq_false n2
      rw [hd]
      clear hd
      have hv0 : 0 ≤ v := by omega
      have htv := HTv.out hv0
      have n3 : ¬ ((i + 1 = Lg ∧ rv ≠ 0) ∨ (i = 0 ∧ rv ≠ 0 ∧ rv ≠ 4)) := by have := HCL.out; omega
      go_upto_region 6 with fail
      go_cut [2, 6, 7, 63] from 40 to 63 (fun s2 s6 s7 c wx => s2 = .int .i64 (i : Int) ∧ s6 = .int .i64 0 ∧ s7 = .int .i64 v ∧ c = .bool (decide ((i + 1 = Lg ∧ rv ≠ 0) ∨ (i = 0 ∧ rv ≠ 0 ∧ rv ≠ 4))) ∧ w1 = wx)
      case first =>
        by_cases q173 : i + 1 = Lg
        · have q173b0 : ((i : Int) == (Lg : Int) - 1) = true := beq_iff_eq.2 (by omega)
          by_cases q174 : rv = 0
          · have q174b0 : (rv != 0) = false := bne_eq_false_iff_eq.2 q174
            by_cases q175 : i = 0
            · have q175b0 : ((i : Int) == 0) = true := beq_iff_eq.2 (by omega)
              first
              | (exfalso; omega)
              | (go_wp2_with fail; all_goals (try go_meet); all_goals exact ⟨(by first | rfl | exact congrArg (Value.int .i64) (by omega)), (by first | rfl | exact congrArg (Value.int .i64) (by omega)), (by first | rfl | exact congrArg (Value.int .i64) (by omega)), congrArg Value.bool (by first | exact (decide_eq_true (p := (i + 1 = Lg ∧ rv ≠ 0) ∨ (i = 0 ∧ rv ≠ 0 ∧ rv ≠ 4)) (by omega)).symm | exact (decide_eq_false (p := (i + 1 = Lg ∧ rv ≠ 0) ∨ (i = 0 ∧ rv ≠ 0 ∧ rv ≠ 4)) (by omega)).symm), rfl⟩)
            · have q175b0 : ((i : Int) == 0) = false := beq_eq_false_iff_ne.2 (by omega)
              first
              | (exfalso; omega)
              | (go_wp2_with fail; all_goals (try go_meet); all_goals exact ⟨(by first | rfl | exact congrArg (Value.int .i64) (by omega)), (by first | rfl | exact congrArg (Value.int .i64) (by omega)), (by first | rfl | exact congrArg (Value.int .i64) (by omega)), congrArg Value.bool (by first | exact (decide_eq_true (p := (i + 1 = Lg ∧ rv ≠ 0) ∨ (i = 0 ∧ rv ≠ 0 ∧ rv ≠ 4)) (by omega)).symm | exact (decide_eq_false (p := (i + 1 = Lg ∧ rv ≠ 0) ∨ (i = 0 ∧ rv ≠ 0 ∧ rv ≠ 4)) (by omega)).symm), rfl⟩)
          · have q174b0 : (rv != 0) = true := bne_iff_ne.2 q174
            first
            | (exfalso; omega)
            | (go_wp2_with fail; all_goals (try go_meet); all_goals exact ⟨(by first | rfl | exact congrArg (Value.int .i64) (by omega)), (by first | rfl | exact congrArg (Value.int .i64) (by omega)), (by first | rfl | exact congrArg (Value.int .i64) (by omega)), congrArg Value.bool (by first | exact (decide_eq_true (p := (i + 1 = Lg ∧ rv ≠ 0) ∨ (i = 0 ∧ rv ≠ 0 ∧ rv ≠ 4)) (by omega)).symm | exact (decide_eq_false (p := (i + 1 = Lg ∧ rv ≠ 0) ∨ (i = 0 ∧ rv ≠ 0 ∧ rv ≠ 4)) (by omega)).symm), rfl⟩)
        · have q173b0 : ((i : Int) == (Lg : Int) - 1) = false := beq_eq_false_iff_ne.2 (by omega)
          by_cases q176 : i = 0
          · have q176b0 : ((i : Int) == 0) = true := beq_iff_eq.2 (by omega)
            by_cases q177 : rv = 0
            · have q177b0 : (rv != 0) = false := bne_eq_false_iff_eq.2 q177
              first
              | (exfalso; omega)
              | (go_wp2_with fail; all_goals (try go_meet); all_goals exact ⟨(by first | rfl | exact congrArg (Value.int .i64) (by omega)), (by first | rfl | exact congrArg (Value.int .i64) (by omega)), (by first | rfl | exact congrArg (Value.int .i64) (by omega)), congrArg Value.bool (by first | exact (decide_eq_true (p := (i + 1 = Lg ∧ rv ≠ 0) ∨ (i = 0 ∧ rv ≠ 0 ∧ rv ≠ 4)) (by omega)).symm | exact (decide_eq_false (p := (i + 1 = Lg ∧ rv ≠ 0) ∨ (i = 0 ∧ rv ≠ 0 ∧ rv ≠ 4)) (by omega)).symm), rfl⟩)
            · have q177b0 : (rv != 0) = true := bne_iff_ne.2 q177
              by_cases q178 : rv = 4
              · have q178b0 : (rv != 4) = false := bne_eq_false_iff_eq.2 q178
                first
                | (exfalso; omega)
                | (go_wp2_with fail; all_goals (try go_meet); all_goals exact ⟨(by first | rfl | exact congrArg (Value.int .i64) (by omega)), (by first | rfl | exact congrArg (Value.int .i64) (by omega)), (by first | rfl | exact congrArg (Value.int .i64) (by omega)), congrArg Value.bool (by first | exact (decide_eq_true (p := (i + 1 = Lg ∧ rv ≠ 0) ∨ (i = 0 ∧ rv ≠ 0 ∧ rv ≠ 4)) (by omega)).symm | exact (decide_eq_false (p := (i + 1 = Lg ∧ rv ≠ 0) ∨ (i = 0 ∧ rv ≠ 0 ∧ rv ≠ 4)) (by omega)).symm), rfl⟩)
              · have q178b0 : (rv != 4) = true := bne_iff_ne.2 q178
                first
                | (exfalso; omega)
                | (go_wp2_with fail; all_goals (try go_meet); all_goals exact ⟨(by first | rfl | exact congrArg (Value.int .i64) (by omega)), (by first | rfl | exact congrArg (Value.int .i64) (by omega)), (by first | rfl | exact congrArg (Value.int .i64) (by omega)), congrArg Value.bool (by first | exact (decide_eq_true (p := (i + 1 = Lg ∧ rv ≠ 0) ∨ (i = 0 ∧ rv ≠ 0 ∧ rv ≠ 4)) (by omega)).symm | exact (decide_eq_false (p := (i + 1 = Lg ∧ rv ≠ 0) ∨ (i = 0 ∧ rv ≠ 0 ∧ rv ≠ 4)) (by omega)).symm), rfl⟩)
          · have q176b0 : ((i : Int) == 0) = false := beq_eq_false_iff_ne.2 (by omega)
            first
            | (exfalso; omega)
            | (go_wp2_with fail; all_goals (try go_meet); all_goals exact ⟨(by first | rfl | exact congrArg (Value.int .i64) (by omega)), (by first | rfl | exact congrArg (Value.int .i64) (by omega)), (by first | rfl | exact congrArg (Value.int .i64) (by omega)), congrArg Value.bool (by first | exact (decide_eq_true (p := (i + 1 = Lg ∧ rv ≠ 0) ∨ (i = 0 ∧ rv ≠ 0 ∧ rv ≠ 4)) (by omega)).symm | exact (decide_eq_false (p := (i + 1 = Lg ∧ rv ≠ 0) ∨ (i = 0 ∧ rv ≠ 0 ∧ rv ≠ 4)) (by omega)).symm), rfl⟩)
      case rest =>
        obtain ⟨rfl, rfl, rfl, rfl, rfl⟩ := hcut
        clear htv
        have hd := decide_eq_false n3
        rw [hd]
        clear hd
        have n0 : ¬ (i = 0) := by have := HCL.out; omega
        have hd : ((i : Int) == 0) = false := beq_eq_false_iff_ne.2 (by omega)
        have hi1 : 1 ≤ i := by omega
        obtain ⟨z1, z2, z3⟩ := idx1 hi1 (show i < 1000 by omega)
        go_upto_region 10 with fail
        go_quiet (fail)
        go_upto_region 11 with fail
        obtain ⟨w2, hw2⟩ : ∃ W, w1.drewN nq = W := ⟨_, rfl⟩
        have HW2 := Lib.hid (show ∃ q, w2 = w.drewN q by obtain ⟨q, hq⟩ := HW1.out; exact ⟨q + nq, by rw [← hw2, hq, World.drewN_drewN]⟩)
        have k2 : ∀ a v, w1.cell? a = some v → w2.cell? a = some v := fun a v e => by rw [← hw2]; exact e
        have a4 := k2 _ _ a4
        have a5 := k2 _ _ a5
        rw [hw2, HMe.out, HGe.out, HUe.out]
        clear hw2 k2 a1 a2 a3 z1 z2 z3 HW1
        have HW1 := HW2
        clear HW2
        have n4 : ¬ (4 < am ∧ am ≠ 7) := by have := HCL.out; omega
        go_upto_region 11 with fail
        go_cut [2, 6, 7, 8, 9, 10, 104] from 64 to 104 (fun s2 s6 s7 s8 s9 s10 c wx => s2 = .int .i64 (i : Int) ∧ s6 = .int .i64 0 ∧ s7 = .int .i64 v ∧ s8 = .int .i64 m ∧ s9 = .int .i64 gm ∧ s10 = .int .i64 u ∧ c = .bool (decide (4 < am ∧ am ≠ 7)) ∧ w2 = wx)
        case first =>
          by_cases q179 : 4 < am
          · have q179b0 : (decide (4 < am)) = true := decide_eq_true q179
            by_cases q180 : am = 7
            · have q180b0 : (am != 7) = false := bne_eq_false_iff_eq.2 q180
              first
              | (exfalso; omega)
              | (go_wp2_with fail; refine (HAm.out _).mono ?_; rintro e wz ⟨rfl, rfl⟩; go_wp2_with fail; refine (HAm.out _).mono ?_; rintro e wz ⟨rfl, rfl⟩; go_wp2_with fail; all_goals (try go_meet); all_goals exact ⟨(by first | rfl | exact congrArg (Value.int .i64) (by omega)), (by first | rfl | exact congrArg (Value.int .i64) (by omega)), (by first | rfl | exact congrArg (Value.int .i64) (by omega)), (by first | rfl | exact congrArg (Value.int .i64) (by omega)), (by first | rfl | exact congrArg (Value.int .i64) (by omega)), (by first | rfl | exact congrArg (Value.int .i64) (by omega)), congrArg Value.bool (by first | exact (decide_eq_true (p := 4 < am ∧ am ≠ 7) (by omega)).symm | exact (decide_eq_false (p := 4 < am ∧ am ≠ 7) (by omega)).symm), rfl⟩)
            · have q180b0 : (am != 7) = true := bne_iff_ne.2 q180
              first
              | (exfalso; omega)
              | (go_wp2_with fail; refine (HAm.out _).mono ?_; rintro e wz ⟨rfl, rfl⟩; go_wp2_with fail; refine (HAm.out _).mono ?_; rintro e wz ⟨rfl, rfl⟩; go_wp2_with fail; all_goals (try go_meet); all_goals exact ⟨(by first | rfl | exact congrArg (Value.int .i64) (by omega)), (by first | rfl | exact congrArg (Value.int .i64) (by omega)), (by first | rfl | exact congrArg (Value.int .i64) (by omega)), (by first | rfl | exact congrArg (Value.int .i64) (by omega)), (by first | rfl | exact congrArg (Value.int .i64) (by omega)), (by first | rfl | exact congrArg (Value.int .i64) (by omega)), congrArg Value.bool (by first | exact (decide_eq_true (p := 4 < am ∧ am ≠ 7) (by omega)).symm | exact (decide_eq_false (p := 4 < am ∧ am ≠ 7) (by omega)).symm), rfl⟩)
          · have q179b0 : (decide (4 < am)) = false := decide_eq_false q179
            first
            | (exfalso; omega)
            | (go_wp2_with fail; refine (HAm.out _).mono ?_; rintro e wz ⟨rfl, rfl⟩; go_wp2_with fail; all_goals (try go_meet); all_goals exact ⟨(by first | rfl | exact congrArg (Value.int .i64) (by omega)), (by first | rfl | exact congrArg (Value.int .i64) (by omega)), (by first | rfl | exact congrArg (Value.int .i64) (by omega)), (by first | rfl | exact congrArg (Value.int .i64) (by omega)), (by first | rfl | exact congrArg (Value.int .i64) (by omega)), (by first | rfl | exact congrArg (Value.int .i64) (by omega)), congrArg Value.bool (by first | exact (decide_eq_true (p := 4 < am ∧ am ≠ 7) (by omega)).symm | exact (decide_eq_false (p := 4 < am ∧ am ≠ 7) (by omega)).symm), rfl⟩)
        case rest =>
          obtain ⟨rfl, rfl, rfl, rfl, rfl, rfl, rfl, rfl⟩ := hcut
          have hd := decide_eq_false n4
          rw [hd]
          clear hd
          have n5 : ¬ ((ru = 0 ∨ ru = 4) ∧ (rv = 0 ∨ rv = 4) ∧ ru = rv ∧ m ≠ 0) := by have := HCL.out; omega
          go_upto_region 13 with fail
          go_cut [2, 6, 7, 8, 9, 10, 121] from 105 to 121 (fun s2 s6 s7 s8 s9 s10 c wx => s2 = .int .i64 (i : Int) ∧ s6 = .int .i64 0 ∧ s7 = .int .i64 v ∧ s8 = .int .i64 m ∧ s9 = .int .i64 gm ∧ s10 = .int .i64 u ∧ c = .bool (decide ((ru = 0 ∨ ru = 4) ∧ (rv = 0 ∨ rv = 4) ∧ ru = rv ∧ m ≠ 0)) ∧ w2 = wx)
          case first =>
            by_cases q181 : ru = 0 ∨ ru = 4
            · have q181b0 : (decide (ru = 0 ∨ ru = 4)) = true := decide_eq_true q181
              by_cases q182 : rv = 0 ∨ rv = 4
              · have q182b0 : (decide (rv = 0 ∨ rv = 4)) = true := decide_eq_true q182
                by_cases q183 : ru = rv
                · have q183b0 : (ru == rv) = true := beq_iff_eq.2 q183
                  by_cases q184 : m = 0
                  · have q184b0 : (m != 0) = false := bne_eq_false_iff_eq.2 q184
                    first
                    | (exfalso; omega)
                    | (go_wp2_with fail; refine (HOu.out _).mono ?_; rintro e wz ⟨rfl, rfl⟩; go_wp2_with fail; refine (HOv.out _).mono ?_; rintro e wz ⟨rfl, rfl⟩; go_wp2_with fail; refine (HSu.out _).mono ?_; rintro e wz ⟨rfl, rfl⟩; go_wp2_with fail; refine (HSv.out _).mono ?_; rintro e wz ⟨rfl, rfl⟩; go_wp2_with fail; all_goals (try go_meet); all_goals exact ⟨(by first | rfl | exact congrArg (Value.int .i64) (by omega)), (by first | rfl | exact congrArg (Value.int .i64) (by omega)), (by first | rfl | exact congrArg (Value.int .i64) (by omega)), (by first | rfl | exact congrArg (Value.int .i64) (by omega)), (by first | rfl | exact congrArg (Value.int .i64) (by omega)), (by first | rfl | exact congrArg (Value.int .i64) (by omega)), congrArg Value.bool (by first | exact (decide_eq_true (p := (ru = 0 ∨ ru = 4) ∧ (rv = 0 ∨ rv = 4) ∧ ru = rv ∧ m ≠ 0) (by omega)).symm | exact (decide_eq_false (p := (ru = 0 ∨ ru = 4) ∧ (rv = 0 ∨ rv = 4) ∧ ru = rv ∧ m ≠ 0) (by omega)).symm), rfl⟩)
                  · have q184b0 : (m != 0) = true := bne_iff_ne.2 q184
                    first
                    | (exfalso; omega)
                    | (go_wp2_with fail; refine (HOu.out _).mono ?_; rintro e wz ⟨rfl, rfl⟩; go_wp2_with fail; refine (HOv.out _).mono ?_; rintro e wz ⟨rfl, rfl⟩; go_wp2_with fail; refine (HSu.out _).mono ?_; rintro e wz ⟨rfl, rfl⟩; go_wp2_with fail; refine (HSv.out _).mono ?_; rintro e wz ⟨rfl, rfl⟩; go_wp2_with fail; all_goals (try go_meet); all_goals exact ⟨(by first | rfl | exact congrArg (Value.int .i64) (by omega)), (by first | rfl | exact congrArg (Value.int .i64) (by omega)), (by first | rfl | exact congrArg (Value.int .i64) (by omega)), (by first | rfl | exact congrArg (Value.int .i64) (by omega)), (by first | rfl | exact congrArg (Value.int .i64) (by omega)), (by first | rfl | exact congrArg (Value.int .i64) (by omega)), congrArg Value.bool (by first | exact (decide_eq_true (p := (ru = 0 ∨ ru = 4) ∧ (rv = 0 ∨ rv = 4) ∧ ru = rv ∧ m ≠ 0) (by omega)).symm | exact (decide_eq_false (p := (ru = 0 ∨ ru = 4) ∧ (rv = 0 ∨ rv = 4) ∧ ru = rv ∧ m ≠ 0) (by omega)).symm), rfl⟩)
                · have q183b0 : (ru == rv) = false := beq_eq_false_iff_ne.2 q183
                  first
                  | (exfalso; omega)
                  | (go_wp2_with fail; refine (HOu.out _).mono ?_; rintro e wz ⟨rfl, rfl⟩; go_wp2_with fail; refine (HOv.out _).mono ?_; rintro e wz ⟨rfl, rfl⟩; go_wp2_with fail; refine (HSu.out _).mono ?_; rintro e wz ⟨rfl, rfl⟩; go_wp2_with fail; refine (HSv.out _).mono ?_; rintro e wz ⟨rfl, rfl⟩; go_wp2_with fail; all_goals (try go_meet); all_goals exact ⟨(by first | rfl | exact congrArg (Value.int .i64) (by omega)), (by first | rfl | exact congrArg (Value.int .i64) (by omega)), (by first | rfl | exact congrArg (Value.int .i64) (by omega)), (by first | rfl | exact congrArg (Value.int .i64) (by omega)), (by first | rfl | exact congrArg (Value.int .i64) (by omega)), (by first | rfl | exact congrArg (Value.int .i64) (by omega)), congrArg Value.bool (by first | exact (decide_eq_true (p := (ru = 0 ∨ ru = 4) ∧ (rv = 0 ∨ rv = 4) ∧ ru = rv ∧ m ≠ 0) (by omega)).symm | exact (decide_eq_false (p := (ru = 0 ∨ ru = 4) ∧ (rv = 0 ∨ rv = 4) ∧ ru = rv ∧ m ≠ 0) (by omega)).symm), rfl⟩)
              · have q182b0 : (decide (rv = 0 ∨ rv = 4)) = false := decide_eq_false q182
                first
                | (exfalso; omega)
                | (go_wp2_with fail; refine (HOu.out _).mono ?_; rintro e wz ⟨rfl, rfl⟩; go_wp2_with fail; refine (HOv.out _).mono ?_; rintro e wz ⟨rfl, rfl⟩; go_wp2_with fail; all_goals (try go_meet); all_goals exact ⟨(by first | rfl | exact congrArg (Value.int .i64) (by omega)), (by first | rfl | exact congrArg (Value.int .i64) (by omega)), (by first | rfl | exact congrArg (Value.int .i64) (by omega)), (by first | rfl | exact congrArg (Value.int .i64) (by omega)), (by first | rfl | exact congrArg (Value.int .i64) (by omega)), (by first | rfl | exact congrArg (Value.int .i64) (by omega)), congrArg Value.bool (by first | exact (decide_eq_true (p := (ru = 0 ∨ ru = 4) ∧ (rv = 0 ∨ rv = 4) ∧ ru = rv ∧ m ≠ 0) (by omega)).symm | exact (decide_eq_false (p := (ru = 0 ∨ ru = 4) ∧ (rv = 0 ∨ rv = 4) ∧ ru = rv ∧ m ≠ 0) (by omega)).symm), rfl⟩)
            · have q181b0 : (decide (ru = 0 ∨ ru = 4)) = false := decide_eq_false q181
              first
              | (exfalso; omega)
              | (go_wp2_with fail; refine (HOu.out _).mono ?_; rintro e wz ⟨rfl, rfl⟩; go_wp2_with fail; all_goals (try go_meet); all_goals exact ⟨(by first | rfl | exact congrArg (Value.int .i64) (by omega)), (by first | rfl | exact congrArg (Value.int .i64) (by omega)), (by first | rfl | exact congrArg (Value.int .i64) (by omega)), (by first | rfl | exact congrArg (Value.int .i64) (by omega)), (by first | rfl | exact congrArg (Value.int .i64) (by omega)), (by first | rfl | exact congrArg (Value.int .i64) (by omega)), congrArg Value.bool (by first | exact (decide_eq_true (p := (ru = 0 ∨ ru = 4) ∧ (rv = 0 ∨ rv = 4) ∧ ru = rv ∧ m ≠ 0) (by omega)).symm | exact (decide_eq_false (p := (ru = 0 ∨ ru = 4) ∧ (rv = 0 ∨ rv = 4) ∧ ru = rv ∧ m ≠ 0) (by omega)).symm), rfl⟩)
          case rest =>
            obtain ⟨rfl, rfl, rfl, rfl, rfl, rfl, rfl, rfl⟩ := hcut
            have hd := decide_eq_false n5
            rw [hd]
            clear hd
            have n6 : ¬ ((rv = 0 ∨ rv = 4) ∧ ((0 < m ∧ 0 < gm) ∨ (m < 0 ∧ gm < 0)) ∧ am ≠ 1) := by have := HCL.out; omega
            go_upto_region 15 with fail
            go_cut [2, 6, 7, 8, 9, 10, 144] from 122 to 144 (fun s2 s6 s7 s8 s9 s10 c wx => s2 = .int .i64 (i : Int) ∧ s6 = .int .i64 0 ∧ s7 = .int .i64 v ∧ s8 = .int .i64 m ∧ s9 = .int .i64 gm ∧ s10 = .int .i64 u ∧ c = .bool (decide ((rv = 0 ∨ rv = 4) ∧ ((0 < m ∧ 0 < gm) ∨ (m < 0 ∧ gm < 0)) ∧ am ≠ 1)) ∧ w2 = wx)
            case first =>
              by_cases q185 : rv = 0 ∨ rv = 4
              · have q185b0 : (decide (rv = 0 ∨ rv = 4)) = true := decide_eq_true q185
                by_cases q186 : 0 < m
                · have q186b0 : (decide (0 < m)) = true := decide_eq_true q186
                  have q186b1 : (decide (m < 0)) = false := decide_eq_false (by omega)
                  by_cases q187 : 0 < gm
                  · have q187b0 : (decide (0 < gm)) = true := decide_eq_true q187
                    by_cases q188 : am = 1
                    · have q188b0 : (am != 1) = false := bne_eq_false_iff_eq.2 q188
                      first
                      | (exfalso; omega)
                      | (go_wp2_with fail; refine (HOv.out _).mono ?_; rintro e wz ⟨rfl, rfl⟩; go_wp2_with fail; refine (HAm.out _).mono ?_; rintro e wz ⟨rfl, rfl⟩; go_wp2_with fail; all_goals (try go_meet); all_goals exact ⟨(by first | rfl | exact congrArg (Value.int .i64) (by omega)), (by first | rfl | exact congrArg (Value.int .i64) (by omega)), (by first | rfl | exact congrArg (Value.int .i64) (by omega)), (by first | rfl | exact congrArg (Value.int .i64) (by omega)), (by first | rfl | exact congrArg (Value.int .i64) (by omega)), (by first | rfl | exact congrArg (Value.int .i64) (by omega)), congrArg Value.bool (by first | exact (decide_eq_true (p := (rv = 0 ∨ rv = 4) ∧ ((0 < m ∧ 0 < gm) ∨ (m < 0 ∧ gm < 0)) ∧ am ≠ 1) (by omega)).symm | exact (decide_eq_false (p := (rv = 0 ∨ rv = 4) ∧ ((0 < m ∧ 0 < gm) ∨ (m < 0 ∧ gm < 0)) ∧ am ≠ 1) (by omega)).symm), rfl⟩)
                    · have q188b0 : (am != 1) = true := bne_iff_ne.2 q188
                      first
                      | (exfalso; omega)
                      | (go_wp2_with fail; refine (HOv.out _).mono ?_; rintro e wz ⟨rfl, rfl⟩; go_wp2_with fail; refine (HAm.out _).mono ?_; rintro e wz ⟨rfl, rfl⟩; go_wp2_with fail; all_goals (try go_meet); all_goals exact ⟨(by first | rfl | exact congrArg (Value.int .i64) (by omega)), (by first | rfl | exact congrArg (Value.int .i64) (by omega)), (by first | rfl | exact congrArg (Value.int .i64) (by omega)), (by first | rfl | exact congrArg (Value.int .i64) (by omega)), (by first | rfl | exact congrArg (Value.int .i64) (by omega)), (by first | rfl | exact congrArg (Value.int .i64) (by omega)), congrArg Value.bool (by first | exact (decide_eq_true (p := (rv = 0 ∨ rv = 4) ∧ ((0 < m ∧ 0 < gm) ∨ (m < 0 ∧ gm < 0)) ∧ am ≠ 1) (by omega)).symm | exact (decide_eq_false (p := (rv = 0 ∨ rv = 4) ∧ ((0 < m ∧ 0 < gm) ∨ (m < 0 ∧ gm < 0)) ∧ am ≠ 1) (by omega)).symm), rfl⟩)
                  · have q187b0 : (decide (0 < gm)) = false := decide_eq_false q187
                    first
                    | (exfalso; omega)
                    | (go_wp2_with fail; refine (HOv.out _).mono ?_; rintro e wz ⟨rfl, rfl⟩; go_wp2_with fail; all_goals (try go_meet); all_goals exact ⟨(by first | rfl | exact congrArg (Value.int .i64) (by omega)), (by first | rfl | exact congrArg (Value.int .i64) (by omega)), (by first | rfl | exact congrArg (Value.int .i64) (by omega)), (by first | rfl | exact congrArg (Value.int .i64) (by omega)), (by first | rfl | exact congrArg (Value.int .i64) (by omega)), (by first | rfl | exact congrArg (Value.int .i64) (by omega)), congrArg Value.bool (by first | exact (decide_eq_true (p := (rv = 0 ∨ rv = 4) ∧ ((0 < m ∧ 0 < gm) ∨ (m < 0 ∧ gm < 0)) ∧ am ≠ 1) (by omega)).symm | exact (decide_eq_false (p := (rv = 0 ∨ rv = 4) ∧ ((0 < m ∧ 0 < gm) ∨ (m < 0 ∧ gm < 0)) ∧ am ≠ 1) (by omega)).symm), rfl⟩)
                · have q186b0 : (decide (0 < m)) = false := decide_eq_false q186
                  by_cases q189 : m < 0
                  · have q189b0 : (decide (m < 0)) = true := decide_eq_true q189
                    by_cases q190 : gm < 0
                    · have q190b0 : (decide (gm < 0)) = true := decide_eq_true q190
                      by_cases q191 : am = 1
                      · have q191b0 : (am != 1) = false := bne_eq_false_iff_eq.2 q191
                        first
                        | (exfalso; omega)
                        | (go_wp2_with fail; refine (HOv.out _).mono ?_; rintro e wz ⟨rfl, rfl⟩; go_wp2_with fail; refine (HAm.out _).mono ?_; rintro e wz ⟨rfl, rfl⟩; go_wp2_with fail; all_goals (try go_meet); all_goals exact ⟨(by first | rfl | exact congrArg (Value.int .i64) (by omega)), (by first | rfl | exact congrArg (Value.int .i64) (by omega)), (by first | rfl | exact congrArg (Value.int .i64) (by omega)), (by first | rfl | exact congrArg (Value.int .i64) (by omega)), (by first | rfl | exact congrArg (Value.int .i64) (by omega)), (by first | rfl | exact congrArg (Value.int .i64) (by omega)), congrArg Value.bool (by first | exact (decide_eq_true (p := (rv = 0 ∨ rv = 4) ∧ ((0 < m ∧ 0 < gm) ∨ (m < 0 ∧ gm < 0)) ∧ am ≠ 1) (by omega)).symm | exact (decide_eq_false (p := (rv = 0 ∨ rv = 4) ∧ ((0 < m ∧ 0 < gm) ∨ (m < 0 ∧ gm < 0)) ∧ am ≠ 1) (by omega)).symm), rfl⟩)
                      · have q191b0 : (am != 1) = true := bne_iff_ne.2 q191
                        first
                        | (exfalso; omega)
                        | (go_wp2_with fail; refine (HOv.out _).mono ?_; rintro e wz ⟨rfl, rfl⟩; go_wp2_with fail; refine (HAm.out _).mono ?_; rintro e wz ⟨rfl, rfl⟩; go_wp2_with fail; all_goals (try go_meet); all_goals exact ⟨(by first | rfl | exact congrArg (Value.int .i64) (by omega)), (by first | rfl | exact congrArg (Value.int .i64) (by omega)), (by first | rfl | exact congrArg (Value.int .i64) (by omega)), (by first | rfl | exact congrArg (Value.int .i64) (by omega)), (by first | rfl | exact congrArg (Value.int .i64) (by omega)), (by first | rfl | exact congrArg (Value.int .i64) (by omega)), congrArg Value.bool (by first | exact (decide_eq_true (p := (rv = 0 ∨ rv = 4) ∧ ((0 < m ∧ 0 < gm) ∨ (m < 0 ∧ gm < 0)) ∧ am ≠ 1) (by omega)).symm | exact (decide_eq_false (p := (rv = 0 ∨ rv = 4) ∧ ((0 < m ∧ 0 < gm) ∨ (m < 0 ∧ gm < 0)) ∧ am ≠ 1) (by omega)).symm), rfl⟩)
                    · have q190b0 : (decide (gm < 0)) = false := decide_eq_false q190
                      first
                      | (exfalso; omega)
                      | (go_wp2_with fail; refine (HOv.out _).mono ?_; rintro e wz ⟨rfl, rfl⟩; go_wp2_with fail; all_goals (try go_meet); all_goals exact ⟨(by first | rfl | exact congrArg (Value.int .i64) (by omega)), (by first | rfl | exact congrArg (Value.int .i64) (by omega)), (by first | rfl | exact congrArg (Value.int .i64) (by omega)), (by first | rfl | exact congrArg (Value.int .i64) (by omega)), (by first | rfl | exact congrArg (Value.int .i64) (by omega)), (by first | rfl | exact congrArg (Value.int .i64) (by omega)), congrArg Value.bool (by first | exact (decide_eq_true (p := (rv = 0 ∨ rv = 4) ∧ ((0 < m ∧ 0 < gm) ∨ (m < 0 ∧ gm < 0)) ∧ am ≠ 1) (by omega)).symm | exact (decide_eq_false (p := (rv = 0 ∨ rv = 4) ∧ ((0 < m ∧ 0 < gm) ∨ (m < 0 ∧ gm < 0)) ∧ am ≠ 1) (by omega)).symm), rfl⟩)
                  · have q189b0 : (decide (m < 0)) = false := decide_eq_false q189
                    first
                    | (exfalso; omega)
                    | (go_wp2_with fail; refine (HOv.out _).mono ?_; rintro e wz ⟨rfl, rfl⟩; go_wp2_with fail; all_goals (try go_meet); all_goals exact ⟨(by first | rfl | exact congrArg (Value.int .i64) (by omega)), (by first | rfl | exact congrArg (Value.int .i64) (by omega)), (by first | rfl | exact congrArg (Value.int .i64) (by omega)), (by first | rfl | exact congrArg (Value.int .i64) (by omega)), (by first | rfl | exact congrArg (Value.int .i64) (by omega)), (by first | rfl | exact congrArg (Value.int .i64) (by omega)), congrArg Value.bool (by first | exact (decide_eq_true (p := (rv = 0 ∨ rv = 4) ∧ ((0 < m ∧ 0 < gm) ∨ (m < 0 ∧ gm < 0)) ∧ am ≠ 1) (by omega)).symm | exact (decide_eq_false (p := (rv = 0 ∨ rv = 4) ∧ ((0 < m ∧ 0 < gm) ∨ (m < 0 ∧ gm < 0)) ∧ am ≠ 1) (by omega)).symm), rfl⟩)
              · have q185b0 : (decide (rv = 0 ∨ rv = 4)) = false := decide_eq_false q185
                first
                | (exfalso; omega)
                | (go_wp2_with fail; refine (HOv.out _).mono ?_; rintro e wz ⟨rfl, rfl⟩; go_wp2_with fail; all_goals (try go_meet); all_goals exact ⟨(by first | rfl | exact congrArg (Value.int .i64) (by omega)), (by first | rfl | exact congrArg (Value.int .i64) (by omega)), (by first | rfl | exact congrArg (Value.int .i64) (by omega)), (by first | rfl | exact congrArg (Value.int .i64) (by omega)), (by first | rfl | exact congrArg (Value.int .i64) (by omega)), (by first | rfl | exact congrArg (Value.int .i64) (by omega)), congrArg Value.bool (by first | exact (decide_eq_true (p := (rv = 0 ∨ rv = 4) ∧ ((0 < m ∧ 0 < gm) ∨ (m < 0 ∧ gm < 0)) ∧ am ≠ 1) (by omega)).symm | exact (decide_eq_false (p := (rv = 0 ∨ rv = 4) ∧ ((0 < m ∧ 0 < gm) ∨ (m < 0 ∧ gm < 0)) ∧ am ≠ 1) (by omega)).symm), rfl⟩)
            case rest =>
              obtain ⟨rfl, rfl, rfl, rfl, rfl, rfl, rfl, rfl⟩ := hcut
              have hd := decide_eq_false n6
              rw [hd]
              clear hd
              have n9 : ¬ (i = 1) := by have := HCL.out; omega
              have hd : ((i : Int) == 1) = false := beq_eq_false_iff_ne.2 (by omega)
              have hi2 : 2 ≤ i := by omega
              have hi1000 : i < 1000 := by omega
              have z0 : i - 1 - 1 = i - 2 := by omega
              rw [z0] at a5
              clear z0
              obtain ⟨z1, z2, z3⟩ := idx1 hi1 hi1000
              obtain ⟨f1, f2, f3⟩ := idx2 hi2 hi1000
              go_upto_region 19 with fail
              go_quiet (fail)
              go_upto_region 20 with fail
              obtain ⟨w3, hw3⟩ : ∃ W, w2.drewN nq = W := ⟨_, rfl⟩
              have HW2 := Lib.hid (show ∃ q, w3 = w.drewN q by obtain ⟨q, hq⟩ := HW1.out; exact ⟨q + nq, by rw [← hw3, hq, World.drewN_drewN]⟩)
              rw [hw3, HPe.out]
              clear hw3 a4 a5 z1 z2 z3 f1 f2 f3 HW1
              have HW1 := HW2
              clear HW2
              have n7 : ¬ ((2 < p ∧ m ≠ -1 ∧ m ≠ -2) ∨ (p < -2 ∧ m ≠ 1 ∧ m ≠ 2)) := by have := HCL.out; omega
              go_upto_region 20 with fail
              go_cut [2, 6, 7, 8, 9, 10, 11, 179] from 145 to 179 (fun s2 s6 s7 s8 s9 s10 s11 c wx => s2 = .int .i64 (i : Int) ∧ s6 = .int .i64 0 ∧ s7 = .int .i64 v ∧ s8 = .int .i64 m ∧ s9 = .int .i64 gm ∧ s10 = .int .i64 u ∧ s11 = .int .i64 p ∧ c = .bool (decide ((2 < p ∧ m ≠ -1 ∧ m ≠ -2) ∨ (p < -2 ∧ m ≠ 1 ∧ m ≠ 2))) ∧ w3 = wx)
              case first =>
                by_cases q192 : 2 < p
                · have q192b0 : (decide (2 < p)) = true := decide_eq_true q192
                  have q192b1 : (decide (p < -2)) = false := decide_eq_false (by omega)
                  by_cases q193 : m = -1
                  · have q193b0 : (m != -1) = false := bne_eq_false_iff_eq.2 q193
                    first
                    | (exfalso; omega)
                    | (go_wp2_with fail; all_goals (try go_meet); all_goals exact ⟨(by first | rfl | exact congrArg (Value.int .i64) (by omega)), (by first | rfl | exact congrArg (Value.int .i64) (by omega)), (by first | rfl | exact congrArg (Value.int .i64) (by omega)), (by first | rfl | exact congrArg (Value.int .i64) (by omega)), (by first | rfl | exact congrArg (Value.int .i64) (by omega)), (by first | rfl | exact congrArg (Value.int .i64) (by omega)), (by first | rfl | exact congrArg (Value.int .i64) (by omega)), congrArg Value.bool (by first | exact (decide_eq_true (p := (2 < p ∧ m ≠ -1 ∧ m ≠ -2) ∨ (p < -2 ∧ m ≠ 1 ∧ m ≠ 2)) (by omega)).symm | exact (decide_eq_false (p := (2 < p ∧ m ≠ -1 ∧ m ≠ -2) ∨ (p < -2 ∧ m ≠ 1 ∧ m ≠ 2)) (by omega)).symm), rfl⟩)
                  · have q193b0 : (m != -1) = true := bne_iff_ne.2 q193
                    by_cases q194 : m = -2
                    · have q194b0 : (m != -2) = false := bne_eq_false_iff_eq.2 q194
                      first
                      | (exfalso; omega)
                      | (go_wp2_with fail; all_goals (try go_meet); all_goals exact ⟨(by first | rfl | exact congrArg (Value.int .i64) (by omega)), (by first | rfl | exact congrArg (Value.int .i64) (by omega)), (by first | rfl | exact congrArg (Value.int .i64) (by omega)), (by first | rfl | exact congrArg (Value.int .i64) (by omega)), (by first | rfl | exact congrArg (Value.int .i64) (by omega)), (by first | rfl | exact congrArg (Value.int .i64) (by omega)), (by first | rfl | exact congrArg (Value.int .i64) (by omega)), congrArg Value.bool (by first | exact (decide_eq_true (p := (2 < p ∧ m ≠ -1 ∧ m ≠ -2) ∨ (p < -2 ∧ m ≠ 1 ∧ m ≠ 2)) (by omega)).symm | exact (decide_eq_false (p := (2 < p ∧ m ≠ -1 ∧ m ≠ -2) ∨ (p < -2 ∧ m ≠ 1 ∧ m ≠ 2)) (by omega)).symm), rfl⟩)
                    · have q194b0 : (m != -2) = true := bne_iff_ne.2 q194
                      first
                      | (exfalso; omega)
                      | (go_wp2_with fail; all_goals (try go_meet); all_goals exact ⟨(by first | rfl | exact congrArg (Value.int .i64) (by omega)), (by first | rfl | exact congrArg (Value.int .i64) (by omega)), (by first | rfl | exact congrArg (Value.int .i64) (by omega)), (by first | rfl | exact congrArg (Value.int .i64) (by omega)), (by first | rfl | exact congrArg (Value.int .i64) (by omega)), (by first | rfl | exact congrArg (Value.int .i64) (by omega)), (by first | rfl | exact congrArg (Value.int .i64) (by omega)), congrArg Value.bool (by first | exact (decide_eq_true (p := (2 < p ∧ m ≠ -1 ∧ m ≠ -2) ∨ (p < -2 ∧ m ≠ 1 ∧ m ≠ 2)) (by omega)).symm | exact (decide_eq_false (p := (2 < p ∧ m ≠ -1 ∧ m ≠ -2) ∨ (p < -2 ∧ m ≠ 1 ∧ m ≠ 2)) (by omega)).symm), rfl⟩)
                · have q192b0 : (decide (2 < p)) = false := decide_eq_false q192
                  by_cases q195 : p < -2
                  · have q195b0 : (decide (p < -2)) = true := decide_eq_true q195
                    by_cases q196 : m = 1
                    · have q196b0 : (m != 1) = false := bne_eq_false_iff_eq.2 q196
                      first
                      | (exfalso; omega)
                      | (go_wp2_with fail; all_goals (try go_meet); all_goals exact ⟨(by first | rfl | exact congrArg (Value.int .i64) (by omega)), (by first | rfl | exact congrArg (Value.int .i64) (by omega)), (by first | rfl | exact congrArg (Value.int .i64) (by omega)), (by first | rfl | exact congrArg (Value.int .i64) (by omega)), (by first | rfl | exact congrArg (Value.int .i64) (by omega)), (by first | rfl | exact congrArg (Value.int .i64) (by omega)), (by first | rfl | exact congrArg (Value.int .i64) (by omega)), congrArg Value.bool (by first | exact (decide_eq_true (p := (2 < p ∧ m ≠ -1 ∧ m ≠ -2) ∨ (p < -2 ∧ m ≠ 1 ∧ m ≠ 2)) (by omega)).symm | exact (decide_eq_false (p := (2 < p ∧ m ≠ -1 ∧ m ≠ -2) ∨ (p < -2 ∧ m ≠ 1 ∧ m ≠ 2)) (by omega)).symm), rfl⟩)
                    · have q196b0 : (m != 1) = true := bne_iff_ne.2 q196
                      by_cases q197 : m = 2
                      · have q197b0 : (m != 2) = false := bne_eq_false_iff_eq.2 q197
                        first
                        | (exfalso; omega)
                        | (go_wp2_with fail; all_goals (try go_meet); all_goals exact ⟨(by first | rfl | exact congrArg (Value.int .i64) (by omega)), (by first | rfl | exact congrArg (Value.int .i64) (by omega)), (by first | rfl | exact congrArg (Value.int .i64) (by omega)), (by first | rfl | exact congrArg (Value.int .i64) (by omega)), (by first | rfl | exact congrArg (Value.int .i64) (by omega)), (by first | rfl | exact congrArg (Value.int .i64) (by omega)), (by first | rfl | exact congrArg (Value.int .i64) (by omega)), congrArg Value.bool (by first | exact (decide_eq_true (p := (2 < p ∧ m ≠ -1 ∧ m ≠ -2) ∨ (p < -2 ∧ m ≠ 1 ∧ m ≠ 2)) (by omega)).symm | exact (decide_eq_false (p := (2 < p ∧ m ≠ -1 ∧ m ≠ -2) ∨ (p < -2 ∧ m ≠ 1 ∧ m ≠ 2)) (by omega)).symm), rfl⟩)
                      · have q197b0 : (m != 2) = true := bne_iff_ne.2 q197
                        first
                        | (exfalso; omega)
                        | (go_wp2_with fail; all_goals (try go_meet); all_goals exact ⟨(by first | rfl | exact congrArg (Value.int .i64) (by omega)), (by first | rfl | exact congrArg (Value.int .i64) (by omega)), (by first | rfl | exact congrArg (Value.int .i64) (by omega)), (by first | rfl | exact congrArg (Value.int .i64) (by omega)), (by first | rfl | exact congrArg (Value.int .i64) (by omega)), (by first | rfl | exact congrArg (Value.int .i64) (by omega)), (by first | rfl | exact congrArg (Value.int .i64) (by omega)), congrArg Value.bool (by first | exact (decide_eq_true (p := (2 < p ∧ m ≠ -1 ∧ m ≠ -2) ∨ (p < -2 ∧ m ≠ 1 ∧ m ≠ 2)) (by omega)).symm | exact (decide_eq_false (p := (2 < p ∧ m ≠ -1 ∧ m ≠ -2) ∨ (p < -2 ∧ m ≠ 1 ∧ m ≠ 2)) (by omega)).symm), rfl⟩)
                  · have q195b0 : (decide (p < -2)) = false := decide_eq_false q195
                    first
                    | (exfalso; omega)
                    | (go_wp2_with fail; all_goals (try go_meet); all_goals exact ⟨(by first | rfl | exact congrArg (Value.int .i64) (by omega)), (by first | rfl | exact congrArg (Value.int .i64) (by omega)), (by first | rfl | exact congrArg (Value.int .i64) (by omega)), (by first | rfl | exact congrArg (Value.int .i64) (by omega)), (by first | rfl | exact congrArg (Value.int .i64) (by omega)), (by first | rfl | exact congrArg (Value.int .i64) (by omega)), (by first | rfl | exact congrArg (Value.int .i64) (by omega)), congrArg Value.bool (by first | exact (decide_eq_true (p := (2 < p ∧ m ≠ -1 ∧ m ≠ -2) ∨ (p < -2 ∧ m ≠ 1 ∧ m ≠ 2)) (by omega)).symm | exact (decide_eq_false (p := (2 < p ∧ m ≠ -1 ∧ m ≠ -2) ∨ (p < -2 ∧ m ≠ 1 ∧ m ≠ 2)) (by omega)).symm), rfl⟩)
              case rest =>
                obtain ⟨rfl, rfl, rfl, rfl, rfl, rfl, rfl, rfl, rfl⟩ := hcut
                have hd := decide_eq_false n7
                rw [hd]
                clear hd
                go_upto_region 22 with fail
                go_cut [2, 6, 7, 8, 9, 10, 11, 185] from 180 to 185 (fun s2 s6 s7 s8 s9 s10 s11 c wx => s2 = .int .i64 (i : Int) ∧ s6 = .int .i64 0 ∧ s7 = .int .i64 v ∧ s8 = .int .i64 m ∧ s9 = .int .i64 gm ∧ s10 = .int .i64 u ∧ s11 = .int .i64 p ∧ c = .bool (decide (p = 0 ∧ m = 0)) ∧ w3 = wx)
                case first =>
                  by_cases q198 : p = 0
                  · have q198b0 : (p == 0) = true := beq_iff_eq.2 q198
                    by_cases q199 : m = 0
                    · have q199b0 : (m == 0) = true := beq_iff_eq.2 q199
                      first
                      | (exfalso; omega)
                      | (go_wp2_with fail; all_goals (try go_meet); all_goals exact ⟨(by first | rfl | exact congrArg (Value.int .i64) (by omega)), (by first | rfl | exact congrArg (Value.int .i64) (by omega)), (by first | rfl | exact congrArg (Value.int .i64) (by omega)), (by first | rfl | exact congrArg (Value.int .i64) (by omega)), (by first | rfl | exact congrArg (Value.int .i64) (by omega)), (by first | rfl | exact congrArg (Value.int .i64) (by omega)), (by first | rfl | exact congrArg (Value.int .i64) (by omega)), congrArg Value.bool (by first | exact (decide_eq_true (p := p = 0 ∧ m = 0) (by omega)).symm | exact (decide_eq_false (p := p = 0 ∧ m = 0) (by omega)).symm), rfl⟩)
                    · have q199b0 : (m == 0) = false := beq_eq_false_iff_ne.2 q199
                      first
                      | (exfalso; omega)
                      | (go_wp2_with fail; all_goals (try go_meet); all_goals exact ⟨(by first | rfl | exact congrArg (Value.int .i64) (by omega)), (by first | rfl | exact congrArg (Value.int .i64) (by omega)), (by first | rfl | exact congrArg (Value.int .i64) (by omega)), (by first | rfl | exact congrArg (Value.int .i64) (by omega)), (by first | rfl | exact congrArg (Value.int .i64) (by omega)), (by first | rfl | exact congrArg (Value.int .i64) (by omega)), (by first | rfl | exact congrArg (Value.int .i64) (by omega)), congrArg Value.bool (by first | exact (decide_eq_true (p := p = 0 ∧ m = 0) (by omega)).symm | exact (decide_eq_false (p := p = 0 ∧ m = 0) (by omega)).symm), rfl⟩)
                  · have q198b0 : (p == 0) = false := beq_eq_false_iff_ne.2 q198
                    first
                    | (exfalso; omega)
                    | (go_wp2_with fail; all_goals (try go_meet); all_goals exact ⟨(by first | rfl | exact congrArg (Value.int .i64) (by omega)), (by first | rfl | exact congrArg (Value.int .i64) (by omega)), (by first | rfl | exact congrArg (Value.int .i64) (by omega)), (by first | rfl | exact congrArg (Value.int .i64) (by omega)), (by first | rfl | exact congrArg (Value.int .i64) (by omega)), (by first | rfl | exact congrArg (Value.int .i64) (by omega)), (by first | rfl | exact congrArg (Value.int .i64) (by omega)), congrArg Value.bool (by first | exact (decide_eq_true (p := p = 0 ∧ m = 0) (by omega)).symm | exact (decide_eq_false (p := p = 0 ∧ m = 0) (by omega)).symm), rfl⟩)
                case rest =>
                  obtain ⟨rfl, rfl, rfl, rfl, rfl, rfl, rfl, rfl, rfl⟩ := hcut
                  by_cases n8 : p = 0 ∧ m = 0
                  · have hd := decide_eq_true n8
                    rw [hd]
                    clear hd
                    go_wp2
                    go_ret
                    exact ⟨ret_int (by rw [← HBK.out]; unfold brk; rw [if_neg n1, if_neg n2, if_neg n3, if_neg n0, if_neg n4, if_neg n5, if_neg n6, if_neg n9, if_neg n7, if_pos n8]; rfl), HW1.out⟩
                  · have hd := decide_eq_false n8
                    rw [hd]
                    clear hd
                    go_wp2
                    go_ret
                    exact ⟨ret_int (by rw [← HBK.out]; unfold brk; rw [if_neg n1, if_neg n2, if_neg n3, if_neg n0, if_neg n4, if_neg n5, if_neg n6, if_neg n9, if_neg n7, if_neg n8]; rfl), HW1.out⟩

set_option maxHeartbeats 40000000 in
theorem RBr_8b (i Lg Ls : Nat) (x y x1 y1 y2 v rv ru m am p gm : Int) (b1 o1 c1 b2 o2 c2 : Nat) (w : World) (hi : i < Ls) (hig : i < Lg) (g8 : Lg ≤ 8) (nx : 0 ≤ x ∧ x ≤ 20) (ny : 0 ≤ y ∧ y ≤ 20) (nx1 : 0 ≤ x1 ∧ x1 ≤ 20) (ny1 : 0 ≤ y1 ∧ y1 ≤ 20) (ny2 : 0 ≤ y2 ∧ y2 ≤ 20)
    (a1 : w.cell? ⟨b1, o1 + i, none⟩ = some (.int .i64 x)) (a2 : w.cell? ⟨b2, o2 + i, none⟩ = some (.int .i64 y)) (a3 : w.cell? ⟨b1, o1 + (i - 1), none⟩ = some (.int .i64 x1)) (a4 : w.cell? ⟨b2, o2 + (i - 1), none⟩ = some (.int .i64 y1)) (a5 : w.cell? ⟨b2, o2 + (i - 1 - 1), none⟩ = some (.int .i64 y2))
    (hv : y - x = v) (hrv : v % 7 = rv) (hru : (y1 - x1) % 7 = ru) (hm : y - y1 = m) (ham : absI m = am) (hgm : x - x1 = gm) (hp : y1 - y2 = p) (hcl : ((((¬ (v < 0 ∨ 14 < v)) ∧ (¬ (¬ (rv = 0 ∨ rv = 4) ∧ rv ≠ 2 ∧ rv ≠ 5)) ∧ (¬ ((i + 1 = Lg ∧ rv ≠ 0) ∨ (i = 0 ∧ rv ≠ 0 ∧ rv ≠ 4))) ∧ (¬ (i = 0)) ∧ (¬ (4 < am ∧ am ≠ 7))) ∧ (¬ ((ru = 0 ∨ ru = 4) ∧ (rv = 0 ∨ rv = 4) ∧ ru = rv ∧ m ≠ 0)) ∧ (¬ ((rv = 0 ∨ rv = 4) ∧ ((0 < m ∧ 0 < gm) ∨ (m < 0 ∧ gm < 0)) ∧ am ≠ 1))) ∧ (¬ (i = 1)) ∧ (¬ ((2 < p ∧ m ≠ -1 ∧ m ≠ -2) ∨ (p < -2 ∧ m ≠ 1 ∧ m ≠ 2)))) ∧ (rv = 0 ∨ rv = 4) ∧ (p < -2)) :
    Calls Try.prog 85 #[.slice (some ⟨b1, o1, none⟩) Lg c1, .slice (some ⟨b2, o2, none⟩) Ls c2, .int .i64 (i : Int)] w fun e w' => e = .returned (.int .i64 (brk v rv ru m am p gm i Lg : Nat)) ∧ ∃ q, w' = w.drewN q := by
  have HCL := Lib.hid hcl
  clear hcl
  have HOv := Lib.hid (fun W => ropen_any v (by omega) W)
  have HOu := Lib.hid (fun W => ropen_any (y1 - x1) (by omega) W)
  have HSv := Lib.hid (fun W => rsort_any v (by omega) W)
  have HSu := Lib.hid (fun W => rsort_any (y1 - x1) (by omega) W)
  have HAm := Lib.hid (fun W => rabs_any m (by omega) W)
  rw [show openB v = decide (v % 7 = 0 ∨ v % 7 = 4) from rfl, hrv] at HOv
  rw [show openB (y1 - x1) = decide ((y1 - x1) % 7 = 0 ∨ (y1 - x1) % 7 = 4) from rfl, hru] at HOu
  rw [hrv] at HSv
  rw [hru] at HSu
  rw [ham] at HAm
  have HTv := Lib.hid (show 0 ≤ v → v.tmod 7 = rv from fun h => by rw [← hrv]; exact Int.tmod_eq_emod_of_nonneg h)
  have HVe := Lib.hid hv
  have HMe := Lib.hid hm
  have HGe := Lib.hid hgm
  have HPe := Lib.hid hp
  have hmb : -20 ≤ m ∧ m ≤ 20 := by omega
  have hpb : -20 ≤ p ∧ p ≤ 20 := by omega
  obtain ⟨u, hu⟩ : ∃ u, y1 - x1 = u := ⟨_, rfl⟩
  have HUe := Lib.hid hu
  rw [hu] at HOu HSu
  have hvb : -20 ≤ v ∧ v ≤ 20 := by omega
  clear hv hrv hru hm ham hgm hp hu
  obtain ⟨bk, hbk⟩ : ∃ bk, brk v rv ru m am p gm i Lg = bk := ⟨_, rfl⟩
  have HBK := Lib.hid hbk
  rw [hbk]
  clear hbk
  go_enter Try.func85, Try.ntmps85
  go_upto_region 1 with fail
  go_quiet (fail)
  obtain ⟨w1, hw1⟩ : ∃ W, w.drewN nq = W := ⟨_, rfl⟩
  have HW1 := Lib.hid (show ∃ q, w1 = w.drewN q from ⟨_, hw1.symm⟩)
  have k1 : ∀ a v, w.cell? a = some v → w1.cell? a = some v := fun a v e => by rw [← hw1]; exact e
  have a3 := k1 _ _ a3
  have a4 := k1 _ _ a4
  have a5 := k1 _ _ a5
  have a1 := k1 _ _ a1
  have a2 := k1 _ _ a2
  rw [hw1, HVe.out]
  clear hw1 k1
  have n1 : ¬ (v < 0 ∨ 14 < v) := by have := HCL.out; omega
  go_upto_region 2 with fail
  go_cut [2, 6, 7, 26] from 12 to 26 (fun s2 s6 s7 c wx => s2 = .int .i64 (i : Int) ∧ s6 = .int .i64 0 ∧ s7 = .int .i64 v ∧ c = .bool (decide (v < 0 ∨ 14 < v)) ∧ w1 = wx)
  case first =>
    by_cases q200 : v < 0
    · have q200b0 : (decide (v < 0)) = true := decide_eq_true q200
      first
      | (exfalso; omega)
      | (go_wp2_with fail; all_goals (try go_meet); all_goals exact ⟨(by first | rfl | exact congrArg (Value.int .i64) (by omega)), (by first | rfl | exact congrArg (Value.int .i64) (by omega)), (by first | rfl | exact congrArg (Value.int .i64) (by omega)), congrArg Value.bool (by first | exact (decide_eq_true (p := v < 0 ∨ 14 < v) (by omega)).symm | exact (decide_eq_false (p := v < 0 ∨ 14 < v) (by omega)).symm), rfl⟩)
    · have q200b0 : (decide (v < 0)) = false := decide_eq_false q200
      by_cases q201 : 14 < v
      · have q201b0 : (decide (14 < v)) = true := decide_eq_true q201
        first
        | (exfalso; omega)
        | (go_wp2_with fail; all_goals (try go_meet); all_goals exact ⟨(by first | rfl | exact congrArg (Value.int .i64) (by omega)), (by first | rfl | exact congrArg (Value.int .i64) (by omega)), (by first | rfl | exact congrArg (Value.int .i64) (by omega)), congrArg Value.bool (by first | exact (decide_eq_true (p := v < 0 ∨ 14 < v) (by omega)).symm | exact (decide_eq_false (p := v < 0 ∨ 14 < v) (by omega)).symm), rfl⟩)
      · have q201b0 : (decide (14 < v)) = false := decide_eq_false q201
        first
        | (exfalso; omega)
        | (go_wp2_with fail; all_goals (try go_meet); all_goals exact ⟨(by first | rfl | exact congrArg (Value.int .i64) (by omega)), (by first | rfl | exact congrArg (Value.int .i64) (by omega)), (by first | rfl | exact congrArg (Value.int .i64) (by omega)), congrArg Value.bool (by first | exact (decide_eq_true (p := v < 0 ∨ 14 < v) (by omega)).symm | exact (decide_eq_false (p := v < 0 ∨ 14 < v) (by omega)).symm), rfl⟩)
  case rest =>
    obtain ⟨rfl, rfl, rfl, rfl, rfl⟩ := hcut
    have hd := decide_eq_false n1
    rw [hd]
    clear hd
    have n2 : ¬ (¬ (rv = 0 ∨ rv = 4) ∧ rv ≠ 2 ∧ rv ≠ 5) := by have := HCL.out; omega
    go_upto_region 4 with fail
    go_cut [2, 6, 7, 39] from 27 to 39 (fun s2 s6 s7 c wx => s2 = .int .i64 (i : Int) ∧ s6 = .int .i64 0 ∧ s7 = .int .i64 v ∧ c = .bool (decide (¬ (rv = 0 ∨ rv = 4) ∧ rv ≠ 2 ∧ rv ≠ 5)) ∧ w1 = wx)
    case first =>
      by_cases q202 : rv = 0 ∨ rv = 4
      · have q202b0 : (decide (rv = 0 ∨ rv = 4)) = true := decide_eq_true q202
        first
        | (exfalso; omega)
        | (go_wp2_with fail; refine (HOv.out _).mono ?_; rintro e wz ⟨rfl, rfl⟩; go_wp2_with fail; all_goals (try go_meet); all_goals exact ⟨(by first | rfl | exact congrArg (Value.int .i64) (by omega)), (by first | rfl | exact congrArg (Value.int .i64) (by omega)), (by first | rfl | exact congrArg (Value.int .i64) (by omega)), congrArg Value.bool (by first | exact (decide_eq_true (p := ¬ (rv = 0 ∨ rv = 4) ∧ rv ≠ 2 ∧ rv ≠ 5) (by omega)).symm | exact (decide_eq_false (p := ¬ (rv = 0 ∨ rv = 4) ∧ rv ≠ 2 ∧ rv ≠ 5) (by omega)).symm), rfl⟩)
      · have q202b0 : (decide (rv = 0 ∨ rv = 4)) = false := decide_eq_false q202
        by_cases q203 : rv = 2
        · have q203b0 : (rv != 2) = false := bne_eq_false_iff_eq.2 q203
          first
          | (exfalso; omega)
          | (go_wp2_with fail; refine (HOv.out _).mono ?_; rintro e wz ⟨rfl, rfl⟩; go_wp2_with fail; refine (HSv.out _).mono ?_; rintro e wz ⟨rfl, rfl⟩; go_wp2_with fail; all_goals (try go_meet); all_goals exact ⟨(by first | rfl | exact congrArg (Value.int .i64) (by omega)), (by first | rfl | exact congrArg (Value.int .i64) (by omega)), (by first | rfl | exact congrArg (Value.int .i64) (by omega)), congrArg Value.bool (by first | exact (decide_eq_true (p := ¬ (rv = 0 ∨ rv = 4) ∧ rv ≠ 2 ∧ rv ≠ 5) (by omega)).symm | exact (decide_eq_false (p := ¬ (rv = 0 ∨ rv = 4) ∧ rv ≠ 2 ∧ rv ≠ 5) (by omega)).symm), rfl⟩)
        · have q203b0 : (rv != 2) = true := bne_iff_ne.2 q203
          by_cases q204 : rv = 5
          · have q204b0 : (rv != 5) = false := bne_eq_false_iff_eq.2 q204
            first
            | (exfalso; omega)
            | (go_wp2_with fail; refine (HOv.out _).mono ?_; rintro e wz ⟨rfl, rfl⟩; go_wp2_with fail; refine (HSv.out _).mono ?_; rintro e wz ⟨rfl, rfl⟩; go_wp2_with fail; refine (HSv.out _).mono ?_; rintro e wz ⟨rfl, rfl⟩; go_wp2_with fail; all_goals (try go_meet); all_goals exact ⟨(by first | rfl | exact congrArg (Value.int .i64) (by omega)), (by first | rfl | exact congrArg (Value.int .i64) (by omega)), (by first | rfl | exact congrArg (Value.int .i64) (by omega)), congrArg Value.bool (by first | exact (decide_eq_true (p := ¬ (rv = 0 ∨ rv = 4) ∧ rv ≠ 2 ∧ rv ≠ 5) (by omega)).symm | exact (decide_eq_false (p := ¬ (rv = 0 ∨ rv = 4) ∧ rv ≠ 2 ∧ rv ≠ 5) (by omega)).symm), rfl⟩)
          · have q204b0 : (rv != 5) = true := bne_iff_ne.2 q204
            first
            | (exfalso; omega)
            | (go_wp2_with fail; refine (HOv.out _).mono ?_; rintro e wz ⟨rfl, rfl⟩; go_wp2_with fail; refine (HSv.out _).mono ?_; rintro e wz ⟨rfl, rfl⟩; go_wp2_with fail; refine (HSv.out _).mono ?_; rintro e wz ⟨rfl, rfl⟩; go_wp2_with fail; all_goals (try go_meet); all_goals exact ⟨(by first | rfl | exact congrArg (Value.int .i64) (by omega)), (by first | rfl | exact congrArg (Value.int .i64) (by omega)), (by first | rfl | exact congrArg (Value.int .i64) (by omega)), congrArg Value.bool (by first | exact (decide_eq_true (p := ¬ (rv = 0 ∨ rv = 4) ∧ rv ≠ 2 ∧ rv ≠ 5) (by omega)).symm | exact (decide_eq_false (p := ¬ (rv = 0 ∨ rv = 4) ∧ rv ≠ 2 ∧ rv ≠ 5) (by omega)).symm), rfl⟩)
    case rest =>
      obtain ⟨rfl, rfl, rfl, rfl, rfl⟩ := hcut
      have hd := decide_eq_false n2
      rw [hd]
      clear hd
      have hv0 : 0 ≤ v := by omega
      have htv := HTv.out hv0
      have n3 : ¬ ((i + 1 = Lg ∧ rv ≠ 0) ∨ (i = 0 ∧ rv ≠ 0 ∧ rv ≠ 4)) := by have := HCL.out; omega
      go_upto_region 6 with fail
      go_cut [2, 6, 7, 63] from 40 to 63 (fun s2 s6 s7 c wx => s2 = .int .i64 (i : Int) ∧ s6 = .int .i64 0 ∧ s7 = .int .i64 v ∧ c = .bool (decide ((i + 1 = Lg ∧ rv ≠ 0) ∨ (i = 0 ∧ rv ≠ 0 ∧ rv ≠ 4))) ∧ w1 = wx)
      case first =>
        by_cases q205 : i + 1 = Lg
        · have q205b0 : ((i : Int) == (Lg : Int) - 1) = true := beq_iff_eq.2 (by omega)
          by_cases q206 : rv = 0
          · have q206b0 : (rv != 0) = false := bne_eq_false_iff_eq.2 q206
            by_cases q207 : i = 0
            · have q207b0 : ((i : Int) == 0) = true := beq_iff_eq.2 (by omega)
              first
              | (exfalso; omega)
              | (go_wp2_with fail; all_goals (try go_meet); all_goals exact ⟨(by first | rfl | exact congrArg (Value.int .i64) (by omega)), (by first | rfl | exact congrArg (Value.int .i64) (by omega)), (by first | rfl | exact congrArg (Value.int .i64) (by omega)), congrArg Value.bool (by first | exact (decide_eq_true (p := (i + 1 = Lg ∧ rv ≠ 0) ∨ (i = 0 ∧ rv ≠ 0 ∧ rv ≠ 4)) (by omega)).symm | exact (decide_eq_false (p := (i + 1 = Lg ∧ rv ≠ 0) ∨ (i = 0 ∧ rv ≠ 0 ∧ rv ≠ 4)) (by omega)).symm), rfl⟩)
            · have q207b0 : ((i : Int) == 0) = false := beq_eq_false_iff_ne.2 (by omega)
              first
              | (exfalso; omega)
              | (go_wp2_with fail; all_goals (try go_meet); all_goals exact ⟨(by first | rfl | exact congrArg (Value.int .i64) (by omega)), (by first | rfl | exact congrArg (Value.int .i64) (by omega)), (by first | rfl | exact congrArg (Value.int .i64) (by omega)), congrArg Value.bool (by first | exact (decide_eq_true (p := (i + 1 = Lg ∧ rv ≠ 0) ∨ (i = 0 ∧ rv ≠ 0 ∧ rv ≠ 4)) (by omega)).symm | exact (decide_eq_false (p := (i + 1 = Lg ∧ rv ≠ 0) ∨ (i = 0 ∧ rv ≠ 0 ∧ rv ≠ 4)) (by omega)).symm), rfl⟩)
          · have q206b0 : (rv != 0) = true := bne_iff_ne.2 q206
            first
            | (exfalso; omega)
            | (go_wp2_with fail; all_goals (try go_meet); all_goals exact ⟨(by first | rfl | exact congrArg (Value.int .i64) (by omega)), (by first | rfl | exact congrArg (Value.int .i64) (by omega)), (by first | rfl | exact congrArg (Value.int .i64) (by omega)), congrArg Value.bool (by first | exact (decide_eq_true (p := (i + 1 = Lg ∧ rv ≠ 0) ∨ (i = 0 ∧ rv ≠ 0 ∧ rv ≠ 4)) (by omega)).symm | exact (decide_eq_false (p := (i + 1 = Lg ∧ rv ≠ 0) ∨ (i = 0 ∧ rv ≠ 0 ∧ rv ≠ 4)) (by omega)).symm), rfl⟩)
        · have q205b0 : ((i : Int) == (Lg : Int) - 1) = false := beq_eq_false_iff_ne.2 (by omega)
          by_cases q208 : i = 0
          · have q208b0 : ((i : Int) == 0) = true := beq_iff_eq.2 (by omega)
            by_cases q209 : rv = 0
            · have q209b0 : (rv != 0) = false := bne_eq_false_iff_eq.2 q209
              first
              | (exfalso; omega)
              | (go_wp2_with fail; all_goals (try go_meet); all_goals exact ⟨(by first | rfl | exact congrArg (Value.int .i64) (by omega)), (by first | rfl | exact congrArg (Value.int .i64) (by omega)), (by first | rfl | exact congrArg (Value.int .i64) (by omega)), congrArg Value.bool (by first | exact (decide_eq_true (p := (i + 1 = Lg ∧ rv ≠ 0) ∨ (i = 0 ∧ rv ≠ 0 ∧ rv ≠ 4)) (by omega)).symm | exact (decide_eq_false (p := (i + 1 = Lg ∧ rv ≠ 0) ∨ (i = 0 ∧ rv ≠ 0 ∧ rv ≠ 4)) (by omega)).symm), rfl⟩)
            · have q209b0 : (rv != 0) = true := bne_iff_ne.2 q209
              by_cases q210 : rv = 4
              · have q210b0 : (rv != 4) = false := bne_eq_false_iff_eq.2 q210
                first
                | (exfalso; omega)
                | (go_wp2_with fail; all_goals (try go_meet); all_goals exact ⟨(by first | rfl | exact congrArg (Value.int .i64) (by omega)), (by first | rfl | exact congrArg (Value.int .i64) (by omega)), (by first | rfl | exact congrArg (Value.int .i64) (by omega)), congrArg Value.bool (by first | exact (decide_eq_true (p := (i + 1 = Lg ∧ rv ≠ 0) ∨ (i = 0 ∧ rv ≠ 0 ∧ rv ≠ 4)) (by omega)).symm | exact (decide_eq_false (p := (i + 1 = Lg ∧ rv ≠ 0) ∨ (i = 0 ∧ rv ≠ 0 ∧ rv ≠ 4)) (by omega)).symm), rfl⟩)
              · have q210b0 : (rv != 4) = true := bne_iff_ne.2 q210
                first
                | (exfalso; omega)
                | (go_wp2_with fail; all_goals (try go_meet); all_goals exact ⟨(by first | rfl | exact congrArg (Value.int .i64) (by omega)), (by first | rfl | exact congrArg (Value.int .i64) (by omega)), (by first | rfl | exact congrArg (Value.int .i64) (by omega)), congrArg Value.bool (by first | exact (decide_eq_true (p := (i + 1 = Lg ∧ rv ≠ 0) ∨ (i = 0 ∧ rv ≠ 0 ∧ rv ≠ 4)) (by omega)).symm | exact (decide_eq_false (p := (i + 1 = Lg ∧ rv ≠ 0) ∨ (i = 0 ∧ rv ≠ 0 ∧ rv ≠ 4)) (by omega)).symm), rfl⟩)
          · have q208b0 : ((i : Int) == 0) = false := beq_eq_false_iff_ne.2 (by omega)
            first
            | (exfalso; omega)
            | (go_wp2_with fail; all_goals (try go_meet); all_goals exact ⟨(by first | rfl | exact congrArg (Value.int .i64) (by omega)), (by first | rfl | exact congrArg (Value.int .i64) (by omega)), (by first | rfl | exact congrArg (Value.int .i64) (by omega)), congrArg Value.bool (by first | exact (decide_eq_true (p := (i + 1 = Lg ∧ rv ≠ 0) ∨ (i = 0 ∧ rv ≠ 0 ∧ rv ≠ 4)) (by omega)).symm | exact (decide_eq_false (p := (i + 1 = Lg ∧ rv ≠ 0) ∨ (i = 0 ∧ rv ≠ 0 ∧ rv ≠ 4)) (by omega)).symm), rfl⟩)
      case rest =>
        obtain ⟨rfl, rfl, rfl, rfl, rfl⟩ := hcut
        clear htv
        have hd := decide_eq_false n3
        rw [hd]
        clear hd
        have n0 : ¬ (i = 0) := by have := HCL.out; omega
        have hd : ((i : Int) == 0) = false := beq_eq_false_iff_ne.2 (by omega)
        have hi1 : 1 ≤ i := by omega
        obtain ⟨z1, z2, z3⟩ := idx1 hi1 (show i < 1000 by omega)
        go_upto_region 10 with fail
        go_quiet (fail)
        go_upto_region 11 with fail
        obtain ⟨w2, hw2⟩ : ∃ W, w1.drewN nq = W := ⟨_, rfl⟩
        have HW2 := Lib.hid (show ∃ q, w2 = w.drewN q by obtain ⟨q, hq⟩ := HW1.out; exact ⟨q + nq, by rw [← hw2, hq, World.drewN_drewN]⟩)
        have k2 : ∀ a v, w1.cell? a = some v → w2.cell? a = some v := fun a v e => by rw [← hw2]; exact e
        have a4 := k2 _ _ a4
        have a5 := k2 _ _ a5
        rw [hw2, HMe.out, HGe.out, HUe.out]
        clear hw2 k2 a1 a2 a3 z1 z2 z3 HW1
        have HW1 := HW2
        clear HW2
        have n4 : ¬ (4 < am ∧ am ≠ 7) := by have := HCL.out; omega
        go_upto_region 11 with fail
        go_cut [2, 6, 7, 8, 9, 10, 104] from 64 to 104 (fun s2 s6 s7 s8 s9 s10 c wx => s2 = .int .i64 (i : Int) ∧ s6 = .int .i64 0 ∧ s7 = .int .i64 v ∧ s8 = .int .i64 m ∧ s9 = .int .i64 gm ∧ s10 = .int .i64 u ∧ c = .bool (decide (4 < am ∧ am ≠ 7)) ∧ w2 = wx)
        case first =>
          by_cases q211 : 4 < am
          · have q211b0 : (decide (4 < am)) = true := decide_eq_true q211
            by_cases q212 : am = 7
            · have q212b0 : (am != 7) = false := bne_eq_false_iff_eq.2 q212
              first
              | (exfalso; omega)
              | (go_wp2_with fail; refine (HAm.out _).mono ?_; rintro e wz ⟨rfl, rfl⟩; go_wp2_with fail; refine (HAm.out _).mono ?_; rintro e wz ⟨rfl, rfl⟩; go_wp2_with fail; all_goals (try go_meet); all_goals exact ⟨(by first | rfl | exact congrArg (Value.int .i64) (by omega)), (by first | rfl | exact congrArg (Value.int .i64) (by omega)), (by first | rfl | exact congrArg (Value.int .i64) (by omega)), (by first | rfl | exact congrArg (Value.int .i64) (by omega)), (by first | rfl | exact congrArg (Value.int .i64) (by omega)), (by first | rfl | exact congrArg (Value.int .i64) (by omega)), congrArg Value.bool (by first | exact (decide_eq_true (p := 4 < am ∧ am ≠ 7) (by omega)).symm | exact (decide_eq_false (p := 4 < am ∧ am ≠ 7) (by omega)).symm), rfl⟩)
            · have q212b0 : (am != 7) = true := bne_iff_ne.2 q212
              first
              | (exfalso; omega)
              | (go_wp2_with fail; refine (HAm.out _).mono ?_; rintro e wz ⟨rfl, rfl⟩; go_wp2_with fail; refine (HAm.out _).mono ?_; rintro e wz ⟨rfl, rfl⟩; go_wp2_with fail; all_goals (try go_meet); all_goals exact ⟨(by first | rfl | exact congrArg (Value.int .i64) (by omega)), (by first | rfl | exact congrArg (Value.int .i64) (by omega)), (by first | rfl | exact congrArg (Value.int .i64) (by omega)), (by first | rfl | exact congrArg (Value.int .i64) (by omega)), (by first | rfl | exact congrArg (Value.int .i64) (by omega)), (by first | rfl | exact congrArg (Value.int .i64) (by omega)), congrArg Value.bool (by first | exact (decide_eq_true (p := 4 < am ∧ am ≠ 7) (by omega)).symm | exact (decide_eq_false (p := 4 < am ∧ am ≠ 7) (by omega)).symm), rfl⟩)
          · have q211b0 : (decide (4 < am)) = false := decide_eq_false q211
            first
            | (exfalso; omega)
            | (go_wp2_with fail; refine (HAm.out _).mono ?_; rintro e wz ⟨rfl, rfl⟩; go_wp2_with fail; all_goals (try go_meet); all_goals exact ⟨(by first | rfl | exact congrArg (Value.int .i64) (by omega)), (by first | rfl | exact congrArg (Value.int .i64) (by omega)), (by first | rfl | exact congrArg (Value.int .i64) (by omega)), (by first | rfl | exact congrArg (Value.int .i64) (by omega)), (by first | rfl | exact congrArg (Value.int .i64) (by omega)), (by first | rfl | exact congrArg (Value.int .i64) (by omega)), congrArg Value.bool (by first | exact (decide_eq_true (p := 4 < am ∧ am ≠ 7) (by omega)).symm | exact (decide_eq_false (p := 4 < am ∧ am ≠ 7) (by omega)).symm), rfl⟩)
        case rest =>
          obtain ⟨rfl, rfl, rfl, rfl, rfl, rfl, rfl, rfl⟩ := hcut
          have hd := decide_eq_false n4
          rw [hd]
          clear hd
          have n5 : ¬ ((ru = 0 ∨ ru = 4) ∧ (rv = 0 ∨ rv = 4) ∧ ru = rv ∧ m ≠ 0) := by have := HCL.out; omega
          go_upto_region 13 with fail
          go_cut [2, 6, 7, 8, 9, 10, 121] from 105 to 121 (fun s2 s6 s7 s8 s9 s10 c wx => s2 = .int .i64 (i : Int) ∧ s6 = .int .i64 0 ∧ s7 = .int .i64 v ∧ s8 = .int .i64 m ∧ s9 = .int .i64 gm ∧ s10 = .int .i64 u ∧ c = .bool (decide ((ru = 0 ∨ ru = 4) ∧ (rv = 0 ∨ rv = 4) ∧ ru = rv ∧ m ≠ 0)) ∧ w2 = wx)
          case first =>
            by_cases q213 : ru = 0 ∨ ru = 4
            · have q213b0 : (decide (ru = 0 ∨ ru = 4)) = true := decide_eq_true q213
              by_cases q214 : rv = 0 ∨ rv = 4
              · have q214b0 : (decide (rv = 0 ∨ rv = 4)) = true := decide_eq_true q214
                by_cases q215 : ru = rv
                · have q215b0 : (ru == rv) = true := beq_iff_eq.2 q215
                  by_cases q216 : m = 0
                  · have q216b0 : (m != 0) = false := bne_eq_false_iff_eq.2 q216
                    first
                    | (exfalso; omega)
                    | (go_wp2_with fail; refine (HOu.out _).mono ?_; rintro e wz ⟨rfl, rfl⟩; go_wp2_with fail; refine (HOv.out _).mono ?_; rintro e wz ⟨rfl, rfl⟩; go_wp2_with fail; refine (HSu.out _).mono ?_; rintro e wz ⟨rfl, rfl⟩; go_wp2_with fail; refine (HSv.out _).mono ?_; rintro e wz ⟨rfl, rfl⟩; go_wp2_with fail; all_goals (try go_meet); all_goals exact ⟨(by first | rfl | exact congrArg (Value.int .i64) (by omega)), (by first | rfl | exact congrArg (Value.int .i64) (by omega)), (by first | rfl | exact congrArg (Value.int .i64) (by omega)), (by first | rfl | exact congrArg (Value.int .i64) (by omega)), (by first | rfl | exact congrArg (Value.int .i64) (by omega)), (by first | rfl | exact congrArg (Value.int .i64) (by omega)), congrArg Value.bool (by first | exact (decide_eq_true (p := (ru = 0 ∨ ru = 4) ∧ (rv = 0 ∨ rv = 4) ∧ ru = rv ∧ m ≠ 0) (by omega)).symm | exact (decide_eq_false (p := (ru = 0 ∨ ru = 4) ∧ (rv = 0 ∨ rv = 4) ∧ ru = rv ∧ m ≠ 0) (by omega)).symm), rfl⟩)
                  · have q216b0 : (m != 0) = true := bne_iff_ne.2 q216
                    first
                    | (exfalso; omega)
                    | (go_wp2_with fail; refine (HOu.out _).mono ?_; rintro e wz ⟨rfl, rfl⟩; go_wp2_with fail; refine (HOv.out _).mono ?_; rintro e wz ⟨rfl, rfl⟩; go_wp2_with fail; refine (HSu.out _).mono ?_; rintro e wz ⟨rfl, rfl⟩; go_wp2_with fail; refine (HSv.out _).mono ?_; rintro e wz ⟨rfl, rfl⟩; go_wp2_with fail; all_goals (try go_meet); all_goals exact ⟨(by first | rfl | exact congrArg (Value.int .i64) (by omega)), (by first | rfl | exact congrArg (Value.int .i64) (by omega)), (by first | rfl | exact congrArg (Value.int .i64) (by omega)), (by first | rfl | exact congrArg (Value.int .i64) (by omega)), (by first | rfl | exact congrArg (Value.int .i64) (by omega)), (by first | rfl | exact congrArg (Value.int .i64) (by omega)), congrArg Value.bool (by first | exact (decide_eq_true (p := (ru = 0 ∨ ru = 4) ∧ (rv = 0 ∨ rv = 4) ∧ ru = rv ∧ m ≠ 0) (by omega)).symm | exact (decide_eq_false (p := (ru = 0 ∨ ru = 4) ∧ (rv = 0 ∨ rv = 4) ∧ ru = rv ∧ m ≠ 0) (by omega)).symm), rfl⟩)
                · have q215b0 : (ru == rv) = false := beq_eq_false_iff_ne.2 q215
                  first
                  | (exfalso; omega)
                  | (go_wp2_with fail; refine (HOu.out _).mono ?_; rintro e wz ⟨rfl, rfl⟩; go_wp2_with fail; refine (HOv.out _).mono ?_; rintro e wz ⟨rfl, rfl⟩; go_wp2_with fail; refine (HSu.out _).mono ?_; rintro e wz ⟨rfl, rfl⟩; go_wp2_with fail; refine (HSv.out _).mono ?_; rintro e wz ⟨rfl, rfl⟩; go_wp2_with fail; all_goals (try go_meet); all_goals exact ⟨(by first | rfl | exact congrArg (Value.int .i64) (by omega)), (by first | rfl | exact congrArg (Value.int .i64) (by omega)), (by first | rfl | exact congrArg (Value.int .i64) (by omega)), (by first | rfl | exact congrArg (Value.int .i64) (by omega)), (by first | rfl | exact congrArg (Value.int .i64) (by omega)), (by first | rfl | exact congrArg (Value.int .i64) (by omega)), congrArg Value.bool (by first | exact (decide_eq_true (p := (ru = 0 ∨ ru = 4) ∧ (rv = 0 ∨ rv = 4) ∧ ru = rv ∧ m ≠ 0) (by omega)).symm | exact (decide_eq_false (p := (ru = 0 ∨ ru = 4) ∧ (rv = 0 ∨ rv = 4) ∧ ru = rv ∧ m ≠ 0) (by omega)).symm), rfl⟩)
              · have q214b0 : (decide (rv = 0 ∨ rv = 4)) = false := decide_eq_false q214
                first
                | (exfalso; omega)
                | (go_wp2_with fail; refine (HOu.out _).mono ?_; rintro e wz ⟨rfl, rfl⟩; go_wp2_with fail; refine (HOv.out _).mono ?_; rintro e wz ⟨rfl, rfl⟩; go_wp2_with fail; all_goals (try go_meet); all_goals exact ⟨(by first | rfl | exact congrArg (Value.int .i64) (by omega)), (by first | rfl | exact congrArg (Value.int .i64) (by omega)), (by first | rfl | exact congrArg (Value.int .i64) (by omega)), (by first | rfl | exact congrArg (Value.int .i64) (by omega)), (by first | rfl | exact congrArg (Value.int .i64) (by omega)), (by first | rfl | exact congrArg (Value.int .i64) (by omega)), congrArg Value.bool (by first | exact (decide_eq_true (p := (ru = 0 ∨ ru = 4) ∧ (rv = 0 ∨ rv = 4) ∧ ru = rv ∧ m ≠ 0) (by omega)).symm | exact (decide_eq_false (p := (ru = 0 ∨ ru = 4) ∧ (rv = 0 ∨ rv = 4) ∧ ru = rv ∧ m ≠ 0) (by omega)).symm), rfl⟩)
            · have q213b0 : (decide (ru = 0 ∨ ru = 4)) = false := decide_eq_false q213
              first
              | (exfalso; omega)
              | (go_wp2_with fail; refine (HOu.out _).mono ?_; rintro e wz ⟨rfl, rfl⟩; go_wp2_with fail; all_goals (try go_meet); all_goals exact ⟨(by first | rfl | exact congrArg (Value.int .i64) (by omega)), (by first | rfl | exact congrArg (Value.int .i64) (by omega)), (by first | rfl | exact congrArg (Value.int .i64) (by omega)), (by first | rfl | exact congrArg (Value.int .i64) (by omega)), (by first | rfl | exact congrArg (Value.int .i64) (by omega)), (by first | rfl | exact congrArg (Value.int .i64) (by omega)), congrArg Value.bool (by first | exact (decide_eq_true (p := (ru = 0 ∨ ru = 4) ∧ (rv = 0 ∨ rv = 4) ∧ ru = rv ∧ m ≠ 0) (by omega)).symm | exact (decide_eq_false (p := (ru = 0 ∨ ru = 4) ∧ (rv = 0 ∨ rv = 4) ∧ ru = rv ∧ m ≠ 0) (by omega)).symm), rfl⟩)
          case rest =>
            obtain ⟨rfl, rfl, rfl, rfl, rfl, rfl, rfl, rfl⟩ := hcut
            have hd := decide_eq_false n5
            rw [hd]
            clear hd
            have n6 : ¬ ((rv = 0 ∨ rv = 4) ∧ ((0 < m ∧ 0 < gm) ∨ (m < 0 ∧ gm < 0)) ∧ am ≠ 1) := by have := HCL.out; omega
            go_upto_region 15 with fail
            go_cut [2, 6, 7, 8, 9, 10, 144] from 122 to 144 (fun s2 s6 s7 s8 s9 s10 c wx => s2 = .int .i64 (i : Int) ∧ s6 = .int .i64 0 ∧ s7 = .int .i64 v ∧ s8 = .int .i64 m ∧ s9 = .int .i64 gm ∧ s10 = .int .i64 u ∧ c = .bool (decide ((rv = 0 ∨ rv = 4) ∧ ((0 < m ∧ 0 < gm) ∨ (m < 0 ∧ gm < 0)) ∧ am ≠ 1)) ∧ w2 = wx)
            case first =>
              by_cases q217 : rv = 0 ∨ rv = 4
              · have q217b0 : (decide (rv = 0 ∨ rv = 4)) = true := decide_eq_true q217
                by_cases q218 : 0 < m
                · have q218b0 : (decide (0 < m)) = true := decide_eq_true q218
                  have q218b1 : (decide (m < 0)) = false := decide_eq_false (by omega)
                  by_cases q219 : 0 < gm
                  · have q219b0 : (decide (0 < gm)) = true := decide_eq_true q219
                    by_cases q220 : am = 1
                    · have q220b0 : (am != 1) = false := bne_eq_false_iff_eq.2 q220
                      first
                      | (exfalso; omega)
                      | (go_wp2_with fail; refine (HOv.out _).mono ?_; rintro e wz ⟨rfl, rfl⟩; go_wp2_with fail; refine (HAm.out _).mono ?_; rintro e wz ⟨rfl, rfl⟩; go_wp2_with fail; all_goals (try go_meet); all_goals exact ⟨(by first | rfl | exact congrArg (Value.int .i64) (by omega)), (by first | rfl | exact congrArg (Value.int .i64) (by omega)), (by first | rfl | exact congrArg (Value.int .i64) (by omega)), (by first | rfl | exact congrArg (Value.int .i64) (by omega)), (by first | rfl | exact congrArg (Value.int .i64) (by omega)), (by first | rfl | exact congrArg (Value.int .i64) (by omega)), congrArg Value.bool (by first | exact (decide_eq_true (p := (rv = 0 ∨ rv = 4) ∧ ((0 < m ∧ 0 < gm) ∨ (m < 0 ∧ gm < 0)) ∧ am ≠ 1) (by omega)).symm | exact (decide_eq_false (p := (rv = 0 ∨ rv = 4) ∧ ((0 < m ∧ 0 < gm) ∨ (m < 0 ∧ gm < 0)) ∧ am ≠ 1) (by omega)).symm), rfl⟩)
                    · have q220b0 : (am != 1) = true := bne_iff_ne.2 q220
                      first
                      | (exfalso; omega)
                      | (go_wp2_with fail; refine (HOv.out _).mono ?_; rintro e wz ⟨rfl, rfl⟩; go_wp2_with fail; refine (HAm.out _).mono ?_; rintro e wz ⟨rfl, rfl⟩; go_wp2_with fail; all_goals (try go_meet); all_goals exact ⟨(by first | rfl | exact congrArg (Value.int .i64) (by omega)), (by first | rfl | exact congrArg (Value.int .i64) (by omega)), (by first | rfl | exact congrArg (Value.int .i64) (by omega)), (by first | rfl | exact congrArg (Value.int .i64) (by omega)), (by first | rfl | exact congrArg (Value.int .i64) (by omega)), (by first | rfl | exact congrArg (Value.int .i64) (by omega)), congrArg Value.bool (by first | exact (decide_eq_true (p := (rv = 0 ∨ rv = 4) ∧ ((0 < m ∧ 0 < gm) ∨ (m < 0 ∧ gm < 0)) ∧ am ≠ 1) (by omega)).symm | exact (decide_eq_false (p := (rv = 0 ∨ rv = 4) ∧ ((0 < m ∧ 0 < gm) ∨ (m < 0 ∧ gm < 0)) ∧ am ≠ 1) (by omega)).symm), rfl⟩)
                  · have q219b0 : (decide (0 < gm)) = false := decide_eq_false q219
                    first
                    | (exfalso; omega)
                    | (go_wp2_with fail; refine (HOv.out _).mono ?_; rintro e wz ⟨rfl, rfl⟩; go_wp2_with fail; all_goals (try go_meet); all_goals exact ⟨(by first | rfl | exact congrArg (Value.int .i64) (by omega)), (by first | rfl | exact congrArg (Value.int .i64) (by omega)), (by first | rfl | exact congrArg (Value.int .i64) (by omega)), (by first | rfl | exact congrArg (Value.int .i64) (by omega)), (by first | rfl | exact congrArg (Value.int .i64) (by omega)), (by first | rfl | exact congrArg (Value.int .i64) (by omega)), congrArg Value.bool (by first | exact (decide_eq_true (p := (rv = 0 ∨ rv = 4) ∧ ((0 < m ∧ 0 < gm) ∨ (m < 0 ∧ gm < 0)) ∧ am ≠ 1) (by omega)).symm | exact (decide_eq_false (p := (rv = 0 ∨ rv = 4) ∧ ((0 < m ∧ 0 < gm) ∨ (m < 0 ∧ gm < 0)) ∧ am ≠ 1) (by omega)).symm), rfl⟩)
                · have q218b0 : (decide (0 < m)) = false := decide_eq_false q218
                  by_cases q221 : m < 0
                  · have q221b0 : (decide (m < 0)) = true := decide_eq_true q221
                    by_cases q222 : gm < 0
                    · have q222b0 : (decide (gm < 0)) = true := decide_eq_true q222
                      by_cases q223 : am = 1
                      · have q223b0 : (am != 1) = false := bne_eq_false_iff_eq.2 q223
                        first
                        | (exfalso; omega)
                        | (go_wp2_with fail; refine (HOv.out _).mono ?_; rintro e wz ⟨rfl, rfl⟩; go_wp2_with fail; refine (HAm.out _).mono ?_; rintro e wz ⟨rfl, rfl⟩; go_wp2_with fail; all_goals (try go_meet); all_goals exact ⟨(by first | rfl | exact congrArg (Value.int .i64) (by omega)), (by first | rfl | exact congrArg (Value.int .i64) (by omega)), (by first | rfl | exact congrArg (Value.int .i64) (by omega)), (by first | rfl | exact congrArg (Value.int .i64) (by omega)), (by first | rfl | exact congrArg (Value.int .i64) (by omega)), (by first | rfl | exact congrArg (Value.int .i64) (by omega)), congrArg Value.bool (by first | exact (decide_eq_true (p := (rv = 0 ∨ rv = 4) ∧ ((0 < m ∧ 0 < gm) ∨ (m < 0 ∧ gm < 0)) ∧ am ≠ 1) (by omega)).symm | exact (decide_eq_false (p := (rv = 0 ∨ rv = 4) ∧ ((0 < m ∧ 0 < gm) ∨ (m < 0 ∧ gm < 0)) ∧ am ≠ 1) (by omega)).symm), rfl⟩)
                      · have q223b0 : (am != 1) = true := bne_iff_ne.2 q223
                        first
                        | (exfalso; omega)
                        | (go_wp2_with fail; refine (HOv.out _).mono ?_; rintro e wz ⟨rfl, rfl⟩; go_wp2_with fail; refine (HAm.out _).mono ?_; rintro e wz ⟨rfl, rfl⟩; go_wp2_with fail; all_goals (try go_meet); all_goals exact ⟨(by first | rfl | exact congrArg (Value.int .i64) (by omega)), (by first | rfl | exact congrArg (Value.int .i64) (by omega)), (by first | rfl | exact congrArg (Value.int .i64) (by omega)), (by first | rfl | exact congrArg (Value.int .i64) (by omega)), (by first | rfl | exact congrArg (Value.int .i64) (by omega)), (by first | rfl | exact congrArg (Value.int .i64) (by omega)), congrArg Value.bool (by first | exact (decide_eq_true (p := (rv = 0 ∨ rv = 4) ∧ ((0 < m ∧ 0 < gm) ∨ (m < 0 ∧ gm < 0)) ∧ am ≠ 1) (by omega)).symm | exact (decide_eq_false (p := (rv = 0 ∨ rv = 4) ∧ ((0 < m ∧ 0 < gm) ∨ (m < 0 ∧ gm < 0)) ∧ am ≠ 1) (by omega)).symm), rfl⟩)
                    · have q222b0 : (decide (gm < 0)) = false := decide_eq_false q222
                      first
                      | (exfalso; omega)
                      | (go_wp2_with fail; refine (HOv.out _).mono ?_; rintro e wz ⟨rfl, rfl⟩; go_wp2_with fail; all_goals (try go_meet); all_goals exact ⟨(by first | rfl | exact congrArg (Value.int .i64) (by omega)), (by first | rfl | exact congrArg (Value.int .i64) (by omega)), (by first | rfl | exact congrArg (Value.int .i64) (by omega)), (by first | rfl | exact congrArg (Value.int .i64) (by omega)), (by first | rfl | exact congrArg (Value.int .i64) (by omega)), (by first | rfl | exact congrArg (Value.int .i64) (by omega)), congrArg Value.bool (by first | exact (decide_eq_true (p := (rv = 0 ∨ rv = 4) ∧ ((0 < m ∧ 0 < gm) ∨ (m < 0 ∧ gm < 0)) ∧ am ≠ 1) (by omega)).symm | exact (decide_eq_false (p := (rv = 0 ∨ rv = 4) ∧ ((0 < m ∧ 0 < gm) ∨ (m < 0 ∧ gm < 0)) ∧ am ≠ 1) (by omega)).symm), rfl⟩)
                  · have q221b0 : (decide (m < 0)) = false := decide_eq_false q221
                    first
                    | (exfalso; omega)
                    | (go_wp2_with fail; refine (HOv.out _).mono ?_; rintro e wz ⟨rfl, rfl⟩; go_wp2_with fail; all_goals (try go_meet); all_goals exact ⟨(by first | rfl | exact congrArg (Value.int .i64) (by omega)), (by first | rfl | exact congrArg (Value.int .i64) (by omega)), (by first | rfl | exact congrArg (Value.int .i64) (by omega)), (by first | rfl | exact congrArg (Value.int .i64) (by omega)), (by first | rfl | exact congrArg (Value.int .i64) (by omega)), (by first | rfl | exact congrArg (Value.int .i64) (by omega)), congrArg Value.bool (by first | exact (decide_eq_true (p := (rv = 0 ∨ rv = 4) ∧ ((0 < m ∧ 0 < gm) ∨ (m < 0 ∧ gm < 0)) ∧ am ≠ 1) (by omega)).symm | exact (decide_eq_false (p := (rv = 0 ∨ rv = 4) ∧ ((0 < m ∧ 0 < gm) ∨ (m < 0 ∧ gm < 0)) ∧ am ≠ 1) (by omega)).symm), rfl⟩)
              · have q217b0 : (decide (rv = 0 ∨ rv = 4)) = false := decide_eq_false q217
                first
                | (exfalso; omega)
                | (go_wp2_with fail; refine (HOv.out _).mono ?_; rintro e wz ⟨rfl, rfl⟩; go_wp2_with fail; all_goals (try go_meet); all_goals exact ⟨(by first | rfl | exact congrArg (Value.int .i64) (by omega)), (by first | rfl | exact congrArg (Value.int .i64) (by omega)), (by first | rfl | exact congrArg (Value.int .i64) (by omega)), (by first | rfl | exact congrArg (Value.int .i64) (by omega)), (by first | rfl | exact congrArg (Value.int .i64) (by omega)), (by first | rfl | exact congrArg (Value.int .i64) (by omega)), congrArg Value.bool (by first | exact (decide_eq_true (p := (rv = 0 ∨ rv = 4) ∧ ((0 < m ∧ 0 < gm) ∨ (m < 0 ∧ gm < 0)) ∧ am ≠ 1) (by omega)).symm | exact (decide_eq_false (p := (rv = 0 ∨ rv = 4) ∧ ((0 < m ∧ 0 < gm) ∨ (m < 0 ∧ gm < 0)) ∧ am ≠ 1) (by omega)).symm), rfl⟩)
            case rest =>
              obtain ⟨rfl, rfl, rfl, rfl, rfl, rfl, rfl, rfl⟩ := hcut
              have hd := decide_eq_false n6
              rw [hd]
              clear hd
              have n9 : ¬ (i = 1) := by have := HCL.out; omega
              have hd : ((i : Int) == 1) = false := beq_eq_false_iff_ne.2 (by omega)
              have hi2 : 2 ≤ i := by omega
              have hi1000 : i < 1000 := by omega
              have z0 : i - 1 - 1 = i - 2 := by omega
              rw [z0] at a5
              clear z0
              obtain ⟨z1, z2, z3⟩ := idx1 hi1 hi1000
              obtain ⟨f1, f2, f3⟩ := idx2 hi2 hi1000
              go_upto_region 19 with fail
              go_quiet (fail)
              go_upto_region 20 with fail
              obtain ⟨w3, hw3⟩ : ∃ W, w2.drewN nq = W := ⟨_, rfl⟩
              have HW2 := Lib.hid (show ∃ q, w3 = w.drewN q by obtain ⟨q, hq⟩ := HW1.out; exact ⟨q + nq, by rw [← hw3, hq, World.drewN_drewN]⟩)
              rw [hw3, HPe.out]
              clear hw3 a4 a5 z1 z2 z3 f1 f2 f3 HW1
              have HW1 := HW2
              clear HW2
              have n7 : ¬ ((2 < p ∧ m ≠ -1 ∧ m ≠ -2) ∨ (p < -2 ∧ m ≠ 1 ∧ m ≠ 2)) := by have := HCL.out; omega
              go_upto_region 20 with fail
              go_cut [2, 6, 7, 8, 9, 10, 11, 179] from 145 to 179 (fun s2 s6 s7 s8 s9 s10 s11 c wx => s2 = .int .i64 (i : Int) ∧ s6 = .int .i64 0 ∧ s7 = .int .i64 v ∧ s8 = .int .i64 m ∧ s9 = .int .i64 gm ∧ s10 = .int .i64 u ∧ s11 = .int .i64 p ∧ c = .bool (decide ((2 < p ∧ m ≠ -1 ∧ m ≠ -2) ∨ (p < -2 ∧ m ≠ 1 ∧ m ≠ 2))) ∧ w3 = wx)
              case first =>
                by_cases q224 : 2 < p
                · have q224b0 : (decide (2 < p)) = true := decide_eq_true q224
                  have q224b1 : (decide (p < -2)) = false := decide_eq_false (by omega)
                  by_cases q225 : m = -1
                  · have q225b0 : (m != -1) = false := bne_eq_false_iff_eq.2 q225
                    first
                    | (exfalso; omega)
                    | (go_wp2_with fail; all_goals (try go_meet); all_goals exact ⟨(by first | rfl | exact congrArg (Value.int .i64) (by omega)), (by first | rfl | exact congrArg (Value.int .i64) (by omega)), (by first | rfl | exact congrArg (Value.int .i64) (by omega)), (by first | rfl | exact congrArg (Value.int .i64) (by omega)), (by first | rfl | exact congrArg (Value.int .i64) (by omega)), (by first | rfl | exact congrArg (Value.int .i64) (by omega)), (by first | rfl | exact congrArg (Value.int .i64) (by omega)), congrArg Value.bool (by first | exact (decide_eq_true (p := (2 < p ∧ m ≠ -1 ∧ m ≠ -2) ∨ (p < -2 ∧ m ≠ 1 ∧ m ≠ 2)) (by omega)).symm | exact (decide_eq_false (p := (2 < p ∧ m ≠ -1 ∧ m ≠ -2) ∨ (p < -2 ∧ m ≠ 1 ∧ m ≠ 2)) (by omega)).symm), rfl⟩)
                  · have q225b0 : (m != -1) = true := bne_iff_ne.2 q225
                    by_cases q226 : m = -2
                    · have q226b0 : (m != -2) = false := bne_eq_false_iff_eq.2 q226
                      first
                      | (exfalso; omega)
                      | (go_wp2_with fail; all_goals (try go_meet); all_goals exact ⟨(by first | rfl | exact congrArg (Value.int .i64) (by omega)), (by first | rfl | exact congrArg (Value.int .i64) (by omega)), (by first | rfl | exact congrArg (Value.int .i64) (by omega)), (by first | rfl | exact congrArg (Value.int .i64) (by omega)), (by first | rfl | exact congrArg (Value.int .i64) (by omega)), (by first | rfl | exact congrArg (Value.int .i64) (by omega)), (by first | rfl | exact congrArg (Value.int .i64) (by omega)), congrArg Value.bool (by first | exact (decide_eq_true (p := (2 < p ∧ m ≠ -1 ∧ m ≠ -2) ∨ (p < -2 ∧ m ≠ 1 ∧ m ≠ 2)) (by omega)).symm | exact (decide_eq_false (p := (2 < p ∧ m ≠ -1 ∧ m ≠ -2) ∨ (p < -2 ∧ m ≠ 1 ∧ m ≠ 2)) (by omega)).symm), rfl⟩)
                    · have q226b0 : (m != -2) = true := bne_iff_ne.2 q226
                      first
                      | (exfalso; omega)
                      | (go_wp2_with fail; all_goals (try go_meet); all_goals exact ⟨(by first | rfl | exact congrArg (Value.int .i64) (by omega)), (by first | rfl | exact congrArg (Value.int .i64) (by omega)), (by first | rfl | exact congrArg (Value.int .i64) (by omega)), (by first | rfl | exact congrArg (Value.int .i64) (by omega)), (by first | rfl | exact congrArg (Value.int .i64) (by omega)), (by first | rfl | exact congrArg (Value.int .i64) (by omega)), (by first | rfl | exact congrArg (Value.int .i64) (by omega)), congrArg Value.bool (by first | exact (decide_eq_true (p := (2 < p ∧ m ≠ -1 ∧ m ≠ -2) ∨ (p < -2 ∧ m ≠ 1 ∧ m ≠ 2)) (by omega)).symm | exact (decide_eq_false (p := (2 < p ∧ m ≠ -1 ∧ m ≠ -2) ∨ (p < -2 ∧ m ≠ 1 ∧ m ≠ 2)) (by omega)).symm), rfl⟩)
                · have q224b0 : (decide (2 < p)) = false := decide_eq_false q224
                  by_cases q227 : p < -2
                  · have q227b0 : (decide (p < -2)) = true := decide_eq_true q227
                    by_cases q228 : m = 1
                    · have q228b0 : (m != 1) = false := bne_eq_false_iff_eq.2 q228
                      first
                      | (exfalso; omega)
                      | (go_wp2_with fail; all_goals (try go_meet); all_goals exact ⟨(by first | rfl | exact congrArg (Value.int .i64) (by omega)), (by first | rfl | exact congrArg (Value.int .i64) (by omega)), (by first | rfl | exact congrArg (Value.int .i64) (by omega)), (by first | rfl | exact congrArg (Value.int .i64) (by omega)), (by first | rfl | exact congrArg (Value.int .i64) (by omega)), (by first | rfl | exact congrArg (Value.int .i64) (by omega)), (by first | rfl | exact congrArg (Value.int .i64) (by omega)), congrArg Value.bool (by first | exact (decide_eq_true (p := (2 < p ∧ m ≠ -1 ∧ m ≠ -2) ∨ (p < -2 ∧ m ≠ 1 ∧ m ≠ 2)) (by omega)).symm | exact (decide_eq_false (p := (2 < p ∧ m ≠ -1 ∧ m ≠ -2) ∨ (p < -2 ∧ m ≠ 1 ∧ m ≠ 2)) (by omega)).symm), rfl⟩)
                    · have q228b0 : (m != 1) = true := bne_iff_ne.2 q228
                      by_cases q229 : m = 2
                      · have q229b0 : (m != 2) = false := bne_eq_false_iff_eq.2 q229
                        first
                        | (exfalso; omega)
                        | (go_wp2_with fail; all_goals (try go_meet); all_goals exact ⟨(by first | rfl | exact congrArg (Value.int .i64) (by omega)), (by first | rfl | exact congrArg (Value.int .i64) (by omega)), (by first | rfl | exact congrArg (Value.int .i64) (by omega)), (by first | rfl | exact congrArg (Value.int .i64) (by omega)), (by first | rfl | exact congrArg (Value.int .i64) (by omega)), (by first | rfl | exact congrArg (Value.int .i64) (by omega)), (by first | rfl | exact congrArg (Value.int .i64) (by omega)), congrArg Value.bool (by first | exact (decide_eq_true (p := (2 < p ∧ m ≠ -1 ∧ m ≠ -2) ∨ (p < -2 ∧ m ≠ 1 ∧ m ≠ 2)) (by omega)).symm | exact (decide_eq_false (p := (2 < p ∧ m ≠ -1 ∧ m ≠ -2) ∨ (p < -2 ∧ m ≠ 1 ∧ m ≠ 2)) (by omega)).symm), rfl⟩)
                      · have q229b0 : (m != 2) = true := bne_iff_ne.2 q229
                        first
                        | (exfalso; omega)
                        | (go_wp2_with fail; all_goals (try go_meet); all_goals exact ⟨(by first | rfl | exact congrArg (Value.int .i64) (by omega)), (by first | rfl | exact congrArg (Value.int .i64) (by omega)), (by first | rfl | exact congrArg (Value.int .i64) (by omega)), (by first | rfl | exact congrArg (Value.int .i64) (by omega)), (by first | rfl | exact congrArg (Value.int .i64) (by omega)), (by first | rfl | exact congrArg (Value.int .i64) (by omega)), (by first | rfl | exact congrArg (Value.int .i64) (by omega)), congrArg Value.bool (by first | exact (decide_eq_true (p := (2 < p ∧ m ≠ -1 ∧ m ≠ -2) ∨ (p < -2 ∧ m ≠ 1 ∧ m ≠ 2)) (by omega)).symm | exact (decide_eq_false (p := (2 < p ∧ m ≠ -1 ∧ m ≠ -2) ∨ (p < -2 ∧ m ≠ 1 ∧ m ≠ 2)) (by omega)).symm), rfl⟩)
                  · have q227b0 : (decide (p < -2)) = false := decide_eq_false q227
                    first
                    | (exfalso; omega)
                    | (go_wp2_with fail; all_goals (try go_meet); all_goals exact ⟨(by first | rfl | exact congrArg (Value.int .i64) (by omega)), (by first | rfl | exact congrArg (Value.int .i64) (by omega)), (by first | rfl | exact congrArg (Value.int .i64) (by omega)), (by first | rfl | exact congrArg (Value.int .i64) (by omega)), (by first | rfl | exact congrArg (Value.int .i64) (by omega)), (by first | rfl | exact congrArg (Value.int .i64) (by omega)), (by first | rfl | exact congrArg (Value.int .i64) (by omega)), congrArg Value.bool (by first | exact (decide_eq_true (p := (2 < p ∧ m ≠ -1 ∧ m ≠ -2) ∨ (p < -2 ∧ m ≠ 1 ∧ m ≠ 2)) (by omega)).symm | exact (decide_eq_false (p := (2 < p ∧ m ≠ -1 ∧ m ≠ -2) ∨ (p < -2 ∧ m ≠ 1 ∧ m ≠ 2)) (by omega)).symm), rfl⟩)
              case rest =>
                obtain ⟨rfl, rfl, rfl, rfl, rfl, rfl, rfl, rfl, rfl⟩ := hcut
                have hd := decide_eq_false n7
                rw [hd]
                clear hd
                go_upto_region 22 with fail
                go_cut [2, 6, 7, 8, 9, 10, 11, 185] from 180 to 185 (fun s2 s6 s7 s8 s9 s10 s11 c wx => s2 = .int .i64 (i : Int) ∧ s6 = .int .i64 0 ∧ s7 = .int .i64 v ∧ s8 = .int .i64 m ∧ s9 = .int .i64 gm ∧ s10 = .int .i64 u ∧ s11 = .int .i64 p ∧ c = .bool (decide (p = 0 ∧ m = 0)) ∧ w3 = wx)
                case first =>
                  by_cases q230 : p = 0
                  · have q230b0 : (p == 0) = true := beq_iff_eq.2 q230
                    by_cases q231 : m = 0
                    · have q231b0 : (m == 0) = true := beq_iff_eq.2 q231
                      first
                      | (exfalso; omega)
                      | (go_wp2_with fail; all_goals (try go_meet); all_goals exact ⟨(by first | rfl | exact congrArg (Value.int .i64) (by omega)), (by first | rfl | exact congrArg (Value.int .i64) (by omega)), (by first | rfl | exact congrArg (Value.int .i64) (by omega)), (by first | rfl | exact congrArg (Value.int .i64) (by omega)), (by first | rfl | exact congrArg (Value.int .i64) (by omega)), (by first | rfl | exact congrArg (Value.int .i64) (by omega)), (by first | rfl | exact congrArg (Value.int .i64) (by omega)), congrArg Value.bool (by first | exact (decide_eq_true (p := p = 0 ∧ m = 0) (by omega)).symm | exact (decide_eq_false (p := p = 0 ∧ m = 0) (by omega)).symm), rfl⟩)
                    · have q231b0 : (m == 0) = false := beq_eq_false_iff_ne.2 q231
                      first
                      | (exfalso; omega)
                      | (go_wp2_with fail; all_goals (try go_meet); all_goals exact ⟨(by first | rfl | exact congrArg (Value.int .i64) (by omega)), (by first | rfl | exact congrArg (Value.int .i64) (by omega)), (by first | rfl | exact congrArg (Value.int .i64) (by omega)), (by first | rfl | exact congrArg (Value.int .i64) (by omega)), (by first | rfl | exact congrArg (Value.int .i64) (by omega)), (by first | rfl | exact congrArg (Value.int .i64) (by omega)), (by first | rfl | exact congrArg (Value.int .i64) (by omega)), congrArg Value.bool (by first | exact (decide_eq_true (p := p = 0 ∧ m = 0) (by omega)).symm | exact (decide_eq_false (p := p = 0 ∧ m = 0) (by omega)).symm), rfl⟩)
                  · have q230b0 : (p == 0) = false := beq_eq_false_iff_ne.2 q230
                    first
                    | (exfalso; omega)
                    | (go_wp2_with fail; all_goals (try go_meet); all_goals exact ⟨(by first | rfl | exact congrArg (Value.int .i64) (by omega)), (by first | rfl | exact congrArg (Value.int .i64) (by omega)), (by first | rfl | exact congrArg (Value.int .i64) (by omega)), (by first | rfl | exact congrArg (Value.int .i64) (by omega)), (by first | rfl | exact congrArg (Value.int .i64) (by omega)), (by first | rfl | exact congrArg (Value.int .i64) (by omega)), (by first | rfl | exact congrArg (Value.int .i64) (by omega)), congrArg Value.bool (by first | exact (decide_eq_true (p := p = 0 ∧ m = 0) (by omega)).symm | exact (decide_eq_false (p := p = 0 ∧ m = 0) (by omega)).symm), rfl⟩)
                case rest =>
                  obtain ⟨rfl, rfl, rfl, rfl, rfl, rfl, rfl, rfl, rfl⟩ := hcut
                  by_cases n8 : p = 0 ∧ m = 0
                  · have hd := decide_eq_true n8
                    rw [hd]
                    clear hd
                    go_wp2
                    go_ret
                    exact ⟨ret_int (by rw [← HBK.out]; unfold brk; rw [if_neg n1, if_neg n2, if_neg n3, if_neg n0, if_neg n4, if_neg n5, if_neg n6, if_neg n9, if_neg n7, if_pos n8]; rfl), HW1.out⟩
                  · have hd := decide_eq_false n8
                    rw [hd]
                    clear hd
                    go_wp2
                    go_ret
                    exact ⟨ret_int (by rw [← HBK.out]; unfold brk; rw [if_neg n1, if_neg n2, if_neg n3, if_neg n0, if_neg n4, if_neg n5, if_neg n6, if_neg n9, if_neg n7, if_neg n8]; rfl), HW1.out⟩
end

section
/-
  The reference's rules at a place, fourth part.
-/
open Go.ChangeShapes Go.WideShapes Go.ChangeAt Go.RowKit
set_option maxRecDepth 100000

set_option maxHeartbeats 40000000 in
theorem RBr_8c (i Lg Ls : Nat) (x y x1 y1 y2 v rv ru m am p gm : Int) (b1 o1 c1 b2 o2 c2 : Nat) (w : World) (hi : i < Ls) (hig : i < Lg) (g8 : Lg ≤ 8) (nx : 0 ≤ x ∧ x ≤ 20) (ny : 0 ≤ y ∧ y ≤ 20) (nx1 : 0 ≤ x1 ∧ x1 ≤ 20) (ny1 : 0 ≤ y1 ∧ y1 ≤ 20) (ny2 : 0 ≤ y2 ∧ y2 ≤ 20)
    (a1 : w.cell? ⟨b1, o1 + i, none⟩ = some (.int .i64 x)) (a2 : w.cell? ⟨b2, o2 + i, none⟩ = some (.int .i64 y)) (a3 : w.cell? ⟨b1, o1 + (i - 1), none⟩ = some (.int .i64 x1)) (a4 : w.cell? ⟨b2, o2 + (i - 1), none⟩ = some (.int .i64 y1)) (a5 : w.cell? ⟨b2, o2 + (i - 1 - 1), none⟩ = some (.int .i64 y2))
    (hv : y - x = v) (hrv : v % 7 = rv) (hru : (y1 - x1) % 7 = ru) (hm : y - y1 = m) (ham : absI m = am) (hgm : x - x1 = gm) (hp : y1 - y2 = p) (hcl : ((((¬ (v < 0 ∨ 14 < v)) ∧ (¬ (¬ (rv = 0 ∨ rv = 4) ∧ rv ≠ 2 ∧ rv ≠ 5)) ∧ (¬ ((i + 1 = Lg ∧ rv ≠ 0) ∨ (i = 0 ∧ rv ≠ 0 ∧ rv ≠ 4))) ∧ (¬ (i = 0)) ∧ (¬ (4 < am ∧ am ≠ 7))) ∧ (¬ ((ru = 0 ∨ ru = 4) ∧ (rv = 0 ∨ rv = 4) ∧ ru = rv ∧ m ≠ 0)) ∧ (¬ ((rv = 0 ∨ rv = 4) ∧ ((0 < m ∧ 0 < gm) ∨ (m < 0 ∧ gm < 0)) ∧ am ≠ 1))) ∧ (¬ (i = 1)) ∧ (¬ ((2 < p ∧ m ≠ -1 ∧ m ≠ -2) ∨ (p < -2 ∧ m ≠ 1 ∧ m ≠ 2)))) ∧ (rv = 0 ∨ rv = 4) ∧ (-2 ≤ p ∧ p ≤ 2)) :
    Calls Try.prog 85 #[.slice (some ⟨b1, o1, none⟩) Lg c1, .slice (some ⟨b2, o2, none⟩) Ls c2, .int .i64 (i : Int)] w fun e w' => e = .returned (.int .i64 (brk v rv ru m am p gm i Lg : Nat)) ∧ ∃ q, w' = w.drewN q := by
  have HCL := Lib.hid hcl
  clear hcl
  have HOv := Lib.hid (fun W => ropen_any v (by omega) W)
  have HOu := Lib.hid (fun W => ropen_any (y1 - x1) (by omega) W)
  have HSv := Lib.hid (fun W => rsort_any v (by omega) W)
  have HSu := Lib.hid (fun W => rsort_any (y1 - x1) (by omega) W)
  have HAm := Lib.hid (fun W => rabs_any m (by omega) W)
  rw [show openB v = decide (v % 7 = 0 ∨ v % 7 = 4) from rfl, hrv] at HOv
  rw [show openB (y1 - x1) = decide ((y1 - x1) % 7 = 0 ∨ (y1 - x1) % 7 = 4) from rfl, hru] at HOu
  rw [hrv] at HSv
  rw [hru] at HSu
  rw [ham] at HAm
  have HTv := Lib.hid (show 0 ≤ v → v.tmod 7 = rv from fun h => by rw [← hrv]; exact Int.tmod_eq_emod_of_nonneg h)
  have HVe := Lib.hid hv
  have HMe := Lib.hid hm
  have HGe := Lib.hid hgm
  have HPe := Lib.hid hp
  have hmb : -20 ≤ m ∧ m ≤ 20 := by omega
  have hpb : -20 ≤ p ∧ p ≤ 20 := by omega
  obtain ⟨u, hu⟩ : ∃ u, y1 - x1 = u := ⟨_, rfl⟩
  have HUe := Lib.hid hu
  rw [hu] at HOu HSu
  have hvb : -20 ≤ v ∧ v ≤ 20 := by omega
  clear hv hrv hru hm ham hgm hp hu
  obtain ⟨bk, hbk⟩ : ∃ bk, brk v rv ru m am p gm i Lg = bk := ⟨_, rfl⟩
  have HBK := Lib.hid hbk
  rw [hbk]
  clear hbk
  go_enter Try.func85, Try.ntmps85
  go_upto_region 1 with fail
  go_quiet (fail)
  obtain ⟨w1, hw1⟩ : ∃ W, w.drewN nq = W := ⟨_, rfl⟩
  have HW1 := Lib.hid (show ∃ q, w1 = w.drewN q from ⟨_, hw1.symm⟩)
  have k1 : ∀ a v, w.cell? a = some v → w1.cell? a = some v := fun a v e => by rw [← hw1]; exact e
  have a3 := k1 _ _ a3
  have a4 := k1 _ _ a4
  have a5 := k1 _ _ a5
  have a1 := k1 _ _ a1
  have a2 := k1 _ _ a2
  rw [hw1, HVe.out]
  clear hw1 k1
  have n1 : ¬ (v < 0 ∨ 14 < v) := by have := HCL.out; omega
  go_upto_region 2 with fail
  go_cut [2, 6, 7, 26] from 12 to 26 (fun s2 s6 s7 c wx => s2 = .int .i64 (i : Int) ∧ s6 = .int .i64 0 ∧ s7 = .int .i64 v ∧ c = .bool (decide (v < 0 ∨ 14 < v)) ∧ w1 = wx)
  case first =>
    by_cases q232 : v < 0
    · have q232b0 : (decide (v < 0)) = true := decide_eq_true q232
      first
      | (exfalso; omega)
      | (go_wp2_with fail; all_goals (try go_meet); all_goals exact ⟨(by first | rfl | exact congrArg (Value.int .i64) (by omega)), (by first | rfl | exact congrArg (Value.int .i64) (by omega)), (by first | rfl | exact congrArg (Value.int .i64) (by omega)), congrArg Value.bool (by first | exact (decide_eq_true (p := v < 0 ∨ 14 < v) (by omega)).symm | exact (decide_eq_false (p := v < 0 ∨ 14 < v) (by omega)).symm), rfl⟩)
    · have q232b0 : (decide (v < 0)) = false := decide_eq_false q232
      by_cases q233 : 14 < v
      · have q233b0 : (decide (14 < v)) = true := decide_eq_true q233
        first
        | (exfalso; omega)
        | (go_wp2_with fail; all_goals (try go_meet); all_goals exact ⟨(by first | rfl | exact congrArg (Value.int .i64) (by omega)), (by first | rfl | exact congrArg (Value.int .i64) (by omega)), (by first | rfl | exact congrArg (Value.int .i64) (by omega)), congrArg Value.bool (by first | exact (decide_eq_true (p := v < 0 ∨ 14 < v) (by omega)).symm | exact (decide_eq_false (p := v < 0 ∨ 14 < v) (by omega)).symm), rfl⟩)
      · have q233b0 : (decide (14 < v)) = false := decide_eq_false q233
        first
        | (exfalso; omega)
        | (go_wp2_with fail; all_goals (try go_meet); all_goals exact ⟨(by first | rfl | exact congrArg (Value.int .i64) (by omega)), (by first | rfl | exact congrArg (Value.int .i64) (by omega)), (by first | rfl | exact congrArg (Value.int .i64) (by omega)), congrArg Value.bool (by first | exact (decide_eq_true (p := v < 0 ∨ 14 < v) (by omega)).symm | exact (decide_eq_false (p := v < 0 ∨ 14 < v) (by omega)).symm), rfl⟩)
  case rest =>
    obtain ⟨rfl, rfl, rfl, rfl, rfl⟩ := hcut
    have hd := decide_eq_false n1
    rw [hd]
    clear hd
    have n2 : ¬ (¬ (rv = 0 ∨ rv = 4) ∧ rv ≠ 2 ∧ rv ≠ 5) := by have := HCL.out; omega
    go_upto_region 4 with fail
    go_cut [2, 6, 7, 39] from 27 to 39 (fun s2 s6 s7 c wx => s2 = .int .i64 (i : Int) ∧ s6 = .int .i64 0 ∧ s7 = .int .i64 v ∧ c = .bool (decide (¬ (rv = 0 ∨ rv = 4) ∧ rv ≠ 2 ∧ rv ≠ 5)) ∧ w1 = wx)
    case first =>
      by_cases q234 : rv = 0 ∨ rv = 4
      · have q234b0 : (decide (rv = 0 ∨ rv = 4)) = true := decide_eq_true q234
        first
        | (exfalso; omega)
        | (go_wp2_with fail; refine (HOv.out _).mono ?_; rintro e wz ⟨rfl, rfl⟩; go_wp2_with fail; all_goals (try go_meet); all_goals exact ⟨(by first | rfl | exact congrArg (Value.int .i64) (by omega)), (by first | rfl | exact congrArg (Value.int .i64) (by omega)), (by first | rfl | exact congrArg (Value.int .i64) (by omega)), congrArg Value.bool (by first | exact (decide_eq_true (p := ¬ (rv = 0 ∨ rv = 4) ∧ rv ≠ 2 ∧ rv ≠ 5) (by omega)).symm | exact (decide_eq_false (p := ¬ (rv = 0 ∨ rv = 4) ∧ rv ≠ 2 ∧ rv ≠ 5) (by omega)).symm), rfl⟩)
      · have q234b0 : (decide (rv = 0 ∨ rv = 4)) = false := decide_eq_false q234
        by_cases q235 : rv = 2
        · have q235b0 : (rv != 2) = false := bne_eq_false_iff_eq.2 q235
          first
          | (exfalso; omega)
          | (go_wp2_with fail; refine (HOv.out _).mono ?_; rintro e wz ⟨rfl, rfl⟩; go_wp2_with fail; refine (HSv.out _).mono ?_; rintro e wz ⟨rfl, rfl⟩; go_wp2_with fail; all_goals (try go_meet); all_goals exact ⟨(by first | rfl | exact congrArg (Value.int .i64) (by omega)), (by first | rfl | exact congrArg (Value.int .i64) (by omega)), (by first | rfl | exact congrArg (Value.int .i64) (by omega)), congrArg Value.bool (by first | exact (decide_eq_true (p := ¬ (rv = 0 ∨ rv = 4) ∧ rv ≠ 2 ∧ rv ≠ 5) (by omega)).symm | exact (decide_eq_false (p := ¬ (rv = 0 ∨ rv = 4) ∧ rv ≠ 2 ∧ rv ≠ 5) (by omega)).symm), rfl⟩)
        · have q235b0 : (rv != 2) = true := bne_iff_ne.2 q235
          by_cases q236 : rv = 5
          · have q236b0 : (rv != 5) = false := bne_eq_false_iff_eq.2 q236
            first
            | (exfalso; omega)
            | (go_wp2_with fail; refine (HOv.out _).mono ?_; rintro e wz ⟨rfl, rfl⟩; go_wp2_with fail; refine (HSv.out _).mono ?_; rintro e wz ⟨rfl, rfl⟩; go_wp2_with fail; refine (HSv.out _).mono ?_; rintro e wz ⟨rfl, rfl⟩; go_wp2_with fail; all_goals (try go_meet); all_goals exact ⟨(by first | rfl | exact congrArg (Value.int .i64) (by omega)), (by first | rfl | exact congrArg (Value.int .i64) (by omega)), (by first | rfl | exact congrArg (Value.int .i64) (by omega)), congrArg Value.bool (by first | exact (decide_eq_true (p := ¬ (rv = 0 ∨ rv = 4) ∧ rv ≠ 2 ∧ rv ≠ 5) (by omega)).symm | exact (decide_eq_false (p := ¬ (rv = 0 ∨ rv = 4) ∧ rv ≠ 2 ∧ rv ≠ 5) (by omega)).symm), rfl⟩)
          · have q236b0 : (rv != 5) = true := bne_iff_ne.2 q236
            first
            | (exfalso; omega)
            | (go_wp2_with fail; refine (HOv.out _).mono ?_; rintro e wz ⟨rfl, rfl⟩; go_wp2_with fail; refine (HSv.out _).mono ?_; rintro e wz ⟨rfl, rfl⟩; go_wp2_with fail; refine (HSv.out _).mono ?_; rintro e wz ⟨rfl, rfl⟩; go_wp2_with fail; all_goals (try go_meet); all_goals exact ⟨(by first | rfl | exact congrArg (Value.int .i64) (by omega)), (by first | rfl | exact congrArg (Value.int .i64) (by omega)), (by first | rfl | exact congrArg (Value.int .i64) (by omega)), congrArg Value.bool (by first | exact (decide_eq_true (p := ¬ (rv = 0 ∨ rv = 4) ∧ rv ≠ 2 ∧ rv ≠ 5) (by omega)).symm | exact (decide_eq_false (p := ¬ (rv = 0 ∨ rv = 4) ∧ rv ≠ 2 ∧ rv ≠ 5) (by omega)).symm), rfl⟩)
    case rest =>
      obtain ⟨rfl, rfl, rfl, rfl, rfl⟩ := hcut
      have hd := decide_eq_false n2
      rw [hd]
      clear hd
      have hv0 : 0 ≤ v := by omega
      have htv := HTv.out hv0
      have n3 : ¬ ((i + 1 = Lg ∧ rv ≠ 0) ∨ (i = 0 ∧ rv ≠ 0 ∧ rv ≠ 4)) := by have := HCL.out; omega
      go_upto_region 6 with fail
      go_cut [2, 6, 7, 63] from 40 to 63 (fun s2 s6 s7 c wx => s2 = .int .i64 (i : Int) ∧ s6 = .int .i64 0 ∧ s7 = .int .i64 v ∧ c = .bool (decide ((i + 1 = Lg ∧ rv ≠ 0) ∨ (i = 0 ∧ rv ≠ 0 ∧ rv ≠ 4))) ∧ w1 = wx)
      case first =>
        by_cases q237 : i + 1 = Lg
        · have q237b0 : ((i : Int) == (Lg : Int) - 1) = true := beq_iff_eq.2 (by omega)
          by_cases q238 : rv = 0
          · have q238b0 : (rv != 0) = false := bne_eq_false_iff_eq.2 q238
            by_cases q239 : i = 0
            · have q239b0 : ((i : Int) == 0) = true := beq_iff_eq.2 (by omega)
              first
              | (exfalso; omega)
              | (go_wp2_with fail; all_goals (try go_meet); all_goals exact ⟨(by first | rfl | exact congrArg (Value.int .i64) (by omega)), (by first | rfl | exact congrArg (Value.int .i64) (by omega)), (by first | rfl | exact congrArg (Value.int .i64) (by omega)), congrArg Value.bool (by first | exact (decide_eq_true (p := (i + 1 = Lg ∧ rv ≠ 0) ∨ (i = 0 ∧ rv ≠ 0 ∧ rv ≠ 4)) (by omega)).symm | exact (decide_eq_false (p := (i + 1 = Lg ∧ rv ≠ 0) ∨ (i = 0 ∧ rv ≠ 0 ∧ rv ≠ 4)) (by omega)).symm), rfl⟩)
            · have q239b0 : ((i : Int) == 0) = false := beq_eq_false_iff_ne.2 (by omega)
              first
              | (exfalso; omega)
              | (go_wp2_with fail; all_goals (try go_meet); all_goals exact ⟨(by first | rfl | exact congrArg (Value.int .i64) (by omega)), (by first | rfl | exact congrArg (Value.int .i64) (by omega)), (by first | rfl | exact congrArg (Value.int .i64) (by omega)), congrArg Value.bool (by first | exact (decide_eq_true (p := (i + 1 = Lg ∧ rv ≠ 0) ∨ (i = 0 ∧ rv ≠ 0 ∧ rv ≠ 4)) (by omega)).symm | exact (decide_eq_false (p := (i + 1 = Lg ∧ rv ≠ 0) ∨ (i = 0 ∧ rv ≠ 0 ∧ rv ≠ 4)) (by omega)).symm), rfl⟩)
          · have q238b0 : (rv != 0) = true := bne_iff_ne.2 q238
            first
            | (exfalso; omega)
            | (go_wp2_with fail; all_goals (try go_meet); all_goals exact ⟨(by first | rfl | exact congrArg (Value.int .i64) (by omega)), (by first | rfl | exact congrArg (Value.int .i64) (by omega)), (by first | rfl | exact congrArg (Value.int .i64) (by omega)), congrArg Value.bool (by first | exact (decide_eq_true (p := (i + 1 = Lg ∧ rv ≠ 0) ∨ (i = 0 ∧ rv ≠ 0 ∧ rv ≠ 4)) (by omega)).symm | exact (decide_eq_false (p := (i + 1 = Lg ∧ rv ≠ 0) ∨ (i = 0 ∧ rv ≠ 0 ∧ rv ≠ 4)) (by omega)).symm), rfl⟩)
        · have q237b0 : ((i : Int) == (Lg : Int) - 1) = false := beq_eq_false_iff_ne.2 (by omega)
          by_cases q240 : i = 0
          · have q240b0 : ((i : Int) == 0) = true := beq_iff_eq.2 (by omega)
            by_cases q241 : rv = 0
            · have q241b0 : (rv != 0) = false := bne_eq_false_iff_eq.2 q241
              first
              | (exfalso; omega)
              | (go_wp2_with fail; all_goals (try go_meet); all_goals exact ⟨(by first | rfl | exact congrArg (Value.int .i64) (by omega)), (by first | rfl | exact congrArg (Value.int .i64) (by omega)), (by first | rfl | exact congrArg (Value.int .i64) (by omega)), congrArg Value.bool (by first | exact (decide_eq_true (p := (i + 1 = Lg ∧ rv ≠ 0) ∨ (i = 0 ∧ rv ≠ 0 ∧ rv ≠ 4)) (by omega)).symm | exact (decide_eq_false (p := (i + 1 = Lg ∧ rv ≠ 0) ∨ (i = 0 ∧ rv ≠ 0 ∧ rv ≠ 4)) (by omega)).symm), rfl⟩)
            · have q241b0 : (rv != 0) = true := bne_iff_ne.2 q241
              by_cases q242 : rv = 4
              · have q242b0 : (rv != 4) = false := bne_eq_false_iff_eq.2 q242
                first
                | (exfalso; omega)
                | (go_wp2_with fail; all_goals (try go_meet); all_goals exact ⟨(by first | rfl | exact congrArg (Value.int .i64) (by omega)), (by first | rfl | exact congrArg (Value.int .i64) (by omega)), (by first | rfl | exact congrArg (Value.int .i64) (by omega)), congrArg Value.bool (by first | exact (decide_eq_true (p := (i + 1 = Lg ∧ rv ≠ 0) ∨ (i = 0 ∧ rv ≠ 0 ∧ rv ≠ 4)) (by omega)).symm | exact (decide_eq_false (p := (i + 1 = Lg ∧ rv ≠ 0) ∨ (i = 0 ∧ rv ≠ 0 ∧ rv ≠ 4)) (by omega)).symm), rfl⟩)
              · have q242b0 : (rv != 4) = true := bne_iff_ne.2 q242
                first
                | (exfalso; omega)
                | (go_wp2_with fail; all_goals (try go_meet); all_goals exact ⟨(by first | rfl | exact congrArg (Value.int .i64) (by omega)), (by first | rfl | exact congrArg (Value.int .i64) (by omega)), (by first | rfl | exact congrArg (Value.int .i64) (by omega)), congrArg Value.bool (by first | exact (decide_eq_true (p := (i + 1 = Lg ∧ rv ≠ 0) ∨ (i = 0 ∧ rv ≠ 0 ∧ rv ≠ 4)) (by omega)).symm | exact (decide_eq_false (p := (i + 1 = Lg ∧ rv ≠ 0) ∨ (i = 0 ∧ rv ≠ 0 ∧ rv ≠ 4)) (by omega)).symm), rfl⟩)
          · have q240b0 : ((i : Int) == 0) = false := beq_eq_false_iff_ne.2 (by omega)
            first
            | (exfalso; omega)
            | (go_wp2_with fail; all_goals (try go_meet); all_goals exact ⟨(by first | rfl | exact congrArg (Value.int .i64) (by omega)), (by first | rfl | exact congrArg (Value.int .i64) (by omega)), (by first | rfl | exact congrArg (Value.int .i64) (by omega)), congrArg Value.bool (by first | exact (decide_eq_true (p := (i + 1 = Lg ∧ rv ≠ 0) ∨ (i = 0 ∧ rv ≠ 0 ∧ rv ≠ 4)) (by omega)).symm | exact (decide_eq_false (p := (i + 1 = Lg ∧ rv ≠ 0) ∨ (i = 0 ∧ rv ≠ 0 ∧ rv ≠ 4)) (by omega)).symm), rfl⟩)
      case rest =>
        obtain ⟨rfl, rfl, rfl, rfl, rfl⟩ := hcut
        clear htv
        have hd := decide_eq_false n3
        rw [hd]
        clear hd
        have n0 : ¬ (i = 0) := by have := HCL.out; omega
        have hd : ((i : Int) == 0) = false := beq_eq_false_iff_ne.2 (by omega)
        have hi1 : 1 ≤ i := by omega
        obtain ⟨z1, z2, z3⟩ := idx1 hi1 (show i < 1000 by omega)
        go_upto_region 10 with fail
        go_quiet (fail)
        go_upto_region 11 with fail
        obtain ⟨w2, hw2⟩ : ∃ W, w1.drewN nq = W := ⟨_, rfl⟩
        have HW2 := Lib.hid (show ∃ q, w2 = w.drewN q by obtain ⟨q, hq⟩ := HW1.out; exact ⟨q + nq, by rw [← hw2, hq, World.drewN_drewN]⟩)
        have k2 : ∀ a v, w1.cell? a = some v → w2.cell? a = some v := fun a v e => by rw [← hw2]; exact e
        have a4 := k2 _ _ a4
        have a5 := k2 _ _ a5
        rw [hw2, HMe.out, HGe.out, HUe.out]
        clear hw2 k2 a1 a2 a3 z1 z2 z3 HW1
        have HW1 := HW2
        clear HW2
        have n4 : ¬ (4 < am ∧ am ≠ 7) := by have := HCL.out; omega
        go_upto_region 11 with fail
        go_cut [2, 6, 7, 8, 9, 10, 104] from 64 to 104 (fun s2 s6 s7 s8 s9 s10 c wx => s2 = .int .i64 (i : Int) ∧ s6 = .int .i64 0 ∧ s7 = .int .i64 v ∧ s8 = .int .i64 m ∧ s9 = .int .i64 gm ∧ s10 = .int .i64 u ∧ c = .bool (decide (4 < am ∧ am ≠ 7)) ∧ w2 = wx)
        case first =>
          by_cases q243 : 4 < am
          · have q243b0 : (decide (4 < am)) = true := decide_eq_true q243
            by_cases q244 : am = 7
            · have q244b0 : (am != 7) = false := bne_eq_false_iff_eq.2 q244
              first
              | (exfalso; omega)
              | (go_wp2_with fail; refine (HAm.out _).mono ?_; rintro e wz ⟨rfl, rfl⟩; go_wp2_with fail; refine (HAm.out _).mono ?_; rintro e wz ⟨rfl, rfl⟩; go_wp2_with fail; all_goals (try go_meet); all_goals exact ⟨(by first | rfl | exact congrArg (Value.int .i64) (by omega)), (by first | rfl | exact congrArg (Value.int .i64) (by omega)), (by first | rfl | exact congrArg (Value.int .i64) (by omega)), (by first | rfl | exact congrArg (Value.int .i64) (by omega)), (by first | rfl | exact congrArg (Value.int .i64) (by omega)), (by first | rfl | exact congrArg (Value.int .i64) (by omega)), congrArg Value.bool (by first | exact (decide_eq_true (p := 4 < am ∧ am ≠ 7) (by omega)).symm | exact (decide_eq_false (p := 4 < am ∧ am ≠ 7) (by omega)).symm), rfl⟩)
            · have q244b0 : (am != 7) = true := bne_iff_ne.2 q244
              first
              | (exfalso; omega)
              | (go_wp2_with fail; refine (HAm.out _).mono ?_; rintro e wz ⟨rfl, rfl⟩; go_wp2_with fail; refine (HAm.out _).mono ?_; rintro e wz ⟨rfl, rfl⟩; go_wp2_with fail; all_goals (try go_meet); all_goals exact ⟨(by first | rfl | exact congrArg (Value.int .i64) (by omega)), (by first | rfl | exact congrArg (Value.int .i64) (by omega)), (by first | rfl | exact congrArg (Value.int .i64) (by omega)), (by first | rfl | exact congrArg (Value.int .i64) (by omega)), (by first | rfl | exact congrArg (Value.int .i64) (by omega)), (by first | rfl | exact congrArg (Value.int .i64) (by omega)), congrArg Value.bool (by first | exact (decide_eq_true (p := 4 < am ∧ am ≠ 7) (by omega)).symm | exact (decide_eq_false (p := 4 < am ∧ am ≠ 7) (by omega)).symm), rfl⟩)
          · have q243b0 : (decide (4 < am)) = false := decide_eq_false q243
            first
            | (exfalso; omega)
            | (go_wp2_with fail; refine (HAm.out _).mono ?_; rintro e wz ⟨rfl, rfl⟩; go_wp2_with fail; all_goals (try go_meet); all_goals exact ⟨(by first | rfl | exact congrArg (Value.int .i64) (by omega)), (by first | rfl | exact congrArg (Value.int .i64) (by omega)), (by first | rfl | exact congrArg (Value.int .i64) (by omega)), (by first | rfl | exact congrArg (Value.int .i64) (by omega)), (by first | rfl | exact congrArg (Value.int .i64) (by omega)), (by first | rfl | exact congrArg (Value.int .i64) (by omega)), congrArg Value.bool (by first | exact (decide_eq_true (p := 4 < am ∧ am ≠ 7) (by omega)).symm | exact (decide_eq_false (p := 4 < am ∧ am ≠ 7) (by omega)).symm), rfl⟩)
        case rest =>
          obtain ⟨rfl, rfl, rfl, rfl, rfl, rfl, rfl, rfl⟩ := hcut
          have hd := decide_eq_false n4
          rw [hd]
          clear hd
          have n5 : ¬ ((ru = 0 ∨ ru = 4) ∧ (rv = 0 ∨ rv = 4) ∧ ru = rv ∧ m ≠ 0) := by have := HCL.out; omega
          go_upto_region 13 with fail
          go_cut [2, 6, 7, 8, 9, 10, 121] from 105 to 121 (fun s2 s6 s7 s8 s9 s10 c wx => s2 = .int .i64 (i : Int) ∧ s6 = .int .i64 0 ∧ s7 = .int .i64 v ∧ s8 = .int .i64 m ∧ s9 = .int .i64 gm ∧ s10 = .int .i64 u ∧ c = .bool (decide ((ru = 0 ∨ ru = 4) ∧ (rv = 0 ∨ rv = 4) ∧ ru = rv ∧ m ≠ 0)) ∧ w2 = wx)
          case first =>
            by_cases q245 : ru = 0 ∨ ru = 4
            · have q245b0 : (decide (ru = 0 ∨ ru = 4)) = true := decide_eq_true q245
              by_cases q246 : rv = 0 ∨ rv = 4
              · have q246b0 : (decide (rv = 0 ∨ rv = 4)) = true := decide_eq_true q246
                by_cases q247 : ru = rv
                · have q247b0 : (ru == rv) = true := beq_iff_eq.2 q247
                  by_cases q248 : m = 0
                  · have q248b0 : (m != 0) = false := bne_eq_false_iff_eq.2 q248
                    first
                    | (exfalso; omega)
                    | (go_wp2_with fail; refine (HOu.out _).mono ?_; rintro e wz ⟨rfl, rfl⟩; go_wp2_with fail; refine (HOv.out _).mono ?_; rintro e wz ⟨rfl, rfl⟩; go_wp2_with fail; refine (HSu.out _).mono ?_; rintro e wz ⟨rfl, rfl⟩; go_wp2_with fail; refine (HSv.out _).mono ?_; rintro e wz ⟨rfl, rfl⟩; go_wp2_with fail; all_goals (try go_meet); all_goals exact ⟨(by first | rfl | exact congrArg (Value.int .i64) (by omega)), (by first | rfl | exact congrArg (Value.int .i64) (by omega)), (by first | rfl | exact congrArg (Value.int .i64) (by omega)), (by first | rfl | exact congrArg (Value.int .i64) (by omega)), (by first | rfl | exact congrArg (Value.int .i64) (by omega)), (by first | rfl | exact congrArg (Value.int .i64) (by omega)), congrArg Value.bool (by first | exact (decide_eq_true (p := (ru = 0 ∨ ru = 4) ∧ (rv = 0 ∨ rv = 4) ∧ ru = rv ∧ m ≠ 0) (by omega)).symm | exact (decide_eq_false (p := (ru = 0 ∨ ru = 4) ∧ (rv = 0 ∨ rv = 4) ∧ ru = rv ∧ m ≠ 0) (by omega)).symm), rfl⟩)
                  · have q248b0 : (m != 0) = true := bne_iff_ne.2 q248
                    first
                    | (exfalso; omega)
                    | (go_wp2_with fail; refine (HOu.out _).mono ?_; rintro e wz ⟨rfl, rfl⟩; go_wp2_with fail; refine (HOv.out _).mono ?_; rintro e wz ⟨rfl, rfl⟩; go_wp2_with fail; refine (HSu.out _).mono ?_; rintro e wz ⟨rfl, rfl⟩; go_wp2_with fail; refine (HSv.out _).mono ?_; rintro e wz ⟨rfl, rfl⟩; go_wp2_with fail; all_goals (try go_meet); all_goals exact ⟨(by first | rfl | exact congrArg (Value.int .i64) (by omega)), (by first | rfl | exact congrArg (Value.int .i64) (by omega)), (by first | rfl | exact congrArg (Value.int .i64) (by omega)), (by first | rfl | exact congrArg (Value.int .i64) (by omega)), (by first | rfl | exact congrArg (Value.int .i64) (by omega)), (by first | rfl | exact congrArg (Value.int .i64) (by omega)), congrArg Value.bool (by first | exact (decide_eq_true (p := (ru = 0 ∨ ru = 4) ∧ (rv = 0 ∨ rv = 4) ∧ ru = rv ∧ m ≠ 0) (by omega)).symm | exact (decide_eq_false (p := (ru = 0 ∨ ru = 4) ∧ (rv = 0 ∨ rv = 4) ∧ ru = rv ∧ m ≠ 0) (by omega)).symm), rfl⟩)
                · have q247b0 : (ru == rv) = false := beq_eq_false_iff_ne.2 q247
                  first
                  | (exfalso; omega)
                  | (go_wp2_with fail; refine (HOu.out _).mono ?_; rintro e wz ⟨rfl, rfl⟩; go_wp2_with fail; refine (HOv.out _).mono ?_; rintro e wz ⟨rfl, rfl⟩; go_wp2_with fail; refine (HSu.out _).mono ?_; rintro e wz ⟨rfl, rfl⟩; go_wp2_with fail; refine (HSv.out _).mono ?_; rintro e wz ⟨rfl, rfl⟩; go_wp2_with fail; all_goals (try go_meet); all_goals exact ⟨(by first | rfl | exact congrArg (Value.int .i64) (by omega)), (by first | rfl | exact congrArg (Value.int .i64) (by omega)), (by first | rfl | exact congrArg (Value.int .i64) (by omega)), (by first | rfl | exact congrArg (Value.int .i64) (by omega)), (by first | rfl | exact congrArg (Value.int .i64) (by omega)), (by first | rfl | exact congrArg (Value.int .i64) (by omega)), congrArg Value.bool (by first | exact (decide_eq_true (p := (ru = 0 ∨ ru = 4) ∧ (rv = 0 ∨ rv = 4) ∧ ru = rv ∧ m ≠ 0) (by omega)).symm | exact (decide_eq_false (p := (ru = 0 ∨ ru = 4) ∧ (rv = 0 ∨ rv = 4) ∧ ru = rv ∧ m ≠ 0) (by omega)).symm), rfl⟩)
              · have q246b0 : (decide (rv = 0 ∨ rv = 4)) = false := decide_eq_false q246
                first
                | (exfalso; omega)
                | (go_wp2_with fail; refine (HOu.out _).mono ?_; rintro e wz ⟨rfl, rfl⟩; go_wp2_with fail; refine (HOv.out _).mono ?_; rintro e wz ⟨rfl, rfl⟩; go_wp2_with fail; all_goals (try go_meet); all_goals exact ⟨(by first | rfl | exact congrArg (Value.int .i64) (by omega)), (by first | rfl | exact congrArg (Value.int .i64) (by omega)), (by first | rfl | exact congrArg (Value.int .i64) (by omega)), (by first | rfl | exact congrArg (Value.int .i64) (by omega)), (by first | rfl | exact congrArg (Value.int .i64) (by omega)), (by first | rfl | exact congrArg (Value.int .i64) (by omega)), congrArg Value.bool (by first | exact (decide_eq_true (p := (ru = 0 ∨ ru = 4) ∧ (rv = 0 ∨ rv = 4) ∧ ru = rv ∧ m ≠ 0) (by omega)).symm | exact (decide_eq_false (p := (ru = 0 ∨ ru = 4) ∧ (rv = 0 ∨ rv = 4) ∧ ru = rv ∧ m ≠ 0) (by omega)).symm), rfl⟩)
            · have q245b0 : (decide (ru = 0 ∨ ru = 4)) = false := decide_eq_false q245
              first
              | (exfalso; omega)
              | (go_wp2_with fail; refine (HOu.out _).mono ?_; rintro e wz ⟨rfl, rfl⟩; go_wp2_with fail; all_goals (try go_meet); all_goals exact ⟨(by first | rfl | exact congrArg (Value.int .i64) (by omega)), (by first | rfl | exact congrArg (Value.int .i64) (by omega)), (by first | rfl | exact congrArg (Value.int .i64) (by omega)), (by first | rfl | exact congrArg (Value.int .i64) (by omega)), (by first | rfl | exact congrArg (Value.int .i64) (by omega)), (by first | rfl | exact congrArg (Value.int .i64) (by omega)), congrArg Value.bool (by first | exact (decide_eq_true (p := (ru = 0 ∨ ru = 4) ∧ (rv = 0 ∨ rv = 4) ∧ ru = rv ∧ m ≠ 0) (by omega)).symm | exact (decide_eq_false (p := (ru = 0 ∨ ru = 4) ∧ (rv = 0 ∨ rv = 4) ∧ ru = rv ∧ m ≠ 0) (by omega)).symm), rfl⟩)
          case rest =>
            obtain ⟨rfl, rfl, rfl, rfl, rfl, rfl, rfl, rfl⟩ := hcut
            have hd := decide_eq_false n5
            rw [hd]
            clear hd
            have n6 : ¬ ((rv = 0 ∨ rv = 4) ∧ ((0 < m ∧ 0 < gm) ∨ (m < 0 ∧ gm < 0)) ∧ am ≠ 1) := by have := HCL.out; omega
            go_upto_region 15 with fail
            go_cut [2, 6, 7, 8, 9, 10, 144] from 122 to 144 (fun s2 s6 s7 s8 s9 s10 c wx => s2 = .int .i64 (i : Int) ∧ s6 = .int .i64 0 ∧ s7 = .int .i64 v ∧ s8 = .int .i64 m ∧ s9 = .int .i64 gm ∧ s10 = .int .i64 u ∧ c = .bool (decide ((rv = 0 ∨ rv = 4) ∧ ((0 < m ∧ 0 < gm) ∨ (m < 0 ∧ gm < 0)) ∧ am ≠ 1)) ∧ w2 = wx)
            case first =>
              by_cases q249 : rv = 0 ∨ rv = 4
              · have q249b0 : (decide (rv = 0 ∨ rv = 4)) = true := decide_eq_true q249
                by_cases q250 : 0 < m
                · have q250b0 : (decide (0 < m)) = true := decide_eq_true q250
                  have q250b1 : (decide (m < 0)) = false := decide_eq_false (by omega)
                  by_cases q251 : 0 < gm
                  · have q251b0 : (decide (0 < gm)) = true := decide_eq_true q251
                    by_cases q252 : am = 1
                    · have q252b0 : (am != 1) = false := bne_eq_false_iff_eq.2 q252
                      first
                      | (exfalso; omega)
                      | (go_wp2_with fail; refine (HOv.out _).mono ?_; rintro e wz ⟨rfl, rfl⟩; go_wp2_with fail; refine (HAm.out _).mono ?_; rintro e wz ⟨rfl, rfl⟩; go_wp2_with fail; all_goals (try go_meet); all_goals exact ⟨(by first | rfl | exact congrArg (Value.int .i64) (by omega)), (by first | rfl | exact congrArg (Value.int .i64) (by omega)), (by first | rfl | exact congrArg (Value.int .i64) (by omega)), (by first | rfl | exact congrArg (Value.int .i64) (by omega)), (by first | rfl | exact congrArg (Value.int .i64) (by omega)), (by first | rfl | exact congrArg (Value.int .i64) (by omega)), congrArg Value.bool (by first | exact (decide_eq_true (p := (rv = 0 ∨ rv = 4) ∧ ((0 < m ∧ 0 < gm) ∨ (m < 0 ∧ gm < 0)) ∧ am ≠ 1) (by omega)).symm | exact (decide_eq_false (p := (rv = 0 ∨ rv = 4) ∧ ((0 < m ∧ 0 < gm) ∨ (m < 0 ∧ gm < 0)) ∧ am ≠ 1) (by omega)).symm), rfl⟩)
                    · have q252b0 : (am != 1) = true := bne_iff_ne.2 q252
                      first
                      | (exfalso; omega)
                      | (go_wp2_with fail; refine (HOv.out _).mono ?_; rintro e wz ⟨rfl, rfl⟩; go_wp2_with fail; refine (HAm.out _).mono ?_; rintro e wz ⟨rfl, rfl⟩; go_wp2_with fail; all_goals (try go_meet); all_goals exact ⟨(by first | rfl | exact congrArg (Value.int .i64) (by omega)), (by first | rfl | exact congrArg (Value.int .i64) (by omega)), (by first | rfl | exact congrArg (Value.int .i64) (by omega)), (by first | rfl | exact congrArg (Value.int .i64) (by omega)), (by first | rfl | exact congrArg (Value.int .i64) (by omega)), (by first | rfl | exact congrArg (Value.int .i64) (by omega)), congrArg Value.bool (by first | exact (decide_eq_true (p := (rv = 0 ∨ rv = 4) ∧ ((0 < m ∧ 0 < gm) ∨ (m < 0 ∧ gm < 0)) ∧ am ≠ 1) (by omega)).symm | exact (decide_eq_false (p := (rv = 0 ∨ rv = 4) ∧ ((0 < m ∧ 0 < gm) ∨ (m < 0 ∧ gm < 0)) ∧ am ≠ 1) (by omega)).symm), rfl⟩)
                  · have q251b0 : (decide (0 < gm)) = false := decide_eq_false q251
                    first
                    | (exfalso; omega)
                    | (go_wp2_with fail; refine (HOv.out _).mono ?_; rintro e wz ⟨rfl, rfl⟩; go_wp2_with fail; all_goals (try go_meet); all_goals exact ⟨(by first | rfl | exact congrArg (Value.int .i64) (by omega)), (by first | rfl | exact congrArg (Value.int .i64) (by omega)), (by first | rfl | exact congrArg (Value.int .i64) (by omega)), (by first | rfl | exact congrArg (Value.int .i64) (by omega)), (by first | rfl | exact congrArg (Value.int .i64) (by omega)), (by first | rfl | exact congrArg (Value.int .i64) (by omega)), congrArg Value.bool (by first | exact (decide_eq_true (p := (rv = 0 ∨ rv = 4) ∧ ((0 < m ∧ 0 < gm) ∨ (m < 0 ∧ gm < 0)) ∧ am ≠ 1) (by omega)).symm | exact (decide_eq_false (p := (rv = 0 ∨ rv = 4) ∧ ((0 < m ∧ 0 < gm) ∨ (m < 0 ∧ gm < 0)) ∧ am ≠ 1) (by omega)).symm), rfl⟩)
                · have q250b0 : (decide (0 < m)) = false := decide_eq_false q250
                  by_cases q253 : m < 0
                  · have q253b0 : (decide (m < 0)) = true := decide_eq_true q253
                    by_cases q254 : gm < 0
                    · have q254b0 : (decide (gm < 0)) = true := decide_eq_true q254
                      by_cases q255 : am = 1
                      · have q255b0 : (am != 1) = false := bne_eq_false_iff_eq.2 q255
                        first
                        | (exfalso; omega)
                        | (go_wp2_with fail; refine (HOv.out _).mono ?_; rintro e wz ⟨rfl, rfl⟩; go_wp2_with fail; refine (HAm.out _).mono ?_; rintro e wz ⟨rfl, rfl⟩; go_wp2_with fail; all_goals (try go_meet); all_goals exact ⟨(by first | rfl | exact congrArg (Value.int .i64) (by omega)), (by first | rfl | exact congrArg (Value.int .i64) (by omega)), (by first | rfl | exact congrArg (Value.int .i64) (by omega)), (by first | rfl | exact congrArg (Value.int .i64) (by omega)), (by first | rfl | exact congrArg (Value.int .i64) (by omega)), (by first | rfl | exact congrArg (Value.int .i64) (by omega)), congrArg Value.bool (by first | exact (decide_eq_true (p := (rv = 0 ∨ rv = 4) ∧ ((0 < m ∧ 0 < gm) ∨ (m < 0 ∧ gm < 0)) ∧ am ≠ 1) (by omega)).symm | exact (decide_eq_false (p := (rv = 0 ∨ rv = 4) ∧ ((0 < m ∧ 0 < gm) ∨ (m < 0 ∧ gm < 0)) ∧ am ≠ 1) (by omega)).symm), rfl⟩)
                      · have q255b0 : (am != 1) = true := bne_iff_ne.2 q255
                        first
                        | (exfalso; omega)
                        | (go_wp2_with fail; refine (HOv.out _).mono ?_; rintro e wz ⟨rfl, rfl⟩; go_wp2_with fail; refine (HAm.out _).mono ?_; rintro e wz ⟨rfl, rfl⟩; go_wp2_with fail; all_goals (try go_meet); all_goals exact ⟨(by first | rfl | exact congrArg (Value.int .i64) (by omega)), (by first | rfl | exact congrArg (Value.int .i64) (by omega)), (by first | rfl | exact congrArg (Value.int .i64) (by omega)), (by first | rfl | exact congrArg (Value.int .i64) (by omega)), (by first | rfl | exact congrArg (Value.int .i64) (by omega)), (by first | rfl | exact congrArg (Value.int .i64) (by omega)), congrArg Value.bool (by first | exact (decide_eq_true (p := (rv = 0 ∨ rv = 4) ∧ ((0 < m ∧ 0 < gm) ∨ (m < 0 ∧ gm < 0)) ∧ am ≠ 1) (by omega)).symm | exact (decide_eq_false (p := (rv = 0 ∨ rv = 4) ∧ ((0 < m ∧ 0 < gm) ∨ (m < 0 ∧ gm < 0)) ∧ am ≠ 1) (by omega)).symm), rfl⟩)
                    · have q254b0 : (decide (gm < 0)) = false := decide_eq_false q254
                      first
                      | (exfalso; omega)
                      | (go_wp2_with fail; refine (HOv.out _).mono ?_; rintro e wz ⟨rfl, rfl⟩; go_wp2_with fail; all_goals (try go_meet); all_goals exact ⟨(by first | rfl | exact congrArg (Value.int .i64) (by omega)), (by first | rfl | exact congrArg (Value.int .i64) (by omega)), (by first | rfl | exact congrArg (Value.int .i64) (by omega)), (by first | rfl | exact congrArg (Value.int .i64) (by omega)), (by first | rfl | exact congrArg (Value.int .i64) (by omega)), (by first | rfl | exact congrArg (Value.int .i64) (by omega)), congrArg Value.bool (by first | exact (decide_eq_true (p := (rv = 0 ∨ rv = 4) ∧ ((0 < m ∧ 0 < gm) ∨ (m < 0 ∧ gm < 0)) ∧ am ≠ 1) (by omega)).symm | exact (decide_eq_false (p := (rv = 0 ∨ rv = 4) ∧ ((0 < m ∧ 0 < gm) ∨ (m < 0 ∧ gm < 0)) ∧ am ≠ 1) (by omega)).symm), rfl⟩)
                  · have q253b0 : (decide (m < 0)) = false := decide_eq_false q253
                    first
                    | (exfalso; omega)
                    | (go_wp2_with fail; refine (HOv.out _).mono ?_; rintro e wz ⟨rfl, rfl⟩; go_wp2_with fail; all_goals (try go_meet); all_goals exact ⟨(by first | rfl | exact congrArg (Value.int .i64) (by omega)), (by first | rfl | exact congrArg (Value.int .i64) (by omega)), (by first | rfl | exact congrArg (Value.int .i64) (by omega)), (by first | rfl | exact congrArg (Value.int .i64) (by omega)), (by first | rfl | exact congrArg (Value.int .i64) (by omega)), (by first | rfl | exact congrArg (Value.int .i64) (by omega)), congrArg Value.bool (by first | exact (decide_eq_true (p := (rv = 0 ∨ rv = 4) ∧ ((0 < m ∧ 0 < gm) ∨ (m < 0 ∧ gm < 0)) ∧ am ≠ 1) (by omega)).symm | exact (decide_eq_false (p := (rv = 0 ∨ rv = 4) ∧ ((0 < m ∧ 0 < gm) ∨ (m < 0 ∧ gm < 0)) ∧ am ≠ 1) (by omega)).symm), rfl⟩)
              · have q249b0 : (decide (rv = 0 ∨ rv = 4)) = false := decide_eq_false q249
                first
                | (exfalso; omega)
                | (go_wp2_with fail; refine (HOv.out _).mono ?_; rintro e wz ⟨rfl, rfl⟩; go_wp2_with fail; all_goals (try go_meet); all_goals exact ⟨(by first | rfl | exact congrArg (Value.int .i64) (by omega)), (by first | rfl | exact congrArg (Value.int .i64) (by omega)), (by first | rfl | exact congrArg (Value.int .i64) (by omega)), (by first | rfl | exact congrArg (Value.int .i64) (by omega)), (by first | rfl | exact congrArg (Value.int .i64) (by omega)), (by first | rfl | exact congrArg (Value.int .i64) (by omega)), congrArg Value.bool (by first | exact (decide_eq_true (p := (rv = 0 ∨ rv = 4) ∧ ((0 < m ∧ 0 < gm) ∨ (m < 0 ∧ gm < 0)) ∧ am ≠ 1) (by omega)).symm | exact (decide_eq_false (p := (rv = 0 ∨ rv = 4) ∧ ((0 < m ∧ 0 < gm) ∨ (m < 0 ∧ gm < 0)) ∧ am ≠ 1) (by omega)).symm), rfl⟩)
            case rest =>
              obtain ⟨rfl, rfl, rfl, rfl, rfl, rfl, rfl, rfl⟩ := hcut
              have hd := decide_eq_false n6
              rw [hd]
              clear hd
              have n9 : ¬ (i = 1) := by have := HCL.out; omega
              have hd : ((i : Int) == 1) = false := beq_eq_false_iff_ne.2 (by omega)
              have hi2 : 2 ≤ i := by omega
              have hi1000 : i < 1000 := by omega
              have z0 : i - 1 - 1 = i - 2 := by omega
              rw [z0] at a5
              clear z0
              obtain ⟨z1, z2, z3⟩ := idx1 hi1 hi1000
              obtain ⟨f1, f2, f3⟩ := idx2 hi2 hi1000
              go_upto_region 19 with fail
              go_quiet (fail)
              go_upto_region 20 with fail
              obtain ⟨w3, hw3⟩ : ∃ W, w2.drewN nq = W := ⟨_, rfl⟩
              have HW2 := Lib.hid (show ∃ q, w3 = w.drewN q by obtain ⟨q, hq⟩ := HW1.out; exact ⟨q + nq, by rw [← hw3, hq, World.drewN_drewN]⟩)
              rw [hw3, HPe.out]
              clear hw3 a4 a5 z1 z2 z3 f1 f2 f3 HW1
              have HW1 := HW2
              clear HW2
              have n7 : ¬ ((2 < p ∧ m ≠ -1 ∧ m ≠ -2) ∨ (p < -2 ∧ m ≠ 1 ∧ m ≠ 2)) := by have := HCL.out; omega
              go_upto_region 20 with fail
              go_cut [2, 6, 7, 8, 9, 10, 11, 179] from 145 to 179 (fun s2 s6 s7 s8 s9 s10 s11 c wx => s2 = .int .i64 (i : Int) ∧ s6 = .int .i64 0 ∧ s7 = .int .i64 v ∧ s8 = .int .i64 m ∧ s9 = .int .i64 gm ∧ s10 = .int .i64 u ∧ s11 = .int .i64 p ∧ c = .bool (decide ((2 < p ∧ m ≠ -1 ∧ m ≠ -2) ∨ (p < -2 ∧ m ≠ 1 ∧ m ≠ 2))) ∧ w3 = wx)
              case first =>
                by_cases q256 : 2 < p
                · have q256b0 : (decide (2 < p)) = true := decide_eq_true q256
                  have q256b1 : (decide (p < -2)) = false := decide_eq_false (by omega)
                  by_cases q257 : m = -1
                  · have q257b0 : (m != -1) = false := bne_eq_false_iff_eq.2 q257
                    first
                    | (exfalso; omega)
                    | (go_wp2_with fail; all_goals (try go_meet); all_goals exact ⟨(by first | rfl | exact congrArg (Value.int .i64) (by omega)), (by first | rfl | exact congrArg (Value.int .i64) (by omega)), (by first | rfl | exact congrArg (Value.int .i64) (by omega)), (by first | rfl | exact congrArg (Value.int .i64) (by omega)), (by first | rfl | exact congrArg (Value.int .i64) (by omega)), (by first | rfl | exact congrArg (Value.int .i64) (by omega)), (by first | rfl | exact congrArg (Value.int .i64) (by omega)), congrArg Value.bool (by first | exact (decide_eq_true (p := (2 < p ∧ m ≠ -1 ∧ m ≠ -2) ∨ (p < -2 ∧ m ≠ 1 ∧ m ≠ 2)) (by omega)).symm | exact (decide_eq_false (p := (2 < p ∧ m ≠ -1 ∧ m ≠ -2) ∨ (p < -2 ∧ m ≠ 1 ∧ m ≠ 2)) (by omega)).symm), rfl⟩)
                  · have q257b0 : (m != -1) = true := bne_iff_ne.2 q257
                    by_cases q258 : m = -2
                    · have q258b0 : (m != -2) = false := bne_eq_false_iff_eq.2 q258
                      first
                      | (exfalso; omega)
                      | (go_wp2_with fail; all_goals (try go_meet); all_goals exact ⟨(by first | rfl | exact congrArg (Value.int .i64) (by omega)), (by first | rfl | exact congrArg (Value.int .i64) (by omega)), (by first | rfl | exact congrArg (Value.int .i64) (by omega)), (by first | rfl | exact congrArg (Value.int .i64) (by omega)), (by first | rfl | exact congrArg (Value.int .i64) (by omega)), (by first | rfl | exact congrArg (Value.int .i64) (by omega)), (by first | rfl | exact congrArg (Value.int .i64) (by omega)), congrArg Value.bool (by first | exact (decide_eq_true (p := (2 < p ∧ m ≠ -1 ∧ m ≠ -2) ∨ (p < -2 ∧ m ≠ 1 ∧ m ≠ 2)) (by omega)).symm | exact (decide_eq_false (p := (2 < p ∧ m ≠ -1 ∧ m ≠ -2) ∨ (p < -2 ∧ m ≠ 1 ∧ m ≠ 2)) (by omega)).symm), rfl⟩)
                    · have q258b0 : (m != -2) = true := bne_iff_ne.2 q258
                      first
                      | (exfalso; omega)
                      | (go_wp2_with fail; all_goals (try go_meet); all_goals exact ⟨(by first | rfl | exact congrArg (Value.int .i64) (by omega)), (by first | rfl | exact congrArg (Value.int .i64) (by omega)), (by first | rfl | exact congrArg (Value.int .i64) (by omega)), (by first | rfl | exact congrArg (Value.int .i64) (by omega)), (by first | rfl | exact congrArg (Value.int .i64) (by omega)), (by first | rfl | exact congrArg (Value.int .i64) (by omega)), (by first | rfl | exact congrArg (Value.int .i64) (by omega)), congrArg Value.bool (by first | exact (decide_eq_true (p := (2 < p ∧ m ≠ -1 ∧ m ≠ -2) ∨ (p < -2 ∧ m ≠ 1 ∧ m ≠ 2)) (by omega)).symm | exact (decide_eq_false (p := (2 < p ∧ m ≠ -1 ∧ m ≠ -2) ∨ (p < -2 ∧ m ≠ 1 ∧ m ≠ 2)) (by omega)).symm), rfl⟩)
                · have q256b0 : (decide (2 < p)) = false := decide_eq_false q256
                  by_cases q259 : p < -2
                  · have q259b0 : (decide (p < -2)) = true := decide_eq_true q259
                    by_cases q260 : m = 1
                    · have q260b0 : (m != 1) = false := bne_eq_false_iff_eq.2 q260
                      first
                      | (exfalso; omega)
                      | (go_wp2_with fail; all_goals (try go_meet); all_goals exact ⟨(by first | rfl | exact congrArg (Value.int .i64) (by omega)), (by first | rfl | exact congrArg (Value.int .i64) (by omega)), (by first | rfl | exact congrArg (Value.int .i64) (by omega)), (by first | rfl | exact congrArg (Value.int .i64) (by omega)), (by first | rfl | exact congrArg (Value.int .i64) (by omega)), (by first | rfl | exact congrArg (Value.int .i64) (by omega)), (by first | rfl | exact congrArg (Value.int .i64) (by omega)), congrArg Value.bool (by first | exact (decide_eq_true (p := (2 < p ∧ m ≠ -1 ∧ m ≠ -2) ∨ (p < -2 ∧ m ≠ 1 ∧ m ≠ 2)) (by omega)).symm | exact (decide_eq_false (p := (2 < p ∧ m ≠ -1 ∧ m ≠ -2) ∨ (p < -2 ∧ m ≠ 1 ∧ m ≠ 2)) (by omega)).symm), rfl⟩)
                    · have q260b0 : (m != 1) = true := bne_iff_ne.2 q260
                      by_cases q261 : m = 2
                      · have q261b0 : (m != 2) = false := bne_eq_false_iff_eq.2 q261
                        first
                        | (exfalso; omega)
                        | (go_wp2_with fail; all_goals (try go_meet); all_goals exact ⟨(by first | rfl | exact congrArg (Value.int .i64) (by omega)), (by first | rfl | exact congrArg (Value.int .i64) (by omega)), (by first | rfl | exact congrArg (Value.int .i64) (by omega)), (by first | rfl | exact congrArg (Value.int .i64) (by omega)), (by first | rfl | exact congrArg (Value.int .i64) (by omega)), (by first | rfl | exact congrArg (Value.int .i64) (by omega)), (by first | rfl | exact congrArg (Value.int .i64) (by omega)), congrArg Value.bool (by first | exact (decide_eq_true (p := (2 < p ∧ m ≠ -1 ∧ m ≠ -2) ∨ (p < -2 ∧ m ≠ 1 ∧ m ≠ 2)) (by omega)).symm | exact (decide_eq_false (p := (2 < p ∧ m ≠ -1 ∧ m ≠ -2) ∨ (p < -2 ∧ m ≠ 1 ∧ m ≠ 2)) (by omega)).symm), rfl⟩)
                      · have q261b0 : (m != 2) = true := bne_iff_ne.2 q261
                        first
                        | (exfalso; omega)
                        | (go_wp2_with fail; all_goals (try go_meet); all_goals exact ⟨(by first | rfl | exact congrArg (Value.int .i64) (by omega)), (by first | rfl | exact congrArg (Value.int .i64) (by omega)), (by first | rfl | exact congrArg (Value.int .i64) (by omega)), (by first | rfl | exact congrArg (Value.int .i64) (by omega)), (by first | rfl | exact congrArg (Value.int .i64) (by omega)), (by first | rfl | exact congrArg (Value.int .i64) (by omega)), (by first | rfl | exact congrArg (Value.int .i64) (by omega)), congrArg Value.bool (by first | exact (decide_eq_true (p := (2 < p ∧ m ≠ -1 ∧ m ≠ -2) ∨ (p < -2 ∧ m ≠ 1 ∧ m ≠ 2)) (by omega)).symm | exact (decide_eq_false (p := (2 < p ∧ m ≠ -1 ∧ m ≠ -2) ∨ (p < -2 ∧ m ≠ 1 ∧ m ≠ 2)) (by omega)).symm), rfl⟩)
                  · have q259b0 : (decide (p < -2)) = false := decide_eq_false q259
                    first
                    | (exfalso; omega)
                    | (go_wp2_with fail; all_goals (try go_meet); all_goals exact ⟨(by first | rfl | exact congrArg (Value.int .i64) (by omega)), (by first | rfl | exact congrArg (Value.int .i64) (by omega)), (by first | rfl | exact congrArg (Value.int .i64) (by omega)), (by first | rfl | exact congrArg (Value.int .i64) (by omega)), (by first | rfl | exact congrArg (Value.int .i64) (by omega)), (by first | rfl | exact congrArg (Value.int .i64) (by omega)), (by first | rfl | exact congrArg (Value.int .i64) (by omega)), congrArg Value.bool (by first | exact (decide_eq_true (p := (2 < p ∧ m ≠ -1 ∧ m ≠ -2) ∨ (p < -2 ∧ m ≠ 1 ∧ m ≠ 2)) (by omega)).symm | exact (decide_eq_false (p := (2 < p ∧ m ≠ -1 ∧ m ≠ -2) ∨ (p < -2 ∧ m ≠ 1 ∧ m ≠ 2)) (by omega)).symm), rfl⟩)
              case rest =>
                obtain ⟨rfl, rfl, rfl, rfl, rfl, rfl, rfl, rfl, rfl⟩ := hcut
                have hd := decide_eq_false n7
                rw [hd]
                clear hd
                go_upto_region 22 with fail
                go_cut [2, 6, 7, 8, 9, 10, 11, 185] from 180 to 185 (fun s2 s6 s7 s8 s9 s10 s11 c wx => s2 = .int .i64 (i : Int) ∧ s6 = .int .i64 0 ∧ s7 = .int .i64 v ∧ s8 = .int .i64 m ∧ s9 = .int .i64 gm ∧ s10 = .int .i64 u ∧ s11 = .int .i64 p ∧ c = .bool (decide (p = 0 ∧ m = 0)) ∧ w3 = wx)
                case first =>
                  by_cases q262 : p = 0
                  · have q262b0 : (p == 0) = true := beq_iff_eq.2 q262
                    by_cases q263 : m = 0
                    · have q263b0 : (m == 0) = true := beq_iff_eq.2 q263
                      first
                      | (exfalso; omega)
                      | (go_wp2_with fail; all_goals (try go_meet); all_goals exact ⟨(by first | rfl | exact congrArg (Value.int .i64) (by omega)), (by first | rfl | exact congrArg (Value.int .i64) (by omega)), (by first | rfl | exact congrArg (Value.int .i64) (by omega)), (by first | rfl | exact congrArg (Value.int .i64) (by omega)), (by first | rfl | exact congrArg (Value.int .i64) (by omega)), (by first | rfl | exact congrArg (Value.int .i64) (by omega)), (by first | rfl | exact congrArg (Value.int .i64) (by omega)), congrArg Value.bool (by first | exact (decide_eq_true (p := p = 0 ∧ m = 0) (by omega)).symm | exact (decide_eq_false (p := p = 0 ∧ m = 0) (by omega)).symm), rfl⟩)
                    · have q263b0 : (m == 0) = false := beq_eq_false_iff_ne.2 q263
                      first
                      | (exfalso; omega)
                      | (go_wp2_with fail; all_goals (try go_meet); all_goals exact ⟨(by first | rfl | exact congrArg (Value.int .i64) (by omega)), (by first | rfl | exact congrArg (Value.int .i64) (by omega)), (by first | rfl | exact congrArg (Value.int .i64) (by omega)), (by first | rfl | exact congrArg (Value.int .i64) (by omega)), (by first | rfl | exact congrArg (Value.int .i64) (by omega)), (by first | rfl | exact congrArg (Value.int .i64) (by omega)), (by first | rfl | exact congrArg (Value.int .i64) (by omega)), congrArg Value.bool (by first | exact (decide_eq_true (p := p = 0 ∧ m = 0) (by omega)).symm | exact (decide_eq_false (p := p = 0 ∧ m = 0) (by omega)).symm), rfl⟩)
                  · have q262b0 : (p == 0) = false := beq_eq_false_iff_ne.2 q262
                    first
                    | (exfalso; omega)
                    | (go_wp2_with fail; all_goals (try go_meet); all_goals exact ⟨(by first | rfl | exact congrArg (Value.int .i64) (by omega)), (by first | rfl | exact congrArg (Value.int .i64) (by omega)), (by first | rfl | exact congrArg (Value.int .i64) (by omega)), (by first | rfl | exact congrArg (Value.int .i64) (by omega)), (by first | rfl | exact congrArg (Value.int .i64) (by omega)), (by first | rfl | exact congrArg (Value.int .i64) (by omega)), (by first | rfl | exact congrArg (Value.int .i64) (by omega)), congrArg Value.bool (by first | exact (decide_eq_true (p := p = 0 ∧ m = 0) (by omega)).symm | exact (decide_eq_false (p := p = 0 ∧ m = 0) (by omega)).symm), rfl⟩)
                case rest =>
                  obtain ⟨rfl, rfl, rfl, rfl, rfl, rfl, rfl, rfl, rfl⟩ := hcut
                  by_cases n8 : p = 0 ∧ m = 0
                  · have hd := decide_eq_true n8
                    rw [hd]
                    clear hd
                    go_wp2
                    go_ret
                    exact ⟨ret_int (by rw [← HBK.out]; unfold brk; rw [if_neg n1, if_neg n2, if_neg n3, if_neg n0, if_neg n4, if_neg n5, if_neg n6, if_neg n9, if_neg n7, if_pos n8]; rfl), HW1.out⟩
                  · have hd := decide_eq_false n8
                    rw [hd]
                    clear hd
                    go_wp2
                    go_ret
                    exact ⟨ret_int (by rw [← HBK.out]; unfold brk; rw [if_neg n1, if_neg n2, if_neg n3, if_neg n0, if_neg n4, if_neg n5, if_neg n6, if_neg n9, if_neg n7, if_neg n8]; rfl), HW1.out⟩

set_option maxHeartbeats 40000000 in
theorem RBr_8d (i Lg Ls : Nat) (x y x1 y1 y2 v rv ru m am p gm : Int) (b1 o1 c1 b2 o2 c2 : Nat) (w : World) (hi : i < Ls) (hig : i < Lg) (g8 : Lg ≤ 8) (nx : 0 ≤ x ∧ x ≤ 20) (ny : 0 ≤ y ∧ y ≤ 20) (nx1 : 0 ≤ x1 ∧ x1 ≤ 20) (ny1 : 0 ≤ y1 ∧ y1 ≤ 20) (ny2 : 0 ≤ y2 ∧ y2 ≤ 20)
    (a1 : w.cell? ⟨b1, o1 + i, none⟩ = some (.int .i64 x)) (a2 : w.cell? ⟨b2, o2 + i, none⟩ = some (.int .i64 y)) (a3 : w.cell? ⟨b1, o1 + (i - 1), none⟩ = some (.int .i64 x1)) (a4 : w.cell? ⟨b2, o2 + (i - 1), none⟩ = some (.int .i64 y1)) (a5 : w.cell? ⟨b2, o2 + (i - 1 - 1), none⟩ = some (.int .i64 y2))
    (hv : y - x = v) (hrv : v % 7 = rv) (hru : (y1 - x1) % 7 = ru) (hm : y - y1 = m) (ham : absI m = am) (hgm : x - x1 = gm) (hp : y1 - y2 = p) (hcl : ((((¬ (v < 0 ∨ 14 < v)) ∧ (¬ (¬ (rv = 0 ∨ rv = 4) ∧ rv ≠ 2 ∧ rv ≠ 5)) ∧ (¬ ((i + 1 = Lg ∧ rv ≠ 0) ∨ (i = 0 ∧ rv ≠ 0 ∧ rv ≠ 4))) ∧ (¬ (i = 0)) ∧ (¬ (4 < am ∧ am ≠ 7))) ∧ (¬ ((ru = 0 ∨ ru = 4) ∧ (rv = 0 ∨ rv = 4) ∧ ru = rv ∧ m ≠ 0)) ∧ (¬ ((rv = 0 ∨ rv = 4) ∧ ((0 < m ∧ 0 < gm) ∨ (m < 0 ∧ gm < 0)) ∧ am ≠ 1))) ∧ (¬ (i = 1)) ∧ (¬ ((2 < p ∧ m ≠ -1 ∧ m ≠ -2) ∨ (p < -2 ∧ m ≠ 1 ∧ m ≠ 2)))) ∧ (¬ (rv = 0 ∨ rv = 4))) :
    Calls Try.prog 85 #[.slice (some ⟨b1, o1, none⟩) Lg c1, .slice (some ⟨b2, o2, none⟩) Ls c2, .int .i64 (i : Int)] w fun e w' => e = .returned (.int .i64 (brk v rv ru m am p gm i Lg : Nat)) ∧ ∃ q, w' = w.drewN q := by
  have HCL := Lib.hid hcl
  clear hcl
  have HOv := Lib.hid (fun W => ropen_any v (by omega) W)
  have HOu := Lib.hid (fun W => ropen_any (y1 - x1) (by omega) W)
  have HSv := Lib.hid (fun W => rsort_any v (by omega) W)
  have HSu := Lib.hid (fun W => rsort_any (y1 - x1) (by omega) W)
  have HAm := Lib.hid (fun W => rabs_any m (by omega) W)
  rw [show openB v = decide (v % 7 = 0 ∨ v % 7 = 4) from rfl, hrv] at HOv
  rw [show openB (y1 - x1) = decide ((y1 - x1) % 7 = 0 ∨ (y1 - x1) % 7 = 4) from rfl, hru] at HOu
  rw [hrv] at HSv
  rw [hru] at HSu
  rw [ham] at HAm
  have HTv := Lib.hid (show 0 ≤ v → v.tmod 7 = rv from fun h => by rw [← hrv]; exact Int.tmod_eq_emod_of_nonneg h)
  have HVe := Lib.hid hv
  have HMe := Lib.hid hm
  have HGe := Lib.hid hgm
  have HPe := Lib.hid hp
  have hmb : -20 ≤ m ∧ m ≤ 20 := by omega
  have hpb : -20 ≤ p ∧ p ≤ 20 := by omega
  obtain ⟨u, hu⟩ : ∃ u, y1 - x1 = u := ⟨_, rfl⟩
  have HUe := Lib.hid hu
  rw [hu] at HOu HSu
  have hvb : -20 ≤ v ∧ v ≤ 20 := by omega
  clear hv hrv hru hm ham hgm hp hu
  obtain ⟨bk, hbk⟩ : ∃ bk, brk v rv ru m am p gm i Lg = bk := ⟨_, rfl⟩
  have HBK := Lib.hid hbk
  rw [hbk]
  clear hbk
  go_enter Try.func85, Try.ntmps85
  go_upto_region 1 with fail
  go_quiet (fail)
  obtain ⟨w1, hw1⟩ : ∃ W, w.drewN nq = W := ⟨_, rfl⟩
  have HW1 := Lib.hid (show ∃ q, w1 = w.drewN q from ⟨_, hw1.symm⟩)
  have k1 : ∀ a v, w.cell? a = some v → w1.cell? a = some v := fun a v e => by rw [← hw1]; exact e
  have a3 := k1 _ _ a3
  have a4 := k1 _ _ a4
  have a5 := k1 _ _ a5
  have a1 := k1 _ _ a1
  have a2 := k1 _ _ a2
  rw [hw1, HVe.out]
  clear hw1 k1
  have n1 : ¬ (v < 0 ∨ 14 < v) := by have := HCL.out; omega
  go_upto_region 2 with fail
  go_cut [2, 6, 7, 26] from 12 to 26 (fun s2 s6 s7 c wx => s2 = .int .i64 (i : Int) ∧ s6 = .int .i64 0 ∧ s7 = .int .i64 v ∧ c = .bool (decide (v < 0 ∨ 14 < v)) ∧ w1 = wx)
  case first =>
    by_cases q264 : v < 0
    · have q264b0 : (decide (v < 0)) = true := decide_eq_true q264
      first
      | (exfalso; omega)
      | (go_wp2_with fail; all_goals (try go_meet); all_goals exact ⟨(by first | rfl | exact congrArg (Value.int .i64) (by omega)), (by first | rfl | exact congrArg (Value.int .i64) (by omega)), (by first | rfl | exact congrArg (Value.int .i64) (by omega)), congrArg Value.bool (by first | exact (decide_eq_true (p := v < 0 ∨ 14 < v) (by omega)).symm | exact (decide_eq_false (p := v < 0 ∨ 14 < v) (by omega)).symm), rfl⟩)
    · have q264b0 : (decide (v < 0)) = false := decide_eq_false q264
      by_cases q265 : 14 < v
      · have q265b0 : (decide (14 < v)) = true := decide_eq_true q265
        first
        | (exfalso; omega)
        | (go_wp2_with fail; all_goals (try go_meet); all_goals exact ⟨(by first | rfl | exact congrArg (Value.int .i64) (by omega)), (by first | rfl | exact congrArg (Value.int .i64) (by omega)), (by first | rfl | exact congrArg (Value.int .i64) (by omega)), congrArg Value.bool (by first | exact (decide_eq_true (p := v < 0 ∨ 14 < v) (by omega)).symm | exact (decide_eq_false (p := v < 0 ∨ 14 < v) (by omega)).symm), rfl⟩)
      · have q265b0 : (decide (14 < v)) = false := decide_eq_false q265
        first
        | (exfalso; omega)
        | (go_wp2_with fail; all_goals (try go_meet); all_goals exact ⟨(by first | rfl | exact congrArg (Value.int .i64) (by omega)), (by first | rfl | exact congrArg (Value.int .i64) (by omega)), (by first | rfl | exact congrArg (Value.int .i64) (by omega)), congrArg Value.bool (by first | exact (decide_eq_true (p := v < 0 ∨ 14 < v) (by omega)).symm | exact (decide_eq_false (p := v < 0 ∨ 14 < v) (by omega)).symm), rfl⟩)
  case rest =>
    obtain ⟨rfl, rfl, rfl, rfl, rfl⟩ := hcut
    have hd := decide_eq_false n1
    rw [hd]
    clear hd
    have n2 : ¬ (¬ (rv = 0 ∨ rv = 4) ∧ rv ≠ 2 ∧ rv ≠ 5) := by have := HCL.out; omega
    go_upto_region 4 with fail
    go_cut [2, 6, 7, 39] from 27 to 39 (fun s2 s6 s7 c wx => s2 = .int .i64 (i : Int) ∧ s6 = .int .i64 0 ∧ s7 = .int .i64 v ∧ c = .bool (decide (¬ (rv = 0 ∨ rv = 4) ∧ rv ≠ 2 ∧ rv ≠ 5)) ∧ w1 = wx)
    case first =>
      by_cases q266 : rv = 0 ∨ rv = 4
      · have q266b0 : (decide (rv = 0 ∨ rv = 4)) = true := decide_eq_true q266
        first
        | (exfalso; omega)
        | (go_wp2_with fail; refine (HOv.out _).mono ?_; rintro e wz ⟨rfl, rfl⟩; go_wp2_with fail; all_goals (try go_meet); all_goals exact ⟨(by first | rfl | exact congrArg (Value.int .i64) (by omega)), (by first | rfl | exact congrArg (Value.int .i64) (by omega)), (by first | rfl | exact congrArg (Value.int .i64) (by omega)), congrArg Value.bool (by first | exact (decide_eq_true (p := ¬ (rv = 0 ∨ rv = 4) ∧ rv ≠ 2 ∧ rv ≠ 5) (by omega)).symm | exact (decide_eq_false (p := ¬ (rv = 0 ∨ rv = 4) ∧ rv ≠ 2 ∧ rv ≠ 5) (by omega)).symm), rfl⟩)
      · have q266b0 : (decide (rv = 0 ∨ rv = 4)) = false := decide_eq_false q266
        by_cases q267 : rv = 2
        · have q267b0 : (rv != 2) = false := bne_eq_false_iff_eq.2 q267
          first
          | (exfalso; omega)
          | (go_wp2_with fail; refine (HOv.out _).mono ?_; rintro e wz ⟨rfl, rfl⟩; go_wp2_with fail; refine (HSv.out _).mono ?_; rintro e wz ⟨rfl, rfl⟩; go_wp2_with fail; all_goals (try go_meet); all_goals exact ⟨(by first | rfl | exact congrArg (Value.int .i64) (by omega)), (by first | rfl | exact congrArg (Value.int .i64) (by omega)), (by first | rfl | exact congrArg (Value.int .i64) (by omega)), congrArg Value.bool (by first | exact (decide_eq_true (p := ¬ (rv = 0 ∨ rv = 4) ∧ rv ≠ 2 ∧ rv ≠ 5) (by omega)).symm | exact (decide_eq_false (p := ¬ (rv = 0 ∨ rv = 4) ∧ rv ≠ 2 ∧ rv ≠ 5) (by omega)).symm), rfl⟩)
        · have q267b0 : (rv != 2) = true := bne_iff_ne.2 q267
          by_cases q268 : rv = 5
          · have q268b0 : (rv != 5) = false := bne_eq_false_iff_eq.2 q268
            first
            | (exfalso; omega)
            | (go_wp2_with fail; refine (HOv.out _).mono ?_; rintro e wz ⟨rfl, rfl⟩; go_wp2_with fail; refine (HSv.out _).mono ?_; rintro e wz ⟨rfl, rfl⟩; go_wp2_with fail; refine (HSv.out _).mono ?_; rintro e wz ⟨rfl, rfl⟩; go_wp2_with fail; all_goals (try go_meet); all_goals exact ⟨(by first | rfl | exact congrArg (Value.int .i64) (by omega)), (by first | rfl | exact congrArg (Value.int .i64) (by omega)), (by first | rfl | exact congrArg (Value.int .i64) (by omega)), congrArg Value.bool (by first | exact (decide_eq_true (p := ¬ (rv = 0 ∨ rv = 4) ∧ rv ≠ 2 ∧ rv ≠ 5) (by omega)).symm | exact (decide_eq_false (p := ¬ (rv = 0 ∨ rv = 4) ∧ rv ≠ 2 ∧ rv ≠ 5) (by omega)).symm), rfl⟩)
          · have q268b0 : (rv != 5) = true := bne_iff_ne.2 q268
            first
            | (exfalso; omega)
            | (go_wp2_with fail; refine (HOv.out _).mono ?_; rintro e wz ⟨rfl, rfl⟩; go_wp2_with fail; refine (HSv.out _).mono ?_; rintro e wz ⟨rfl, rfl⟩; go_wp2_with fail; refine (HSv.out _).mono ?_; rintro e wz ⟨rfl, rfl⟩; go_wp2_with fail; all_goals (try go_meet); all_goals exact ⟨(by first | rfl | exact congrArg (Value.int .i64) (by omega)), (by first | rfl | exact congrArg (Value.int .i64) (by omega)), (by first | rfl | exact congrArg (Value.int .i64) (by omega)), congrArg Value.bool (by first | exact (decide_eq_true (p := ¬ (rv = 0 ∨ rv = 4) ∧ rv ≠ 2 ∧ rv ≠ 5) (by omega)).symm | exact (decide_eq_false (p := ¬ (rv = 0 ∨ rv = 4) ∧ rv ≠ 2 ∧ rv ≠ 5) (by omega)).symm), rfl⟩)
    case rest =>
      obtain ⟨rfl, rfl, rfl, rfl, rfl⟩ := hcut
      have hd := decide_eq_false n2
      rw [hd]
      clear hd
      have hv0 : 0 ≤ v := by omega
      have htv := HTv.out hv0
      have n3 : ¬ ((i + 1 = Lg ∧ rv ≠ 0) ∨ (i = 0 ∧ rv ≠ 0 ∧ rv ≠ 4)) := by have := HCL.out; omega
      go_upto_region 6 with fail
      go_cut [2, 6, 7, 63] from 40 to 63 (fun s2 s6 s7 c wx => s2 = .int .i64 (i : Int) ∧ s6 = .int .i64 0 ∧ s7 = .int .i64 v ∧ c = .bool (decide ((i + 1 = Lg ∧ rv ≠ 0) ∨ (i = 0 ∧ rv ≠ 0 ∧ rv ≠ 4))) ∧ w1 = wx)
      case first =>
        by_cases q269 : i + 1 = Lg
        · have q269b0 : ((i : Int) == (Lg : Int) - 1) = true := beq_iff_eq.2 (by omega)
          by_cases q270 : rv = 0
          · have q270b0 : (rv != 0) = false := bne_eq_false_iff_eq.2 q270
            by_cases q271 : i = 0
            · have q271b0 : ((i : Int) == 0) = true := beq_iff_eq.2 (by omega)
              first
              | (exfalso; omega)
              | (go_wp2_with fail; all_goals (try go_meet); all_goals exact ⟨(by first | rfl | exact congrArg (Value.int .i64) (by omega)), (by first | rfl | exact congrArg (Value.int .i64) (by omega)), (by first | rfl | exact congrArg (Value.int .i64) (by omega)), congrArg Value.bool (by first | exact (decide_eq_true (p := (i + 1 = Lg ∧ rv ≠ 0) ∨ (i = 0 ∧ rv ≠ 0 ∧ rv ≠ 4)) (by omega)).symm | exact (decide_eq_false (p := (i + 1 = Lg ∧ rv ≠ 0) ∨ (i = 0 ∧ rv ≠ 0 ∧ rv ≠ 4)) (by omega)).symm), rfl⟩)
            · have q271b0 : ((i : Int) == 0) = false := beq_eq_false_iff_ne.2 (by omega)
              first
              | (exfalso; omega)
              | (go_wp2_with fail; all_goals (try go_meet); all_goals exact ⟨(by first | rfl | exact congrArg (Value.int .i64) (by omega)), (by first | rfl | exact congrArg (Value.int .i64) (by omega)), (by first | rfl | exact congrArg (Value.int .i64) (by omega)), congrArg Value.bool (by first | exact (decide_eq_true (p := (i + 1 = Lg ∧ rv ≠ 0) ∨ (i = 0 ∧ rv ≠ 0 ∧ rv ≠ 4)) (by omega)).symm | exact (decide_eq_false (p := (i + 1 = Lg ∧ rv ≠ 0) ∨ (i = 0 ∧ rv ≠ 0 ∧ rv ≠ 4)) (by omega)).symm), rfl⟩)
          · have q270b0 : (rv != 0) = true := bne_iff_ne.2 q270
            first
            | (exfalso; omega)
            | (go_wp2_with fail; all_goals (try go_meet); all_goals exact ⟨(by first | rfl | exact congrArg (Value.int .i64) (by omega)), (by first | rfl | exact congrArg (Value.int .i64) (by omega)), (by first | rfl | exact congrArg (Value.int .i64) (by omega)), congrArg Value.bool (by first | exact (decide_eq_true (p := (i + 1 = Lg ∧ rv ≠ 0) ∨ (i = 0 ∧ rv ≠ 0 ∧ rv ≠ 4)) (by omega)).symm | exact (decide_eq_false (p := (i + 1 = Lg ∧ rv ≠ 0) ∨ (i = 0 ∧ rv ≠ 0 ∧ rv ≠ 4)) (by omega)).symm), rfl⟩)
        · have q269b0 : ((i : Int) == (Lg : Int) - 1) = false := beq_eq_false_iff_ne.2 (by omega)
          by_cases q272 : i = 0
          · have q272b0 : ((i : Int) == 0) = true := beq_iff_eq.2 (by omega)
            by_cases q273 : rv = 0
            · have q273b0 : (rv != 0) = false := bne_eq_false_iff_eq.2 q273
              first
              | (exfalso; omega)
              | (go_wp2_with fail; all_goals (try go_meet); all_goals exact ⟨(by first | rfl | exact congrArg (Value.int .i64) (by omega)), (by first | rfl | exact congrArg (Value.int .i64) (by omega)), (by first | rfl | exact congrArg (Value.int .i64) (by omega)), congrArg Value.bool (by first | exact (decide_eq_true (p := (i + 1 = Lg ∧ rv ≠ 0) ∨ (i = 0 ∧ rv ≠ 0 ∧ rv ≠ 4)) (by omega)).symm | exact (decide_eq_false (p := (i + 1 = Lg ∧ rv ≠ 0) ∨ (i = 0 ∧ rv ≠ 0 ∧ rv ≠ 4)) (by omega)).symm), rfl⟩)
            · have q273b0 : (rv != 0) = true := bne_iff_ne.2 q273
              by_cases q274 : rv = 4
              · have q274b0 : (rv != 4) = false := bne_eq_false_iff_eq.2 q274
                first
                | (exfalso; omega)
                | (go_wp2_with fail; all_goals (try go_meet); all_goals exact ⟨(by first | rfl | exact congrArg (Value.int .i64) (by omega)), (by first | rfl | exact congrArg (Value.int .i64) (by omega)), (by first | rfl | exact congrArg (Value.int .i64) (by omega)), congrArg Value.bool (by first | exact (decide_eq_true (p := (i + 1 = Lg ∧ rv ≠ 0) ∨ (i = 0 ∧ rv ≠ 0 ∧ rv ≠ 4)) (by omega)).symm | exact (decide_eq_false (p := (i + 1 = Lg ∧ rv ≠ 0) ∨ (i = 0 ∧ rv ≠ 0 ∧ rv ≠ 4)) (by omega)).symm), rfl⟩)
              · have q274b0 : (rv != 4) = true := bne_iff_ne.2 q274
                first
                | (exfalso; omega)
                | (go_wp2_with fail; all_goals (try go_meet); all_goals exact ⟨(by first | rfl | exact congrArg (Value.int .i64) (by omega)), (by first | rfl | exact congrArg (Value.int .i64) (by omega)), (by first | rfl | exact congrArg (Value.int .i64) (by omega)), congrArg Value.bool (by first | exact (decide_eq_true (p := (i + 1 = Lg ∧ rv ≠ 0) ∨ (i = 0 ∧ rv ≠ 0 ∧ rv ≠ 4)) (by omega)).symm | exact (decide_eq_false (p := (i + 1 = Lg ∧ rv ≠ 0) ∨ (i = 0 ∧ rv ≠ 0 ∧ rv ≠ 4)) (by omega)).symm), rfl⟩)
          · have q272b0 : ((i : Int) == 0) = false := beq_eq_false_iff_ne.2 (by omega)
            first
            | (exfalso; omega)
            | (go_wp2_with fail; all_goals (try go_meet); all_goals exact ⟨(by first | rfl | exact congrArg (Value.int .i64) (by omega)), (by first | rfl | exact congrArg (Value.int .i64) (by omega)), (by first | rfl | exact congrArg (Value.int .i64) (by omega)), congrArg Value.bool (by first | exact (decide_eq_true (p := (i + 1 = Lg ∧ rv ≠ 0) ∨ (i = 0 ∧ rv ≠ 0 ∧ rv ≠ 4)) (by omega)).symm | exact (decide_eq_false (p := (i + 1 = Lg ∧ rv ≠ 0) ∨ (i = 0 ∧ rv ≠ 0 ∧ rv ≠ 4)) (by omega)).symm), rfl⟩)
      case rest =>
        obtain ⟨rfl, rfl, rfl, rfl, rfl⟩ := hcut
        clear htv
        have hd := decide_eq_false n3
        rw [hd]
        clear hd
        have n0 : ¬ (i = 0) := by have := HCL.out; omega
        have hd : ((i : Int) == 0) = false := beq_eq_false_iff_ne.2 (by omega)
        have hi1 : 1 ≤ i := by omega
        obtain ⟨z1, z2, z3⟩ := idx1 hi1 (show i < 1000 by omega)
        go_upto_region 10 with fail
        go_quiet (fail)
        go_upto_region 11 with fail
        obtain ⟨w2, hw2⟩ : ∃ W, w1.drewN nq = W := ⟨_, rfl⟩
        have HW2 := Lib.hid (show ∃ q, w2 = w.drewN q by obtain ⟨q, hq⟩ := HW1.out; exact ⟨q + nq, by rw [← hw2, hq, World.drewN_drewN]⟩)
        have k2 : ∀ a v, w1.cell? a = some v → w2.cell? a = some v := fun a v e => by rw [← hw2]; exact e
        have a4 := k2 _ _ a4
        have a5 := k2 _ _ a5
        rw [hw2, HMe.out, HGe.out, HUe.out]
        clear hw2 k2 a1 a2 a3 z1 z2 z3 HW1
        have HW1 := HW2
        clear HW2
        have n4 : ¬ (4 < am ∧ am ≠ 7) := by have := HCL.out; omega
        go_upto_region 11 with fail
        go_cut [2, 6, 7, 8, 9, 10, 104] from 64 to 104 (fun s2 s6 s7 s8 s9 s10 c wx => s2 = .int .i64 (i : Int) ∧ s6 = .int .i64 0 ∧ s7 = .int .i64 v ∧ s8 = .int .i64 m ∧ s9 = .int .i64 gm ∧ s10 = .int .i64 u ∧ c = .bool (decide (4 < am ∧ am ≠ 7)) ∧ w2 = wx)
        case first =>
          by_cases q275 : 4 < am
          · have q275b0 : (decide (4 < am)) = true := decide_eq_true q275
            by_cases q276 : am = 7
            · have q276b0 : (am != 7) = false := bne_eq_false_iff_eq.2 q276
              first
              | (exfalso; omega)
              | (go_wp2_with fail; refine (HAm.out _).mono ?_; rintro e wz ⟨rfl, rfl⟩; go_wp2_with fail; refine (HAm.out _).mono ?_; rintro e wz ⟨rfl, rfl⟩; go_wp2_with fail; all_goals (try go_meet); all_goals exact ⟨(by first | rfl | exact congrArg (Value.int .i64) (by omega)), (by first | rfl | exact congrArg (Value.int .i64) (by omega)), (by first | rfl | exact congrArg (Value.int .i64) (by omega)), (by first | rfl | exact congrArg (Value.int .i64) (by omega)), (by first | rfl | exact congrArg (Value.int .i64) (by omega)), (by first | rfl | exact congrArg (Value.int .i64) (by omega)), congrArg Value.bool (by first | exact (decide_eq_true (p := 4 < am ∧ am ≠ 7) (by omega)).symm | exact (decide_eq_false (p := 4 < am ∧ am ≠ 7) (by omega)).symm), rfl⟩)
            · have q276b0 : (am != 7) = true := bne_iff_ne.2 q276
              first
              | (exfalso; omega)
              | (go_wp2_with fail; refine (HAm.out _).mono ?_; rintro e wz ⟨rfl, rfl⟩; go_wp2_with fail; refine (HAm.out _).mono ?_; rintro e wz ⟨rfl, rfl⟩; go_wp2_with fail; all_goals (try go_meet); all_goals exact ⟨(by first | rfl | exact congrArg (Value.int .i64) (by omega)), (by first | rfl | exact congrArg (Value.int .i64) (by omega)), (by first | rfl | exact congrArg (Value.int .i64) (by omega)), (by first | rfl | exact congrArg (Value.int .i64) (by omega)), (by first | rfl | exact congrArg (Value.int .i64) (by omega)), (by first | rfl | exact congrArg (Value.int .i64) (by omega)), congrArg Value.bool (by first | exact (decide_eq_true (p := 4 < am ∧ am ≠ 7) (by omega)).symm | exact (decide_eq_false (p := 4 < am ∧ am ≠ 7) (by omega)).symm), rfl⟩)
          · have q275b0 : (decide (4 < am)) = false := decide_eq_false q275
            first
            | (exfalso; omega)
            | (go_wp2_with fail; refine (HAm.out _).mono ?_; rintro e wz ⟨rfl, rfl⟩; go_wp2_with fail; all_goals (try go_meet); all_goals exact ⟨(by first | rfl | exact congrArg (Value.int .i64) (by omega)), (by first | rfl | exact congrArg (Value.int .i64) (by omega)), (by first | rfl | exact congrArg (Value.int .i64) (by omega)), (by first | rfl | exact congrArg (Value.int .i64) (by omega)), (by first | rfl | exact congrArg (Value.int .i64) (by omega)), (by first | rfl | exact congrArg (Value.int .i64) (by omega)), congrArg Value.bool (by first | exact (decide_eq_true (p := 4 < am ∧ am ≠ 7) (by omega)).symm | exact (decide_eq_false (p := 4 < am ∧ am ≠ 7) (by omega)).symm), rfl⟩)
        case rest =>
          obtain ⟨rfl, rfl, rfl, rfl, rfl, rfl, rfl, rfl⟩ := hcut
          have hd := decide_eq_false n4
          rw [hd]
          clear hd
          have n5 : ¬ ((ru = 0 ∨ ru = 4) ∧ (rv = 0 ∨ rv = 4) ∧ ru = rv ∧ m ≠ 0) := by have := HCL.out; omega
          go_upto_region 13 with fail
          go_cut [2, 6, 7, 8, 9, 10, 121] from 105 to 121 (fun s2 s6 s7 s8 s9 s10 c wx => s2 = .int .i64 (i : Int) ∧ s6 = .int .i64 0 ∧ s7 = .int .i64 v ∧ s8 = .int .i64 m ∧ s9 = .int .i64 gm ∧ s10 = .int .i64 u ∧ c = .bool (decide ((ru = 0 ∨ ru = 4) ∧ (rv = 0 ∨ rv = 4) ∧ ru = rv ∧ m ≠ 0)) ∧ w2 = wx)
          case first =>
            by_cases q277 : ru = 0 ∨ ru = 4
            · have q277b0 : (decide (ru = 0 ∨ ru = 4)) = true := decide_eq_true q277
              by_cases q278 : rv = 0 ∨ rv = 4
              · have q278b0 : (decide (rv = 0 ∨ rv = 4)) = true := decide_eq_true q278
                by_cases q279 : ru = rv
                · have q279b0 : (ru == rv) = true := beq_iff_eq.2 q279
                  by_cases q280 : m = 0
                  · have q280b0 : (m != 0) = false := bne_eq_false_iff_eq.2 q280
                    first
                    | (exfalso; omega)
                    | (go_wp2_with fail; refine (HOu.out _).mono ?_; rintro e wz ⟨rfl, rfl⟩; go_wp2_with fail; refine (HOv.out _).mono ?_; rintro e wz ⟨rfl, rfl⟩; go_wp2_with fail; refine (HSu.out _).mono ?_; rintro e wz ⟨rfl, rfl⟩; go_wp2_with fail; refine (HSv.out _).mono ?_; rintro e wz ⟨rfl, rfl⟩; go_wp2_with fail; all_goals (try go_meet); all_goals exact ⟨(by first | rfl | exact congrArg (Value.int .i64) (by omega)), (by first | rfl | exact congrArg (Value.int .i64) (by omega)), (by first | rfl | exact congrArg (Value.int .i64) (by omega)), (by first | rfl | exact congrArg (Value.int .i64) (by omega)), (by first | rfl | exact congrArg (Value.int .i64) (by omega)), (by first | rfl | exact congrArg (Value.int .i64) (by omega)), congrArg Value.bool (by first | exact (decide_eq_true (p := (ru = 0 ∨ ru = 4) ∧ (rv = 0 ∨ rv = 4) ∧ ru = rv ∧ m ≠ 0) (by omega)).symm | exact (decide_eq_false (p := (ru = 0 ∨ ru = 4) ∧ (rv = 0 ∨ rv = 4) ∧ ru = rv ∧ m ≠ 0) (by omega)).symm), rfl⟩)
                  · have q280b0 : (m != 0) = true := bne_iff_ne.2 q280
                    first
                    | (exfalso; omega)
                    | (go_wp2_with fail; refine (HOu.out _).mono ?_; rintro e wz ⟨rfl, rfl⟩; go_wp2_with fail; refine (HOv.out _).mono ?_; rintro e wz ⟨rfl, rfl⟩; go_wp2_with fail; refine (HSu.out _).mono ?_; rintro e wz ⟨rfl, rfl⟩; go_wp2_with fail; refine (HSv.out _).mono ?_; rintro e wz ⟨rfl, rfl⟩; go_wp2_with fail; all_goals (try go_meet); all_goals exact ⟨(by first | rfl | exact congrArg (Value.int .i64) (by omega)), (by first | rfl | exact congrArg (Value.int .i64) (by omega)), (by first | rfl | exact congrArg (Value.int .i64) (by omega)), (by first | rfl | exact congrArg (Value.int .i64) (by omega)), (by first | rfl | exact congrArg (Value.int .i64) (by omega)), (by first | rfl | exact congrArg (Value.int .i64) (by omega)), congrArg Value.bool (by first | exact (decide_eq_true (p := (ru = 0 ∨ ru = 4) ∧ (rv = 0 ∨ rv = 4) ∧ ru = rv ∧ m ≠ 0) (by omega)).symm | exact (decide_eq_false (p := (ru = 0 ∨ ru = 4) ∧ (rv = 0 ∨ rv = 4) ∧ ru = rv ∧ m ≠ 0) (by omega)).symm), rfl⟩)
                · have q279b0 : (ru == rv) = false := beq_eq_false_iff_ne.2 q279
                  first
                  | (exfalso; omega)
                  | (go_wp2_with fail; refine (HOu.out _).mono ?_; rintro e wz ⟨rfl, rfl⟩; go_wp2_with fail; refine (HOv.out _).mono ?_; rintro e wz ⟨rfl, rfl⟩; go_wp2_with fail; refine (HSu.out _).mono ?_; rintro e wz ⟨rfl, rfl⟩; go_wp2_with fail; refine (HSv.out _).mono ?_; rintro e wz ⟨rfl, rfl⟩; go_wp2_with fail; all_goals (try go_meet); all_goals exact ⟨(by first | rfl | exact congrArg (Value.int .i64) (by omega)), (by first | rfl | exact congrArg (Value.int .i64) (by omega)), (by first | rfl | exact congrArg (Value.int .i64) (by omega)), (by first | rfl | exact congrArg (Value.int .i64) (by omega)), (by first | rfl | exact congrArg (Value.int .i64) (by omega)), (by first | rfl | exact congrArg (Value.int .i64) (by omega)), congrArg Value.bool (by first | exact (decide_eq_true (p := (ru = 0 ∨ ru = 4) ∧ (rv = 0 ∨ rv = 4) ∧ ru = rv ∧ m ≠ 0) (by omega)).symm | exact (decide_eq_false (p := (ru = 0 ∨ ru = 4) ∧ (rv = 0 ∨ rv = 4) ∧ ru = rv ∧ m ≠ 0) (by omega)).symm), rfl⟩)
              · have q278b0 : (decide (rv = 0 ∨ rv = 4)) = false := decide_eq_false q278
                first
                | (exfalso; omega)
                | (go_wp2_with fail; refine (HOu.out _).mono ?_; rintro e wz ⟨rfl, rfl⟩; go_wp2_with fail; refine (HOv.out _).mono ?_; rintro e wz ⟨rfl, rfl⟩; go_wp2_with fail; all_goals (try go_meet); all_goals exact ⟨(by first | rfl | exact congrArg (Value.int .i64) (by omega)), (by first | rfl | exact congrArg (Value.int .i64) (by omega)), (by first | rfl | exact congrArg (Value.int .i64) (by omega)), (by first | rfl | exact congrArg (Value.int .i64) (by omega)), (by first | rfl | exact congrArg (Value.int .i64) (by omega)), (by first | rfl | exact congrArg (Value.int .i64) (by omega)), congrArg Value.bool (by first | exact (decide_eq_true (p := (ru = 0 ∨ ru = 4) ∧ (rv = 0 ∨ rv = 4) ∧ ru = rv ∧ m ≠ 0) (by omega)).symm | exact (decide_eq_false (p := (ru = 0 ∨ ru = 4) ∧ (rv = 0 ∨ rv = 4) ∧ ru = rv ∧ m ≠ 0) (by omega)).symm), rfl⟩)
            · have q277b0 : (decide (ru = 0 ∨ ru = 4)) = false := decide_eq_false q277
              first
              | (exfalso; omega)
              | (go_wp2_with fail; refine (HOu.out _).mono ?_; rintro e wz ⟨rfl, rfl⟩; go_wp2_with fail; all_goals (try go_meet); all_goals exact ⟨(by first | rfl | exact congrArg (Value.int .i64) (by omega)), (by first | rfl | exact congrArg (Value.int .i64) (by omega)), (by first | rfl | exact congrArg (Value.int .i64) (by omega)), (by first | rfl | exact congrArg (Value.int .i64) (by omega)), (by first | rfl | exact congrArg (Value.int .i64) (by omega)), (by first | rfl | exact congrArg (Value.int .i64) (by omega)), congrArg Value.bool (by first | exact (decide_eq_true (p := (ru = 0 ∨ ru = 4) ∧ (rv = 0 ∨ rv = 4) ∧ ru = rv ∧ m ≠ 0) (by omega)).symm | exact (decide_eq_false (p := (ru = 0 ∨ ru = 4) ∧ (rv = 0 ∨ rv = 4) ∧ ru = rv ∧ m ≠ 0) (by omega)).symm), rfl⟩)
          case rest =>
            obtain ⟨rfl, rfl, rfl, rfl, rfl, rfl, rfl, rfl⟩ := hcut
            have hd := decide_eq_false n5
            rw [hd]
            clear hd
            have n6 : ¬ ((rv = 0 ∨ rv = 4) ∧ ((0 < m ∧ 0 < gm) ∨ (m < 0 ∧ gm < 0)) ∧ am ≠ 1) := by have := HCL.out; omega
            go_upto_region 15 with fail
            go_cut [2, 6, 7, 8, 9, 10, 144] from 122 to 144 (fun s2 s6 s7 s8 s9 s10 c wx => s2 = .int .i64 (i : Int) ∧ s6 = .int .i64 0 ∧ s7 = .int .i64 v ∧ s8 = .int .i64 m ∧ s9 = .int .i64 gm ∧ s10 = .int .i64 u ∧ c = .bool (decide ((rv = 0 ∨ rv = 4) ∧ ((0 < m ∧ 0 < gm) ∨ (m < 0 ∧ gm < 0)) ∧ am ≠ 1)) ∧ w2 = wx)
            case first =>
              by_cases q281 : rv = 0 ∨ rv = 4
              · have q281b0 : (decide (rv = 0 ∨ rv = 4)) = true := decide_eq_true q281
                by_cases q282 : 0 < m
                · have q282b0 : (decide (0 < m)) = true := decide_eq_true q282
                  have q282b1 : (decide (m < 0)) = false := decide_eq_false (by omega)
                  by_cases q283 : 0 < gm
                  · have q283b0 : (decide (0 < gm)) = true := decide_eq_true q283
                    by_cases q284 : am = 1
                    · have q284b0 : (am != 1) = false := bne_eq_false_iff_eq.2 q284
                      first
                      | (exfalso; omega)
                      | (go_wp2_with fail; refine (HOv.out _).mono ?_; rintro e wz ⟨rfl, rfl⟩; go_wp2_with fail; refine (HAm.out _).mono ?_; rintro e wz ⟨rfl, rfl⟩; go_wp2_with fail; all_goals (try go_meet); all_goals exact ⟨(by first | rfl | exact congrArg (Value.int .i64) (by omega)), (by first | rfl | exact congrArg (Value.int .i64) (by omega)), (by first | rfl | exact congrArg (Value.int .i64) (by omega)), (by first | rfl | exact congrArg (Value.int .i64) (by omega)), (by first | rfl | exact congrArg (Value.int .i64) (by omega)), (by first | rfl | exact congrArg (Value.int .i64) (by omega)), congrArg Value.bool (by first | exact (decide_eq_true (p := (rv = 0 ∨ rv = 4) ∧ ((0 < m ∧ 0 < gm) ∨ (m < 0 ∧ gm < 0)) ∧ am ≠ 1) (by omega)).symm | exact (decide_eq_false (p := (rv = 0 ∨ rv = 4) ∧ ((0 < m ∧ 0 < gm) ∨ (m < 0 ∧ gm < 0)) ∧ am ≠ 1) (by omega)).symm), rfl⟩)
                    · have q284b0 : (am != 1) = true := bne_iff_ne.2 q284
                      first
                      | (exfalso; omega)
                      | (go_wp2_with fail; refine (HOv.out _).mono ?_; rintro e wz ⟨rfl, rfl⟩; go_wp2_with fail; refine (HAm.out _).mono ?_; rintro e wz ⟨rfl, rfl⟩; go_wp2_with fail; all_goals (try go_meet); all_goals exact ⟨(by first | rfl | exact congrArg (Value.int .i64) (by omega)), (by first | rfl | exact congrArg (Value.int .i64) (by omega)), (by first | rfl | exact congrArg (Value.int .i64) (by omega)), (by first | rfl | exact congrArg (Value.int .i64) (by omega)), (by first | rfl | exact congrArg (Value.int .i64) (by omega)), (by first | rfl | exact congrArg (Value.int .i64) (by omega)), congrArg Value.bool (by first | exact (decide_eq_true (p := (rv = 0 ∨ rv = 4) ∧ ((0 < m ∧ 0 < gm) ∨ (m < 0 ∧ gm < 0)) ∧ am ≠ 1) (by omega)).symm | exact (decide_eq_false (p := (rv = 0 ∨ rv = 4) ∧ ((0 < m ∧ 0 < gm) ∨ (m < 0 ∧ gm < 0)) ∧ am ≠ 1) (by omega)).symm), rfl⟩)
                  · have q283b0 : (decide (0 < gm)) = false := decide_eq_false q283
                    first
                    | (exfalso; omega)
                    | (go_wp2_with fail; refine (HOv.out _).mono ?_; rintro e wz ⟨rfl, rfl⟩; go_wp2_with fail; all_goals (try go_meet); all_goals exact ⟨(by first | rfl | exact congrArg (Value.int .i64) (by omega)), (by first | rfl | exact congrArg (Value.int .i64) (by omega)), (by first | rfl | exact congrArg (Value.int .i64) (by omega)), (by first | rfl | exact congrArg (Value.int .i64) (by omega)), (by first | rfl | exact congrArg (Value.int .i64) (by omega)), (by first | rfl | exact congrArg (Value.int .i64) (by omega)), congrArg Value.bool (by first | exact (decide_eq_true (p := (rv = 0 ∨ rv = 4) ∧ ((0 < m ∧ 0 < gm) ∨ (m < 0 ∧ gm < 0)) ∧ am ≠ 1) (by omega)).symm | exact (decide_eq_false (p := (rv = 0 ∨ rv = 4) ∧ ((0 < m ∧ 0 < gm) ∨ (m < 0 ∧ gm < 0)) ∧ am ≠ 1) (by omega)).symm), rfl⟩)
                · have q282b0 : (decide (0 < m)) = false := decide_eq_false q282
                  by_cases q285 : m < 0
                  · have q285b0 : (decide (m < 0)) = true := decide_eq_true q285
                    by_cases q286 : gm < 0
                    · have q286b0 : (decide (gm < 0)) = true := decide_eq_true q286
                      by_cases q287 : am = 1
                      · have q287b0 : (am != 1) = false := bne_eq_false_iff_eq.2 q287
                        first
                        | (exfalso; omega)
                        | (go_wp2_with fail; refine (HOv.out _).mono ?_; rintro e wz ⟨rfl, rfl⟩; go_wp2_with fail; refine (HAm.out _).mono ?_; rintro e wz ⟨rfl, rfl⟩; go_wp2_with fail; all_goals (try go_meet); all_goals exact ⟨(by first | rfl | exact congrArg (Value.int .i64) (by omega)), (by first | rfl | exact congrArg (Value.int .i64) (by omega)), (by first | rfl | exact congrArg (Value.int .i64) (by omega)), (by first | rfl | exact congrArg (Value.int .i64) (by omega)), (by first | rfl | exact congrArg (Value.int .i64) (by omega)), (by first | rfl | exact congrArg (Value.int .i64) (by omega)), congrArg Value.bool (by first | exact (decide_eq_true (p := (rv = 0 ∨ rv = 4) ∧ ((0 < m ∧ 0 < gm) ∨ (m < 0 ∧ gm < 0)) ∧ am ≠ 1) (by omega)).symm | exact (decide_eq_false (p := (rv = 0 ∨ rv = 4) ∧ ((0 < m ∧ 0 < gm) ∨ (m < 0 ∧ gm < 0)) ∧ am ≠ 1) (by omega)).symm), rfl⟩)
                      · have q287b0 : (am != 1) = true := bne_iff_ne.2 q287
                        first
                        | (exfalso; omega)
                        | (go_wp2_with fail; refine (HOv.out _).mono ?_; rintro e wz ⟨rfl, rfl⟩; go_wp2_with fail; refine (HAm.out _).mono ?_; rintro e wz ⟨rfl, rfl⟩; go_wp2_with fail; all_goals (try go_meet); all_goals exact ⟨(by first | rfl | exact congrArg (Value.int .i64) (by omega)), (by first | rfl | exact congrArg (Value.int .i64) (by omega)), (by first | rfl | exact congrArg (Value.int .i64) (by omega)), (by first | rfl | exact congrArg (Value.int .i64) (by omega)), (by first | rfl | exact congrArg (Value.int .i64) (by omega)), (by first | rfl | exact congrArg (Value.int .i64) (by omega)), congrArg Value.bool (by first | exact (decide_eq_true (p := (rv = 0 ∨ rv = 4) ∧ ((0 < m ∧ 0 < gm) ∨ (m < 0 ∧ gm < 0)) ∧ am ≠ 1) (by omega)).symm | exact (decide_eq_false (p := (rv = 0 ∨ rv = 4) ∧ ((0 < m ∧ 0 < gm) ∨ (m < 0 ∧ gm < 0)) ∧ am ≠ 1) (by omega)).symm), rfl⟩)
                    · have q286b0 : (decide (gm < 0)) = false := decide_eq_false q286
                      first
                      | (exfalso; omega)
                      | (go_wp2_with fail; refine (HOv.out _).mono ?_; rintro e wz ⟨rfl, rfl⟩; go_wp2_with fail; all_goals (try go_meet); all_goals exact ⟨(by first | rfl | exact congrArg (Value.int .i64) (by omega)), (by first | rfl | exact congrArg (Value.int .i64) (by omega)), (by first | rfl | exact congrArg (Value.int .i64) (by omega)), (by first | rfl | exact congrArg (Value.int .i64) (by omega)), (by first | rfl | exact congrArg (Value.int .i64) (by omega)), (by first | rfl | exact congrArg (Value.int .i64) (by omega)), congrArg Value.bool (by first | exact (decide_eq_true (p := (rv = 0 ∨ rv = 4) ∧ ((0 < m ∧ 0 < gm) ∨ (m < 0 ∧ gm < 0)) ∧ am ≠ 1) (by omega)).symm | exact (decide_eq_false (p := (rv = 0 ∨ rv = 4) ∧ ((0 < m ∧ 0 < gm) ∨ (m < 0 ∧ gm < 0)) ∧ am ≠ 1) (by omega)).symm), rfl⟩)
                  · have q285b0 : (decide (m < 0)) = false := decide_eq_false q285
                    first
                    | (exfalso; omega)
                    | (go_wp2_with fail; refine (HOv.out _).mono ?_; rintro e wz ⟨rfl, rfl⟩; go_wp2_with fail; all_goals (try go_meet); all_goals exact ⟨(by first | rfl | exact congrArg (Value.int .i64) (by omega)), (by first | rfl | exact congrArg (Value.int .i64) (by omega)), (by first | rfl | exact congrArg (Value.int .i64) (by omega)), (by first | rfl | exact congrArg (Value.int .i64) (by omega)), (by first | rfl | exact congrArg (Value.int .i64) (by omega)), (by first | rfl | exact congrArg (Value.int .i64) (by omega)), congrArg Value.bool (by first | exact (decide_eq_true (p := (rv = 0 ∨ rv = 4) ∧ ((0 < m ∧ 0 < gm) ∨ (m < 0 ∧ gm < 0)) ∧ am ≠ 1) (by omega)).symm | exact (decide_eq_false (p := (rv = 0 ∨ rv = 4) ∧ ((0 < m ∧ 0 < gm) ∨ (m < 0 ∧ gm < 0)) ∧ am ≠ 1) (by omega)).symm), rfl⟩)
              · have q281b0 : (decide (rv = 0 ∨ rv = 4)) = false := decide_eq_false q281
                first
                | (exfalso; omega)
                | (go_wp2_with fail; refine (HOv.out _).mono ?_; rintro e wz ⟨rfl, rfl⟩; go_wp2_with fail; all_goals (try go_meet); all_goals exact ⟨(by first | rfl | exact congrArg (Value.int .i64) (by omega)), (by first | rfl | exact congrArg (Value.int .i64) (by omega)), (by first | rfl | exact congrArg (Value.int .i64) (by omega)), (by first | rfl | exact congrArg (Value.int .i64) (by omega)), (by first | rfl | exact congrArg (Value.int .i64) (by omega)), (by first | rfl | exact congrArg (Value.int .i64) (by omega)), congrArg Value.bool (by first | exact (decide_eq_true (p := (rv = 0 ∨ rv = 4) ∧ ((0 < m ∧ 0 < gm) ∨ (m < 0 ∧ gm < 0)) ∧ am ≠ 1) (by omega)).symm | exact (decide_eq_false (p := (rv = 0 ∨ rv = 4) ∧ ((0 < m ∧ 0 < gm) ∨ (m < 0 ∧ gm < 0)) ∧ am ≠ 1) (by omega)).symm), rfl⟩)
            case rest =>
              obtain ⟨rfl, rfl, rfl, rfl, rfl, rfl, rfl, rfl⟩ := hcut
              have hd := decide_eq_false n6
              rw [hd]
              clear hd
              have n9 : ¬ (i = 1) := by have := HCL.out; omega
              have hd : ((i : Int) == 1) = false := beq_eq_false_iff_ne.2 (by omega)
              have hi2 : 2 ≤ i := by omega
              have hi1000 : i < 1000 := by omega
              have z0 : i - 1 - 1 = i - 2 := by omega
              rw [z0] at a5
              clear z0
              obtain ⟨z1, z2, z3⟩ := idx1 hi1 hi1000
              obtain ⟨f1, f2, f3⟩ := idx2 hi2 hi1000
              go_upto_region 19 with fail
              go_quiet (fail)
              go_upto_region 20 with fail
              obtain ⟨w3, hw3⟩ : ∃ W, w2.drewN nq = W := ⟨_, rfl⟩
              have HW2 := Lib.hid (show ∃ q, w3 = w.drewN q by obtain ⟨q, hq⟩ := HW1.out; exact ⟨q + nq, by rw [← hw3, hq, World.drewN_drewN]⟩)
              rw [hw3, HPe.out]
              clear hw3 a4 a5 z1 z2 z3 f1 f2 f3 HW1
              have HW1 := HW2
              clear HW2
              have n7 : ¬ ((2 < p ∧ m ≠ -1 ∧ m ≠ -2) ∨ (p < -2 ∧ m ≠ 1 ∧ m ≠ 2)) := by have := HCL.out; omega
              go_upto_region 20 with fail
              go_cut [2, 6, 7, 8, 9, 10, 11, 179] from 145 to 179 (fun s2 s6 s7 s8 s9 s10 s11 c wx => s2 = .int .i64 (i : Int) ∧ s6 = .int .i64 0 ∧ s7 = .int .i64 v ∧ s8 = .int .i64 m ∧ s9 = .int .i64 gm ∧ s10 = .int .i64 u ∧ s11 = .int .i64 p ∧ c = .bool (decide ((2 < p ∧ m ≠ -1 ∧ m ≠ -2) ∨ (p < -2 ∧ m ≠ 1 ∧ m ≠ 2))) ∧ w3 = wx)
              case first =>
                by_cases q288 : 2 < p
                · have q288b0 : (decide (2 < p)) = true := decide_eq_true q288
                  have q288b1 : (decide (p < -2)) = false := decide_eq_false (by omega)
                  by_cases q289 : m = -1
                  · have q289b0 : (m != -1) = false := bne_eq_false_iff_eq.2 q289
                    first
                    | (exfalso; omega)
                    | (go_wp2_with fail; all_goals (try go_meet); all_goals exact ⟨(by first | rfl | exact congrArg (Value.int .i64) (by omega)), (by first | rfl | exact congrArg (Value.int .i64) (by omega)), (by first | rfl | exact congrArg (Value.int .i64) (by omega)), (by first | rfl | exact congrArg (Value.int .i64) (by omega)), (by first | rfl | exact congrArg (Value.int .i64) (by omega)), (by first | rfl | exact congrArg (Value.int .i64) (by omega)), (by first | rfl | exact congrArg (Value.int .i64) (by omega)), congrArg Value.bool (by first | exact (decide_eq_true (p := (2 < p ∧ m ≠ -1 ∧ m ≠ -2) ∨ (p < -2 ∧ m ≠ 1 ∧ m ≠ 2)) (by omega)).symm | exact (decide_eq_false (p := (2 < p ∧ m ≠ -1 ∧ m ≠ -2) ∨ (p < -2 ∧ m ≠ 1 ∧ m ≠ 2)) (by omega)).symm), rfl⟩)
                  · have q289b0 : (m != -1) = true := bne_iff_ne.2 q289
                    by_cases q290 : m = -2
                    · have q290b0 : (m != -2) = false := bne_eq_false_iff_eq.2 q290
                      first
                      | (exfalso; omega)
                      | (go_wp2_with fail; all_goals (try go_meet); all_goals exact ⟨(by first | rfl | exact congrArg (Value.int .i64) (by omega)), (by first | rfl | exact congrArg (Value.int .i64) (by omega)), (by first | rfl | exact congrArg (Value.int .i64) (by omega)), (by first | rfl | exact congrArg (Value.int .i64) (by omega)), (by first | rfl | exact congrArg (Value.int .i64) (by omega)), (by first | rfl | exact congrArg (Value.int .i64) (by omega)), (by first | rfl | exact congrArg (Value.int .i64) (by omega)), congrArg Value.bool (by first | exact (decide_eq_true (p := (2 < p ∧ m ≠ -1 ∧ m ≠ -2) ∨ (p < -2 ∧ m ≠ 1 ∧ m ≠ 2)) (by omega)).symm | exact (decide_eq_false (p := (2 < p ∧ m ≠ -1 ∧ m ≠ -2) ∨ (p < -2 ∧ m ≠ 1 ∧ m ≠ 2)) (by omega)).symm), rfl⟩)
                    · have q290b0 : (m != -2) = true := bne_iff_ne.2 q290
                      first
                      | (exfalso; omega)
                      | (go_wp2_with fail; all_goals (try go_meet); all_goals exact ⟨(by first | rfl | exact congrArg (Value.int .i64) (by omega)), (by first | rfl | exact congrArg (Value.int .i64) (by omega)), (by first | rfl | exact congrArg (Value.int .i64) (by omega)), (by first | rfl | exact congrArg (Value.int .i64) (by omega)), (by first | rfl | exact congrArg (Value.int .i64) (by omega)), (by first | rfl | exact congrArg (Value.int .i64) (by omega)), (by first | rfl | exact congrArg (Value.int .i64) (by omega)), congrArg Value.bool (by first | exact (decide_eq_true (p := (2 < p ∧ m ≠ -1 ∧ m ≠ -2) ∨ (p < -2 ∧ m ≠ 1 ∧ m ≠ 2)) (by omega)).symm | exact (decide_eq_false (p := (2 < p ∧ m ≠ -1 ∧ m ≠ -2) ∨ (p < -2 ∧ m ≠ 1 ∧ m ≠ 2)) (by omega)).symm), rfl⟩)
                · have q288b0 : (decide (2 < p)) = false := decide_eq_false q288
                  by_cases q291 : p < -2
                  · have q291b0 : (decide (p < -2)) = true := decide_eq_true q291
                    by_cases q292 : m = 1
                    · have q292b0 : (m != 1) = false := bne_eq_false_iff_eq.2 q292
                      first
                      | (exfalso; omega)
                      | (go_wp2_with fail; all_goals (try go_meet); all_goals exact ⟨(by first | rfl | exact congrArg (Value.int .i64) (by omega)), (by first | rfl | exact congrArg (Value.int .i64) (by omega)), (by first | rfl | exact congrArg (Value.int .i64) (by omega)), (by first | rfl | exact congrArg (Value.int .i64) (by omega)), (by first | rfl | exact congrArg (Value.int .i64) (by omega)), (by first | rfl | exact congrArg (Value.int .i64) (by omega)), (by first | rfl | exact congrArg (Value.int .i64) (by omega)), congrArg Value.bool (by first | exact (decide_eq_true (p := (2 < p ∧ m ≠ -1 ∧ m ≠ -2) ∨ (p < -2 ∧ m ≠ 1 ∧ m ≠ 2)) (by omega)).symm | exact (decide_eq_false (p := (2 < p ∧ m ≠ -1 ∧ m ≠ -2) ∨ (p < -2 ∧ m ≠ 1 ∧ m ≠ 2)) (by omega)).symm), rfl⟩)
                    · have q292b0 : (m != 1) = true := bne_iff_ne.2 q292
                      by_cases q293 : m = 2
                      · have q293b0 : (m != 2) = false := bne_eq_false_iff_eq.2 q293
                        first
                        | (exfalso; omega)
                        | (go_wp2_with fail; all_goals (try go_meet); all_goals exact ⟨(by first | rfl | exact congrArg (Value.int .i64) (by omega)), (by first | rfl | exact congrArg (Value.int .i64) (by omega)), (by first | rfl | exact congrArg (Value.int .i64) (by omega)), (by first | rfl | exact congrArg (Value.int .i64) (by omega)), (by first | rfl | exact congrArg (Value.int .i64) (by omega)), (by first | rfl | exact congrArg (Value.int .i64) (by omega)), (by first | rfl | exact congrArg (Value.int .i64) (by omega)), congrArg Value.bool (by first | exact (decide_eq_true (p := (2 < p ∧ m ≠ -1 ∧ m ≠ -2) ∨ (p < -2 ∧ m ≠ 1 ∧ m ≠ 2)) (by omega)).symm | exact (decide_eq_false (p := (2 < p ∧ m ≠ -1 ∧ m ≠ -2) ∨ (p < -2 ∧ m ≠ 1 ∧ m ≠ 2)) (by omega)).symm), rfl⟩)
                      · have q293b0 : (m != 2) = true := bne_iff_ne.2 q293
                        first
                        | (exfalso; omega)
                        | (go_wp2_with fail; all_goals (try go_meet); all_goals exact ⟨(by first | rfl | exact congrArg (Value.int .i64) (by omega)), (by first | rfl | exact congrArg (Value.int .i64) (by omega)), (by first | rfl | exact congrArg (Value.int .i64) (by omega)), (by first | rfl | exact congrArg (Value.int .i64) (by omega)), (by first | rfl | exact congrArg (Value.int .i64) (by omega)), (by first | rfl | exact congrArg (Value.int .i64) (by omega)), (by first | rfl | exact congrArg (Value.int .i64) (by omega)), congrArg Value.bool (by first | exact (decide_eq_true (p := (2 < p ∧ m ≠ -1 ∧ m ≠ -2) ∨ (p < -2 ∧ m ≠ 1 ∧ m ≠ 2)) (by omega)).symm | exact (decide_eq_false (p := (2 < p ∧ m ≠ -1 ∧ m ≠ -2) ∨ (p < -2 ∧ m ≠ 1 ∧ m ≠ 2)) (by omega)).symm), rfl⟩)
                  · have q291b0 : (decide (p < -2)) = false := decide_eq_false q291
                    first
                    | (exfalso; omega)
                    | (go_wp2_with fail; all_goals (try go_meet); all_goals exact ⟨(by first | rfl | exact congrArg (Value.int .i64) (by omega)), (by first | rfl | exact congrArg (Value.int .i64) (by omega)), (by first | rfl | exact congrArg (Value.int .i64) (by omega)), (by first | rfl | exact congrArg (Value.int .i64) (by omega)), (by first | rfl | exact congrArg (Value.int .i64) (by omega)), (by first | rfl | exact congrArg (Value.int .i64) (by omega)), (by first | rfl | exact congrArg (Value.int .i64) (by omega)), congrArg Value.bool (by first | exact (decide_eq_true (p := (2 < p ∧ m ≠ -1 ∧ m ≠ -2) ∨ (p < -2 ∧ m ≠ 1 ∧ m ≠ 2)) (by omega)).symm | exact (decide_eq_false (p := (2 < p ∧ m ≠ -1 ∧ m ≠ -2) ∨ (p < -2 ∧ m ≠ 1 ∧ m ≠ 2)) (by omega)).symm), rfl⟩)
              case rest =>
                obtain ⟨rfl, rfl, rfl, rfl, rfl, rfl, rfl, rfl, rfl⟩ := hcut
                have hd := decide_eq_false n7
                rw [hd]
                clear hd
                go_upto_region 22 with fail
                go_cut [2, 6, 7, 8, 9, 10, 11, 185] from 180 to 185 (fun s2 s6 s7 s8 s9 s10 s11 c wx => s2 = .int .i64 (i : Int) ∧ s6 = .int .i64 0 ∧ s7 = .int .i64 v ∧ s8 = .int .i64 m ∧ s9 = .int .i64 gm ∧ s10 = .int .i64 u ∧ s11 = .int .i64 p ∧ c = .bool (decide (p = 0 ∧ m = 0)) ∧ w3 = wx)
                case first =>
                  by_cases q294 : p = 0
                  · have q294b0 : (p == 0) = true := beq_iff_eq.2 q294
                    by_cases q295 : m = 0
                    · have q295b0 : (m == 0) = true := beq_iff_eq.2 q295
                      first
                      | (exfalso; omega)
                      | (go_wp2_with fail; all_goals (try go_meet); all_goals exact ⟨(by first | rfl | exact congrArg (Value.int .i64) (by omega)), (by first | rfl | exact congrArg (Value.int .i64) (by omega)), (by first | rfl | exact congrArg (Value.int .i64) (by omega)), (by first | rfl | exact congrArg (Value.int .i64) (by omega)), (by first | rfl | exact congrArg (Value.int .i64) (by omega)), (by first | rfl | exact congrArg (Value.int .i64) (by omega)), (by first | rfl | exact congrArg (Value.int .i64) (by omega)), congrArg Value.bool (by first | exact (decide_eq_true (p := p = 0 ∧ m = 0) (by omega)).symm | exact (decide_eq_false (p := p = 0 ∧ m = 0) (by omega)).symm), rfl⟩)
                    · have q295b0 : (m == 0) = false := beq_eq_false_iff_ne.2 q295
                      first
                      | (exfalso; omega)
                      | (go_wp2_with fail; all_goals (try go_meet); all_goals exact ⟨(by first | rfl | exact congrArg (Value.int .i64) (by omega)), (by first | rfl | exact congrArg (Value.int .i64) (by omega)), (by first | rfl | exact congrArg (Value.int .i64) (by omega)), (by first | rfl | exact congrArg (Value.int .i64) (by omega)), (by first | rfl | exact congrArg (Value.int .i64) (by omega)), (by first | rfl | exact congrArg (Value.int .i64) (by omega)), (by first | rfl | exact congrArg (Value.int .i64) (by omega)), congrArg Value.bool (by first | exact (decide_eq_true (p := p = 0 ∧ m = 0) (by omega)).symm | exact (decide_eq_false (p := p = 0 ∧ m = 0) (by omega)).symm), rfl⟩)
                  · have q294b0 : (p == 0) = false := beq_eq_false_iff_ne.2 q294
                    first
                    | (exfalso; omega)
                    | (go_wp2_with fail; all_goals (try go_meet); all_goals exact ⟨(by first | rfl | exact congrArg (Value.int .i64) (by omega)), (by first | rfl | exact congrArg (Value.int .i64) (by omega)), (by first | rfl | exact congrArg (Value.int .i64) (by omega)), (by first | rfl | exact congrArg (Value.int .i64) (by omega)), (by first | rfl | exact congrArg (Value.int .i64) (by omega)), (by first | rfl | exact congrArg (Value.int .i64) (by omega)), (by first | rfl | exact congrArg (Value.int .i64) (by omega)), congrArg Value.bool (by first | exact (decide_eq_true (p := p = 0 ∧ m = 0) (by omega)).symm | exact (decide_eq_false (p := p = 0 ∧ m = 0) (by omega)).symm), rfl⟩)
                case rest =>
                  obtain ⟨rfl, rfl, rfl, rfl, rfl, rfl, rfl, rfl, rfl⟩ := hcut
                  by_cases n8 : p = 0 ∧ m = 0
                  · have hd := decide_eq_true n8
                    rw [hd]
                    clear hd
                    go_wp2
                    go_ret
                    exact ⟨ret_int (by rw [← HBK.out]; unfold brk; rw [if_neg n1, if_neg n2, if_neg n3, if_neg n0, if_neg n4, if_neg n5, if_neg n6, if_neg n9, if_neg n7, if_pos n8]; rfl), HW1.out⟩
                  · have hd := decide_eq_false n8
                    rw [hd]
                    clear hd
                    go_wp2
                    go_ret
                    exact ⟨ret_int (by rw [← HBK.out]; unfold brk; rw [if_neg n1, if_neg n2, if_neg n3, if_neg n0, if_neg n4, if_neg n5, if_neg n6, if_neg n9, if_neg n7, if_neg n8]; rfl), HW1.out⟩
end

section
/-
  The reference's rules at a place, all of them.
-/
open Go.ChangeShapes Go.WideShapes Go.ChangeAt Go.RowKit
set_option maxRecDepth 100000

theorem RBroken_any (gs ss : List Int) (g s : Value) (i : Nat) (w : World) (g8 : gs.length ≤ 8) (hgn : notesB gs = true) (hsn : notesB ss = true) (hi : i < ss.length) (hig : i < gs.length) (h : IntsV w g gs) (k : IntsV w s ss) :
    Calls Try.prog 85 #[g, s, .int .i64 (i : Int)] w fun e w' => e = .returned (.int .i64 (brokenN gs ss i : Nat)) ∧ ∃ q, w' = w.drewN q := by
  rw [broken_brk]
  obtain ⟨b1, o1, c1, rfl, hg0⟩ := d_cells h (by omega)
  obtain ⟨b2, o2, c2, rfl, hs0⟩ := d_cells k (by omega)
  have m1 := note_at hgn hig
  have m2 := note_at hsn hi
  have m3 := note_at hgn (show i - 1 < gs.length by omega)
  have m4 := note_at hsn (show i - 1 < ss.length by omega)
  have m5 := note_at hsn (show i - 1 - 1 < ss.length by omega)
  have a1 := hg0 i hig
  have a2 := hs0 i hi
  have a3 := hg0 (i - 1) (by omega)
  have a4 := hs0 (i - 1) (by omega)
  have a5 := hs0 (i - 1 - 1) (by omega)
  unfold ivA mvA
  generalize nAt gs i = x at *
  generalize nAt ss i = y at *
  generalize nAt gs (i - 1) = x1 at *
  generalize nAt ss (i - 1) = y1 at *
  generalize nAt ss (i - 1 - 1) = y2 at *
  clear hg0 hs0 h k hgn hsn
  generalize gs.length = Lg at *
  generalize ss.length = Ls at *
  generalize hv : y - x = v
  generalize hrv : v % 7 = rv
  generalize hru : (y1 - x1) % 7 = ru
  generalize hm : y - y1 = m
  generalize ham : absI m = am
  generalize hgm : x - x1 = gm
  generalize hp : y1 - y2 = p
  by_cases n1 : v < 0 ∨ 14 < v
  · exact RBr_1 i Lg Ls x y x1 y1 y2 v rv ru m am p gm b1 o1 c1 b2 o2 c2 w hi hig g8 m1 m2 m3 m4 m5 a1 a2 a3 a4 a5 hv hrv hru hm ham hgm hp n1
  by_cases n2 : ¬ (rv = 0 ∨ rv = 4) ∧ rv ≠ 2 ∧ rv ≠ 5
  · exact RBr_2 i Lg Ls x y x1 y1 y2 v rv ru m am p gm b1 o1 c1 b2 o2 c2 w hi hig g8 m1 m2 m3 m4 m5 a1 a2 a3 a4 a5 hv hrv hru hm ham hgm hp ⟨n1, n2⟩
  by_cases n3 : (i + 1 = Lg ∧ rv ≠ 0) ∨ (i = 0 ∧ rv ≠ 0 ∧ rv ≠ 4)
  · exact RBr_3 i Lg Ls x y x1 y1 y2 v rv ru m am p gm b1 o1 c1 b2 o2 c2 w hi hig g8 m1 m2 m3 m4 m5 a1 a2 a3 a4 a5 hv hrv hru hm ham hgm hp ⟨n1, n2, n3⟩
  by_cases n0 : i = 0
  · exact RBr_0 i Lg Ls x y x1 y1 y2 v rv ru m am p gm b1 o1 c1 b2 o2 c2 w hi hig g8 m1 m2 m3 m4 m5 a1 a2 a3 a4 a5 hv hrv hru hm ham hgm hp ⟨n1, n2, n3, n0⟩
  by_cases n4 : 4 < am ∧ am ≠ 7
  · exact RBr_4 i Lg Ls x y x1 y1 y2 v rv ru m am p gm b1 o1 c1 b2 o2 c2 w hi hig g8 m1 m2 m3 m4 m5 a1 a2 a3 a4 a5 hv hrv hru hm ham hgm hp ⟨n1, n2, n3, n0, n4⟩
  have ne : (¬ (v < 0 ∨ 14 < v)) ∧ (¬ (¬ (rv = 0 ∨ rv = 4) ∧ rv ≠ 2 ∧ rv ≠ 5)) ∧ (¬ ((i + 1 = Lg ∧ rv ≠ 0) ∨ (i = 0 ∧ rv ≠ 0 ∧ rv ≠ 4))) ∧ (¬ (i = 0)) ∧ (¬ (4 < am ∧ am ≠ 7)) := ⟨n1, n2, n3, n0, n4⟩
  by_cases n5 : (ru = 0 ∨ ru = 4) ∧ (rv = 0 ∨ rv = 4) ∧ ru = rv ∧ m ≠ 0
  · exact RBr_5 i Lg Ls x y x1 y1 y2 v rv ru m am p gm b1 o1 c1 b2 o2 c2 w hi hig g8 m1 m2 m3 m4 m5 a1 a2 a3 a4 a5 hv hrv hru hm ham hgm hp ⟨ne, n5⟩
  by_cases n6 : (rv = 0 ∨ rv = 4) ∧ ((0 < m ∧ 0 < gm) ∨ (m < 0 ∧ gm < 0)) ∧ am ≠ 1
  · exact RBr_6 i Lg Ls x y x1 y1 y2 v rv ru m am p gm b1 o1 c1 b2 o2 c2 w hi hig g8 m1 m2 m3 m4 m5 a1 a2 a3 a4 a5 hv hrv hru hm ham hgm hp ⟨ne, n5, n6⟩
  have nb : ((¬ (v < 0 ∨ 14 < v)) ∧ (¬ (¬ (rv = 0 ∨ rv = 4) ∧ rv ≠ 2 ∧ rv ≠ 5)) ∧ (¬ ((i + 1 = Lg ∧ rv ≠ 0) ∨ (i = 0 ∧ rv ≠ 0 ∧ rv ≠ 4))) ∧ (¬ (i = 0)) ∧ (¬ (4 < am ∧ am ≠ 7))) ∧ (¬ ((ru = 0 ∨ ru = 4) ∧ (rv = 0 ∨ rv = 4) ∧ ru = rv ∧ m ≠ 0)) ∧ (¬ ((rv = 0 ∨ rv = 4) ∧ ((0 < m ∧ 0 < gm) ∨ (m < 0 ∧ gm < 0)) ∧ am ≠ 1)) := ⟨ne, n5, n6⟩
  by_cases n9 : i = 1
  · exact RBr_9 i Lg Ls x y x1 y1 y2 v rv ru m am p gm b1 o1 c1 b2 o2 c2 w hi hig g8 m1 m2 m3 m4 m5 a1 a2 a3 a4 a5 hv hrv hru hm ham hgm hp ⟨nb, n9⟩
  by_cases no : rv = 0 ∨ rv = 4
  · by_cases n7 : (2 < p ∧ m ≠ -1 ∧ m ≠ -2) ∨ (p < -2 ∧ m ≠ 1 ∧ m ≠ 2)
    · exact RBr_7a i Lg Ls x y x1 y1 y2 v rv ru m am p gm b1 o1 c1 b2 o2 c2 w hi hig g8 m1 m2 m3 m4 m5 a1 a2 a3 a4 a5 hv hrv hru hm ham hgm hp ⟨nb, n9, n7, no⟩
    have n8 : (((¬ (v < 0 ∨ 14 < v)) ∧ (¬ (¬ (rv = 0 ∨ rv = 4) ∧ rv ≠ 2 ∧ rv ≠ 5)) ∧ (¬ ((i + 1 = Lg ∧ rv ≠ 0) ∨ (i = 0 ∧ rv ≠ 0 ∧ rv ≠ 4))) ∧ (¬ (i = 0)) ∧ (¬ (4 < am ∧ am ≠ 7))) ∧ (¬ ((ru = 0 ∨ ru = 4) ∧ (rv = 0 ∨ rv = 4) ∧ ru = rv ∧ m ≠ 0)) ∧ (¬ ((rv = 0 ∨ rv = 4) ∧ ((0 < m ∧ 0 < gm) ∨ (m < 0 ∧ gm < 0)) ∧ am ≠ 1))) ∧ (¬ (i = 1)) ∧ (¬ ((2 < p ∧ m ≠ -1 ∧ m ≠ -2) ∨ (p < -2 ∧ m ≠ 1 ∧ m ≠ 2))) := ⟨nb, n9, n7⟩
    by_cases k1 : 2 < p
    · exact RBr_8a i Lg Ls x y x1 y1 y2 v rv ru m am p gm b1 o1 c1 b2 o2 c2 w hi hig g8 m1 m2 m3 m4 m5 a1 a2 a3 a4 a5 hv hrv hru hm ham hgm hp ⟨n8, no, k1⟩
    by_cases k2 : p < -2
    · exact RBr_8b i Lg Ls x y x1 y1 y2 v rv ru m am p gm b1 o1 c1 b2 o2 c2 w hi hig g8 m1 m2 m3 m4 m5 a1 a2 a3 a4 a5 hv hrv hru hm ham hgm hp ⟨n8, no, k2⟩
    exact RBr_8c i Lg Ls x y x1 y1 y2 v rv ru m am p gm b1 o1 c1 b2 o2 c2 w hi hig g8 m1 m2 m3 m4 m5 a1 a2 a3 a4 a5 hv hrv hru hm ham hgm hp ⟨n8, no, by omega, by omega⟩
  · by_cases n7 : (2 < p ∧ m ≠ -1 ∧ m ≠ -2) ∨ (p < -2 ∧ m ≠ 1 ∧ m ≠ 2)
    · exact RBr_7b i Lg Ls x y x1 y1 y2 v rv ru m am p gm b1 o1 c1 b2 o2 c2 w hi hig g8 m1 m2 m3 m4 m5 a1 a2 a3 a4 a5 hv hrv hru hm ham hgm hp ⟨nb, n9, n7, no⟩
    have n8 : (((¬ (v < 0 ∨ 14 < v)) ∧ (¬ (¬ (rv = 0 ∨ rv = 4) ∧ rv ≠ 2 ∧ rv ≠ 5)) ∧ (¬ ((i + 1 = Lg ∧ rv ≠ 0) ∨ (i = 0 ∧ rv ≠ 0 ∧ rv ≠ 4))) ∧ (¬ (i = 0)) ∧ (¬ (4 < am ∧ am ≠ 7))) ∧ (¬ ((ru = 0 ∨ ru = 4) ∧ (rv = 0 ∨ rv = 4) ∧ ru = rv ∧ m ≠ 0)) ∧ (¬ ((rv = 0 ∨ rv = 4) ∧ ((0 < m ∧ 0 < gm) ∨ (m < 0 ∧ gm < 0)) ∧ am ≠ 1))) ∧ (¬ (i = 1)) ∧ (¬ ((2 < p ∧ m ≠ -1 ∧ m ≠ -2) ∨ (p < -2 ∧ m ≠ 1 ∧ m ≠ 2))) := ⟨nb, n9, n7⟩
    exact RBr_8d i Lg Ls x y x1 y1 y2 v rv ru m am p gm b1 o1 c1 b2 o2 c2 w hi hig g8 m1 m2 m3 m4 m5 a1 a2 a3 a4 a5 hv hrv hru hm ham hgm hp ⟨n8, no⟩
end

end Go.Proofs.Ytlmfmfbnbbooaaa
