/-
  Move, Turn, Times of package chords, and those of its reference: their contracts.
-/
import Derived.Test.YtehjdhegnpmfaaaDoorMult
import Derived.WalkSmall
namespace Go.Proofs.YtehjdhegnpmfaaaDoor
open Go.RowKit Go.Shelf
attribute [local go_sem] Oper.semAt_some
set_option maxRecDepth 100000

theorem valid1 (n c : Int) (b cap : Nat) (w : World) (hc : w.cell? ⟨b, 0, none⟩ = some (.int .i64 c)) :
    Calls Tryd.prog 47 #[.int .i64 n, .slice (some ⟨b, 0, none⟩) 1 cap] w fun e w' => e = .returned (.bool (vldB n c)) ∧ w = w' := by
  refine (valid_any n [c] b cap w (by simp) (fun i hi => ?_)).mono ?_
  · obtain rfl : i = 0 := by simpa using hi
    exact hc
  · rintro e w' ⟨rfl, rfl⟩
    exact ⟨ret_bool (by rw [vldB_eq]; simp), rfl⟩

theorem valid2 (n c d : Int) (b cap : Nat) (w : World) (hc : w.cell? ⟨b, 0, none⟩ = some (.int .i64 c)) (hd : w.cell? ⟨b, 1, none⟩ = some (.int .i64 d)) :
    Calls Tryd.prog 47 #[.int .i64 n, .slice (some ⟨b, 0, none⟩) 2 cap] w fun e w' => e = .returned (.bool (vldB n c && vldB n d)) ∧ w = w' := by
  refine (valid_any n [c, d] b cap w (by simp) (fun i hi => ?_)).mono ?_
  · obtain rfl | rfl : i = 0 ∨ i = 1 := by simp at hi; omega
    · exact hc
    · exact hd
  · rintro e w' ⟨rfl, rfl⟩
    refine ⟨ret_bool ?_, rfl⟩
    rw [vldB_eq, vldB_eq]
    simp only [List.all_cons, List.all_nil]
    cases vldN n <;> cases vldC n c <;> cases vldC n d <;> rfl

/-- A valid circle and chord, as natural numbers. -/
theorem vldB_nat {n c : Int} (h : vldB n c = true) : ∃ n' c' : Nat, n = n' ∧ c = c' ∧ 2 ≤ n' ∧ n' ≤ 16 ∧ c' < 2 ^ n' := by
  unfold vldB at h
  obtain ⟨h1, h2, h3, h4⟩ := of_decide_eq_true h
  obtain ⟨n', rfl⟩ := Int.eq_ofNat_of_zero_le (show 0 ≤ n by omega)
  obtain ⟨c', rfl⟩ := Int.eq_ofNat_of_zero_le h3
  refine ⟨n', c', rfl, rfl, by omega, by omega, ?_⟩
  rw [Int.toNat_natCast] at h4
  have e : (2 : Int) ^ n' = ((2 ^ n' : Nat) : Int) := by simp
  rw [e] at h4
  omega

theorem vldB_of_nat {n c : Nat} (h1 : 2 ≤ n) (h2 : n ≤ 16) (h3 : c < 2 ^ n) : vldB n c = true := by
  unfold vldB
  refine decide_eq_true ⟨by omega, by omega, by omega, ?_⟩
  rw [Int.toNat_natCast]
  have e : (2 : Int) ^ n = ((2 ^ n : Nat) : Int) := by simp
  rw [e]; omega

theorem Move_bad (n c k : Int) (h : vldB n c = false) (w : World) :
    Calls Tryd.prog 15 #[.int .i64 n, .int .i64 c, .int .i64 k] w fun e w' => e = .returned (.tuple #[.int .i64 0, .int .i64 2]) ∧ Below w.heap.size w w' := by
  have HV : ∀ V : World, V.cell? ⟨w.heap.size, 0, none⟩ = some (.int .i64 c) → Calls Tryd.prog 47 #[.int .i64 n, .slice (some ⟨w.heap.size, 0, none⟩) 1 1] V fun e w' => e = .returned (.bool false) ∧ V = w' :=
    fun V hc => by have := valid1 n c w.heap.size 1 V hc; rwa [h] at this
  have HV' := Lib.hid HV
  clear HV h
  go_enter Tryd.func15, Tryd.ntmps15
  go_wp2_with (go_at_call 47; refine (HV'.out _ (cell_at rfl)).mono ?_; rintro e w' ⟨rfl, rfl⟩)
  go_ret2
  exact ⟨rfl, (Below.refl _ w).alloc (Nat.le_refl _) _⟩

theorem Move_ok (n c : Nat) (k : Int) (h1 : 2 ≤ n) (h2 : n ≤ 16) (h3 : c < 2 ^ n) (w : World) :
    Calls Tryd.prog 15 #[.int .i64 n, .int .i64 c, .int .i64 k] w fun e w' => e = .returned (.tuple #[.int .i64 (mvN n c (k % n).toNat : Nat), .int .i64 0]) ∧ Below w.heap.size w w' := by
  have HV : ∀ V : World, V.cell? ⟨w.heap.size, 0, none⟩ = some (.int .i64 c) → Calls Tryd.prog 47 #[.int .i64 n, .slice (some ⟨w.heap.size, 0, none⟩) 1 1] V fun e w' => e = .returned (.bool true) ∧ V = w' :=
    fun V hc => by have := valid1 n c w.heap.size 1 V hc; rwa [vldB_of_nat h1 h2 h3] at this
  have HV' := Lib.hid HV
  have HM := Lib.hid (fun V => move_any n c k h1 h2 h3 V)
  clear HV
  go_enter Tryd.func15, Tryd.ntmps15
  go_wp2_with (first | (go_at_call 47; refine (HV'.out _ (cell_at rfl)).mono ?_; rintro e w' ⟨rfl, rfl⟩) | (go_at_call 48; refine (HM.out _).mono ?_; rintro e w' ⟨rfl, mm, rfl⟩))
  go_ret2
  exact ⟨rfl, below_drewN ((Below.refl _ w).alloc (Nat.le_refl _) _) _⟩

/-- What valid says of one chord, wherever it lies. -/
theorem valid_of (n c : Int) (v : Bool) (h : vldB n c = v) (b : Nat) (V : World) (hc : V.cell? ⟨b, 0, none⟩ = some (.int .i64 c)) :
    Calls Tryd.prog 47 #[.int .i64 n, .slice (some ⟨b, 0, none⟩) 1 1] V fun e w' => e = .returned (.bool v) ∧ V = w' := by
  have := valid1 n c b 1 V hc
  rwa [h] at this

theorem Turn_bad (n c : Int) (h : vldB n c = false) (w : World) :
    Calls Tryd.prog 16 #[.int .i64 n, .int .i64 c] w fun e w' => e = .returned (.tuple #[.int .i64 0, .int .i64 2]) ∧ Below w.heap.size w w' := by
  have HV := Lib.hid (valid_of n c _ h)
  clear h
  go_enter Tryd.func16, Tryd.ntmps16
  go_wp2_with (go_at_call 47; refine (HV.out _ _ (cell_at rfl)).mono ?_; rintro e w' ⟨rfl, rfl⟩)
  go_ret2
  exact ⟨rfl, (Below.refl _ w).alloc (Nat.le_refl _) _⟩

theorem Turn_ok (n c : Nat) (h1 : 2 ≤ n) (h2 : n ≤ 16) (h3 : c < 2 ^ n) (w : World) (hT : Tab w) :
    Calls Tryd.prog 16 #[.int .i64 n, .int .i64 c] w fun e w' => e = .returned (.tuple #[.int .i64 (mulN n c (-1) : Nat), .int .i64 0]) ∧ Below w.heap.size w w' := by
  have HV := Lib.hid (valid_of n c _ (vldB_of_nat h1 h2 h3))
  have hB : Below w.heap.size w (w.alloc (.cells #[.int .i64 c] 3)) := (Below.refl _ w).alloc (Nat.le_refl _) _
  have HM := Lib.hid (turn_any n c h1 h2 h3 (w.alloc (.cells #[.int .i64 c] 3)) (hT.same hB))
  clear hT
  go_enter Tryd.func16, Tryd.ntmps16
  go_wp2_with (first | (go_at_call 47; refine (HV.out _ _ (cell_at rfl)).mono ?_; rintro e w' ⟨rfl, rfl⟩) | (go_at_call 49; refine HM.out.mono ?_; rintro e w' ⟨rfl, hb⟩))
  go_ret2
  exact ⟨rfl, hB.trans (Below.mono (by assumption) (by simp))⟩

/-- What Times takes. -/
def mulOkB (n c m : Int) : Bool := vldB n c && (decide (1 ≤ m ∧ m < n) && copB n.toNat m.toNat)

theorem Times_bad (n c m : Int) (h : mulOkB n c m = false) (w : World) :
    Calls Tryd.prog 17 #[.int .i64 n, .int .i64 c, .int .i64 m] w fun e w' => e = .returned (.tuple #[.int .i64 0, .int .i64 2]) ∧ Below w.heap.size w w' := by
  have hB : Below w.heap.size w (w.alloc (.cells #[.int .i64 c] 3)) := (Below.refl _ w).alloc (Nat.le_refl _) _
  by_cases hv : vldB n c = true
  · have HV := Lib.hid (valid_of n c _ hv)
    obtain ⟨n, c, rfl, rfl, h1, h2, h3⟩ := vldB_nat hv
    by_cases hm1 : 1 ≤ m
    · by_cases hm2 : m < n
      · obtain ⟨m, rfl⟩ := Int.eq_ofNat_of_zero_le (show 0 ≤ m by omega)
        have hc : copB n m = false := by
          unfold mulOkB at h
          rw [hv, decide_eq_true ⟨hm1, hm2⟩] at h
          simpa using h
        have hg : (((Nat.gcd n m : Nat) : Int) != 1) = true := by
          unfold copB at hc
          rw [bne_iff_ne]
          have := beq_eq_false_iff_ne.1 hc
          omega
        have HG := Lib.hid (fun V => commonDivisor_any n m (by omega) (by omega) V)
        generalize Nat.gcd n m = g at hg HG
        clear hc h hv
        go_enter Tryd.func17, Tryd.ntmps17
        go_wp2_with (first | (go_at_call 47; refine (HV.out _ _ (cell_at rfl)).mono ?_; rintro e w' ⟨rfl, rfl⟩) | (go_at_call 50; refine (HG.out _).mono ?_; rintro e w' ⟨rfl, mm, rfl⟩))
        go_ret2
        exact ⟨rfl, below_drewN hB _⟩
      · clear h hv
        go_enter Tryd.func17, Tryd.ntmps17
        go_wp2_with (go_at_call 47; refine (HV.out _ _ (cell_at rfl)).mono ?_; rintro e w' ⟨rfl, rfl⟩)
        go_ret2
        exact ⟨rfl, hB⟩
    · clear h hv
      go_enter Tryd.func17, Tryd.ntmps17
      go_wp2_with (go_at_call 47; refine (HV.out _ _ (cell_at rfl)).mono ?_; rintro e w' ⟨rfl, rfl⟩)
      go_ret2
      exact ⟨rfl, hB⟩
  · have HV := Lib.hid (valid_of n c false (by simpa using hv))
    clear h hv
    go_enter Tryd.func17, Tryd.ntmps17
    go_wp2_with (go_at_call 47; refine (HV.out _ _ (cell_at rfl)).mono ?_; rintro e w' ⟨rfl, rfl⟩)
    go_ret2
    exact ⟨rfl, hB⟩

theorem Times_ok (n c m : Nat) (h1 : 2 ≤ n) (h2 : n ≤ 16) (h3 : c < 2 ^ n) (hm1 : 1 ≤ m) (hm2 : m < n) (hg : Nat.gcd n m = 1) (w : World) (hT : Tab w) :
    Calls Tryd.prog 17 #[.int .i64 n, .int .i64 c, .int .i64 m] w fun e w' => e = .returned (.tuple #[.int .i64 (mulN n c m : Nat), .int .i64 0]) ∧ Below w.heap.size w w' := by
  have HV := Lib.hid (valid_of n c _ (vldB_of_nat h1 h2 h3))
  have hB : Below w.heap.size w (w.alloc (.cells #[.int .i64 c] 3)) := (Below.refl _ w).alloc (Nat.le_refl _) _
  have HG : ∀ V : World, Calls Tryd.prog 50 #[.int .i64 n, .int .i64 m] V fun e w' => e = .returned (.int .i64 1) ∧ ∃ k, w' = V.drewN k :=
    fun V => by have := commonDivisor_any n m (by omega) (by omega) V; rwa [hg] at this
  have HG' := Lib.hid HG
  have HM := Lib.hid (fun k => multiply_any n c m h1 h2 h3 (by omega) (by omega) ((w.alloc (.cells #[.int .i64 c] 3)).drewN k) ((hT.same hB).below (below_drewN (Below.refl _ _) k) (hT.same hB).size))
  clear hT HG hg
  go_enter Tryd.func17, Tryd.ntmps17
  go_wp2_with (first | (go_at_call 47; refine (HV.out _ _ (cell_at rfl)).mono ?_; rintro e w' ⟨rfl, rfl⟩) | (go_at_call 50; refine (HG'.out _).mono ?_; rintro e w' ⟨rfl, mm, rfl⟩) | (go_at_call 51; refine (HM.out _).mono ?_; rintro e w' ⟨rfl, hb⟩))
  go_ret2
  exact ⟨rfl, (below_drewN hB _).trans (Below.mono (by assumption) (by simp))⟩

/-! ### the reference -/

/-- A chord mapped, as the reference makes it. -/
def mapN (n c : Nat) (m k : Int) : Nat := orL (fun x => ((m * x + k) % n).toNat) (tonesB n c)

theorem bit_int (c x : Nat) (hc : c < 2 ^ 62) : bits .and .i64 ((c : Int) / 2 ^ x) 1 = if c.testBit x then 1 else 0 := by
  have e1 : (c : Int) / 2 ^ x = ((c / 2 ^ x : Nat) : Int) := by simp
  have e2 : (1 : Int) = ((1 : Nat) : Int) := rfl
  have hb : c / 2 ^ x < 2 ^ 63 := Nat.lt_of_le_of_lt (Nat.div_le_self _ _) (by omega)
  rw [e1, e2, and_nat _ _ hb (by omega), Nat.and_one_is_mod, Nat.testBit_eq_decide_div_mod_eq]
  have := Nat.mod_two_eq_zero_or_one (c / 2 ^ x)
  rcases this with h | h <;> simp [h]

theorem tonesB_succ (k c : Nat) : tonesB (k + 1) c = tonesB k c ++ if c.testBit k then [k] else [] := by
  unfold tonesB
  rw [List.range_succ, List.filter_append]
  congr 1
  cases h : c.testBit k <;> simp [h]

theorem mapped_any (n c : Nat) (m k : Int) (h1 : 2 ≤ n) (h2 : n ≤ 16) (h3 : c < 2 ^ n) (hm : -16 ≤ m) (hm2 : m ≤ 16) (hk : 0 ≤ k) (hk2 : k ≤ 16) (w : World) :
    Calls Tryd.prog 52 #[.int .i64 n, .int .i64 c, .int .i64 m, .int .i64 k] w fun e w' => e = .returned (.int .i64 (mapN n c m k : Nat)) ∧ w = w' := by
  have hn2 : 2 ^ n ≤ 2 ^ 16 := Nat.pow_le_pow_right (by omega) h2
  have HB := Lib.hid (fun x => bit_int c x (by omega))
  have H3 := Lib.hid h3
  have HL : Hid (∀ j, orL (fun x => ((m * x + k) % n).toNat) (tonesB j c) < 65536) := fun j =>
    Nat.lt_of_lt_of_le (orL_lt _ _ n (fun t _ => by
      have a1 : 0 ≤ (m * t + k) % n := Int.emod_nonneg _ (by omega)
      have a2 : (m * t + k) % n < n := Int.emod_lt_of_pos _ (by omega)
      omega)) (by omega)
  clear h3
  go_enter Tryd.func52, Tryd.ntmps52
  go_wp2
  go_loop [9, 10, 12] (fun o _ i => ∃ j : Nat, j ≤ n ∧ i = .int .i64 j ∧ o = .int .i64 (orL (fun x => ((m * x + k) % n).toNat) (tonesB j c) : Nat)) (fun _ _ i => n - (intOf i).toNat)
  case atStart => exact ⟨0, Nat.zero_le _, rfl, rfl⟩
  case round =>
    obtain ⟨j, hj, rfl, rfl⟩ := hrel
    by_cases hlt : j < n
    · have hL := HL.out j
      by_cases hb : c.testBit j = true
      · have hb1 : (bits .and .i64 ((c : Int) / 2 ^ j) 1 == 1) = true := by rw [HB.out j, if_pos hb]; rfl
        have hbm : -256 ≤ m * (j : Int) ∧ m * (j : Int) ≤ 256 := by
          have a1 : m * (j : Int) ≤ 16 * j := Int.mul_le_mul_of_nonneg_right hm2 (by omega)
          have a2 : -16 * (j : Int) ≤ m * j := Int.mul_le_mul_of_nonneg_right hm (by omega)
          omega
        have hu0 : 0 ≤ (m * (j : Int) + k) % n := Int.emod_nonneg _ (by omega)
        have hu1 : (m * (j : Int) + k) % n < n := Int.emod_lt_of_pos _ (by omega)
        obtain ⟨u, hu⟩ := Int.eq_ofNat_of_zero_le hu0
        rw [hu] at hu1
        have hp := pow_bd (u : Int) (by omega) (by omega)
        simp only [Int.toNat_natCast] at hp
        have hmod : ∀ V : World, Calls Tryd.prog 53 #[.int .i64 (m * (j : Int) + k), .int .i64 n] V fun e w' => e = .returned (.int .i64 u) ∧ V = w' := fun V => by
          have h9 := mod_any (m * (j : Int) + k) n (by omega) (by omega) V
          rwa [hu] at h9
        have HMod := Lib.hid hmod
        have HE := Lib.hid (show orL (fun x => ((m * x + k) % n).toNat) (tonesB (j + 1) c) = orL (fun x => ((m * x + k) % n).toNat) (tonesB j c) ||| 2 ^ u by
          rw [tonesB_succ, if_pos hb, orL_snoc, hu, Nat.one_shiftLeft, Int.toNat_natCast])
        have HO : Hid (bits .or .i64 ((orL (fun x => ((m * x + k) % n).toNat) (tonesB j c) : Nat) : Int) (2 ^ u) = ((orL (fun x => ((m * x + k) % n).toNat) (tonesB (j + 1) c) : Nat) : Int)) := Lib.hid (by
          have b3 : 2 ^ u ≤ 2 ^ 16 := Nat.pow_le_pow_right (by omega) (by omega)
          have e2 : (2 : Int) ^ u = ((2 ^ u : Nat) : Int) := by simp
          rw [HE.out, e2, or_nat _ _ (by omega) (by omega)])
        generalize orL (fun x => ((m * x + k) % n).toNat) (tonesB j c) = o at hL HO HE
        clear hu hu0 hmod hb
        go_wp2_with (go_at_call 53; refine (HMod.out _).mono ?_; rintro e w' ⟨rfl, rfl⟩)
        go_round
        case rel => exact ⟨j + 1, by omega, by go_num, by rw [HO.out]⟩
        case measure => simp only [intOf]; omega
      · have hb1 : (bits .and .i64 ((c : Int) / 2 ^ j) 1 == 1) = false := by rw [HB.out j, if_neg hb]; rfl
        have HE := Lib.hid (show orL (fun x => ((m * x + k) % n).toNat) (tonesB (j + 1) c) = orL (fun x => ((m * x + k) % n).toNat) (tonesB j c) by
          rw [tonesB_succ, if_neg hb, List.append_nil])
        generalize orL (fun x => ((m * x + k) % n).toNat) (tonesB j c) = o at hL HE
        clear hb
        go_wp2
        go_round
        case rel => exact ⟨j + 1, by omega, by go_num, by rw [HE.out]⟩
        case measure => simp only [intOf]; omega
    · obtain rfl : j = n := by omega
      go_wp2
      go_ret
      exact ⟨rfl, rfl⟩

end Go.Proofs.YtehjdhegnpmfaaaDoor
