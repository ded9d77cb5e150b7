/-
  Moving, turning and multiplying: the program's way and the reference's are the same; the walk of the statement on them.
-/
import Derived.Test.YtehjdhegnpmfaaaDoorMoves
namespace Go.Proofs.YtehjdhegnpmfaaaDoor
open Go.RowKit Go.Shelf
attribute [local go_sem] Oper.semAt_some
set_option maxRecDepth 100000

theorem mul_map {n c : Nat} (m : Int) (h2 : n ≤ 16) (hc : c < 2 ^ n) : mulN n c m = mapN n c m 0 := by
  unfold mulN mapN
  rw [tonesL_eq c (by omega) hc]
  congr 1
  funext t
  rw [Int.mul_comm, Int.add_zero]

theorem orL_congr {f g : Nat → Nat} {l : List Nat} (h : ∀ t ∈ l, f t = g t) : orL f l = orL g l := by
  apply Nat.eq_of_testBit_eq
  intro i
  rw [testBit_orL, testBit_orL, Bool.eq_iff_iff, List.any_eq_true, List.any_eq_true]
  constructor
  · rintro ⟨t, ht, e⟩; exact ⟨t, ht, by rwa [← h t ht]⟩
  · rintro ⟨t, ht, e⟩; exact ⟨t, ht, by rwa [h t ht]⟩

theorem mem_tonesB {n c t : Nat} : t ∈ tonesB n c ↔ t < n ∧ c.testBit t = true := by
  unfold tonesB; simp

/-- A tone moved by u, modulo n. -/
theorem mv_orL {n c u : Nat} (hu : u < n) (hc : c < 2 ^ n) : mvN n c u = orL (fun t => (t + u) % n) (tonesB n c) := by
  apply Nat.eq_of_testBit_eq
  intro i
  rw [testBit_mv hu hc, testBit_orL, Bool.eq_iff_iff, Bool.and_eq_true, List.any_eq_true, decide_eq_true_eq]
  constructor
  · rintro ⟨hi, hb⟩
    refine ⟨(i + n - u) % n, mem_tonesB.2 ⟨Nat.mod_lt _ (by omega), hb⟩, ?_⟩
    rw [decide_eq_true_eq, Nat.mod_add_mod, show i + n - u + u = i + n from by omega, Nat.add_mod_right, Nat.mod_eq_of_lt hi]
  · rintro ⟨t, ht, e⟩
    obtain ⟨ht1, ht2⟩ := mem_tonesB.1 ht
    rw [decide_eq_true_eq] at e
    subst e
    refine ⟨Nat.mod_lt _ (by omega), ?_⟩
    have e2 : ((t + u) % n + n - u) % n = t := by
      by_cases h : t + u < n
      · rw [Nat.mod_eq_of_lt h, show t + u + n - u = t + n from by omega, Nat.add_mod_right, Nat.mod_eq_of_lt ht1]
      · rw [show t + u = (t + u - n) + n from by omega, Nat.add_mod_right, Nat.mod_eq_of_lt (show t + u - n < n by omega), show t + u - n + n - u = t from by omega, Nat.mod_eq_of_lt ht1]
    rw [e2]; exact ht2

theorem mv_map {n c u : Nat} (hu : u < n) (hc : c < 2 ^ n) : mvN n c u = mapN n c 1 u := by
  rw [mv_orL hu hc]
  unfold mapN
  apply orL_congr
  intro t _
  rw [Int.one_mul]
  have e : ((t : Int) + u) % n = (((t + u) % n : Nat) : Int) := by simp
  rw [e, Int.toNat_natCast]

theorem refMove_ok (n c : Nat) (k : Int) (h1 : 2 ≤ n) (h2 : n ≤ 16) (h3 : c < 2 ^ n) (w : World) :
    Calls Tryd.prog 20 #[.int .i64 n, .int .i64 c, .int .i64 k] w fun e w' => e = .returned (.int .i64 (mvN n c (k % n).toNat : Nat)) ∧ w = w' := by
  have h0 : 0 ≤ k % n := Int.emod_nonneg _ (by omega)
  have h5 : k % n < n := Int.emod_lt_of_pos _ (by omega)
  obtain ⟨u, hu⟩ := Int.eq_ofNat_of_zero_le h0
  rw [hu] at h5
  have hmod : ∀ V : World, Calls Tryd.prog 53 #[.int .i64 k, .int .i64 n] V fun e w' => e = .returned (.int .i64 u) ∧ V = w' := fun V => by
    have h9 := mod_any k n (by omega) (by omega) V
    rwa [hu] at h9
  have HM := Lib.hid hmod
  have hmap : ∀ V : World, Calls Tryd.prog 52 #[.int .i64 n, .int .i64 c, .int .i64 1, .int .i64 u] V fun e w' => e = .returned (.int .i64 (mvN n c u : Nat)) ∧ V = w' := fun V => by
    have h9 := mapped_any n c 1 u h1 h2 h3 (by omega) (by omega) (by omega) (by omega) V
    rwa [← mv_map (by omega) h3] at h9
  have HP := Lib.hid hmap
  have e : (k % n).toNat = u := by rw [hu, Int.toNat_natCast]
  rw [e]
  clear hmod hmap hu e h0 h3
  go_enter Tryd.func20, Tryd.ntmps20
  go_wp2_with (first | (go_at_call 53; refine (HM.out _).mono ?_; rintro e w' ⟨rfl, rfl⟩) | (go_at_call 52; refine (HP.out _).mono ?_; rintro e w' ⟨rfl, rfl⟩))
  go_ret
  exact ⟨rfl, rfl⟩

theorem refTurn_ok (n c : Nat) (h1 : 2 ≤ n) (h2 : n ≤ 16) (h3 : c < 2 ^ n) (w : World) :
    Calls Tryd.prog 21 #[.int .i64 n, .int .i64 c] w fun e w' => e = .returned (.int .i64 (mulN n c (-1) : Nat)) ∧ w = w' := by
  have hmap : ∀ V : World, Calls Tryd.prog 52 #[.int .i64 n, .int .i64 c, .int .i64 (-1), .int .i64 0] V fun e w' => e = .returned (.int .i64 (mulN n c (-1) : Nat)) ∧ V = w' := fun V => by
    have h9 := mapped_any n c (-1) 0 h1 h2 h3 (by omega) (by omega) (by omega) (by omega) V
    rwa [← mul_map (-1) h2 h3] at h9
  have HP := Lib.hid hmap
  clear hmap h3
  go_enter Tryd.func21, Tryd.ntmps21
  go_wp2_with (go_at_call 52; refine (HP.out _).mono ?_; rintro e w' ⟨rfl, rfl⟩)
  go_ret
  exact ⟨rfl, rfl⟩

theorem refTimes_ok (n c m : Nat) (h1 : 2 ≤ n) (h2 : n ≤ 16) (h3 : c < 2 ^ n) (h4 : m ≤ 16) (w : World) :
    Calls Tryd.prog 23 #[.int .i64 n, .int .i64 c, .int .i64 m] w fun e w' => e = .returned (.int .i64 (mulN n c m : Nat)) ∧ w = w' := by
  have hmap : ∀ V : World, Calls Tryd.prog 52 #[.int .i64 n, .int .i64 c, .int .i64 m, .int .i64 0] V fun e w' => e = .returned (.int .i64 (mulN n c m : Nat)) ∧ V = w' := fun V => by
    have h9 := mapped_any n c m 0 h1 h2 h3 (by omega) (by omega) (by omega) (by omega) V
    rwa [← mul_map m h2 h3] at h9
  have HP := Lib.hid hmap
  clear hmap h3
  go_enter Tryd.func23, Tryd.ntmps23
  go_wp2_with (go_at_call 52; refine (HP.out _).mono ?_; rintro e w' ⟨rfl, rfl⟩)
  go_ret
  exact ⟨rfl, rfl⟩

theorem awake_any (w : World) : Calls Tryd.prog 19 #[] w fun e w' => e = .returned (.bool true) ∧ Below w.heap.size w w' := by
  have HM : ∀ V : World, Calls Tryd.prog 15 #[.int .i64 4, .int .i64 3, .int .i64 1] V fun e w' => e = .returned (.tuple #[.int .i64 6, .int .i64 0]) ∧ Below V.heap.size V w' := fun V => Move_ok 4 3 1 (by omega) (by omega) (by omega) V
  have HM' := Lib.hid HM
  clear HM
  go_enter Tryd.func19, Tryd.ntmps19
  go_wp2_with (go_at_call 15; refine (HM'.out _).mono ?_; rintro e w' ⟨rfl, hb⟩)
  go_ret
  exact ⟨rfl, by assumption⟩

theorem ChordsMoves_walk (n c k m : Int) (_w0 : (Lit.int .i64 n).wf = true) (_w1 : (Lit.int .i64 c).wf = true) (_w2 : (Lit.int .i64 k).wf = true) (_w3 : (Lit.int .i64 m).wf = true) (w : World) (hT : Tab w) :
    Calls Tryd.prog 3 #[.int .i64 n, .int .i64 c, .int .i64 k, .int .i64 m] w fun e w' => e = .returned (.bool true) ∧ Below w.heap.size w w' := by
  by_cases hv : vldB n c = true
  · have HV : ∀ V : World, Calls Tryd.prog 18 #[.int .i64 n, .int .i64 c] V fun e w' => e = .returned (.bool true) ∧ V = w' := fun V => by
      have := Valid_any n c V; rwa [hv] at this
    have HV' := Lib.hid HV
    clear HV
    have Hv := Lib.hid hv
    obtain ⟨n, c, rfl, rfl, h1, h2, h3⟩ := vldB_nat hv
    have H3 := Lib.hid h3
    clear hv h3
    have H1 := Lib.hid (Move_ok n c k h1 h2 H3.out)
    have R1 := Lib.hid (refMove_ok n c k h1 h2 H3.out)
    have H2 := Lib.hid (Turn_ok n c h1 h2 H3.out)
    have R2 := Lib.hid (refTurn_ok n c h1 h2 H3.out)
    generalize mvN n c (k % n).toNat = A at H1 R1
    by_cases hm : mulOkB n c m = true
    · obtain ⟨m, rfl, hm1, hm2, hg⟩ : ∃ m' : Nat, m = m' ∧ 1 ≤ m' ∧ m' < n ∧ Nat.gcd n m' = 1 := by
        unfold mulOkB copB at hm
        rw [Hv.out, Bool.true_and, Bool.and_eq_true] at hm
        obtain ⟨a1, a2⟩ := of_decide_eq_true hm.1
        obtain ⟨m', rfl⟩ := Int.eq_ofNat_of_zero_le (show 0 ≤ m by omega)
        exact ⟨m', rfl, by omega, by omega, by simpa using hm.2⟩
      have H4 := Lib.hid (Times_ok n c m h1 h2 H3.out hm1 hm2 hg)
      have R4 := Lib.hid (refTimes_ok n c m h1 h2 H3.out (by omega))
      have HC : ∀ V : World, Calls Tryd.prog 22 #[.int .i64 m, .int .i64 n] V fun e w' => e = .returned (.bool true) ∧ ∃ q, w' = V.drewN q := fun V => by
        have := Coprime_any m n (by omega) (by omega) V
        unfold copB at this
        rwa [Nat.gcd_comm, hg] at this
      have HC' := Lib.hid HC
      clear HC hg hm
      generalize mulN n c m = C at H4 R4
      generalize mulN n c (-1) = B at H2 R2
      go_enter Tryd.func3, Tryd.ntmps3
      go_wp2_with fail
      refine (H1.out _).mono ?_
      rintro e w1 ⟨rfl, b1⟩
      have t1 := hT.same b1
      go_wp2_with fail
      refine (H2.out _ t1).mono ?_
      rintro e w2 ⟨rfl, b2⟩
      have t2 := t1.same b2
      go_wp2_with fail
      refine (H4.out _ t2).mono ?_
      rintro e w3 ⟨rfl, b3⟩
      have c3 := below_next (below_next b1 b2) b3
      clear b1 b2 b3 t1 t2
      go_wp2_with fail
      refine (HV'.out _).mono ?_
      rintro e w4 ⟨rfl, rfl⟩
      go_wp2_with fail
      refine (R1.out _).mono ?_
      rintro e w4 ⟨rfl, rfl⟩
      go_wp2_with fail
      refine (R2.out _).mono ?_
      rintro e w4 ⟨rfl, rfl⟩
      go_wp2_with fail
      refine (awake_any _).mono ?_
      rintro e w5 ⟨rfl, b5⟩
      have c5 := below_next c3 b5
      clear c3 b5
      go_wp2_with fail
      refine (HC'.out _).mono ?_
      rintro e w6 ⟨rfl, q, rfl⟩
      go_wp2_with fail
      refine (R4.out _).mono ?_
      rintro e w6 ⟨rfl, rfl⟩
      go_wp2
      go_ret
      exact ⟨rfl, below_drewN c5 _⟩
    · have hm' : mulOkB n c m = false := by simpa using hm
      have H4 := Lib.hid (Times_bad n c m hm')
      generalize mulN n c (-1) = B at H2 R2
      by_cases hm1 : 1 ≤ m
      · by_cases hm2 : m < n
        · have hc : ∃ m' : Nat, m = m' ∧ Nat.gcd n m' ≠ 1 := by
            unfold mulOkB copB at hm'
            rw [Hv.out, decide_eq_true ⟨hm1, hm2⟩] at hm'
            obtain ⟨m', rfl⟩ := Int.eq_ofNat_of_zero_le (show 0 ≤ m by omega)
            exact ⟨m', rfl, by simpa using hm'⟩
          obtain ⟨m, rfl, hg⟩ := hc
          have HC : ∀ V : World, Calls Tryd.prog 22 #[.int .i64 m, .int .i64 n] V fun e w' => e = .returned (.bool false) ∧ ∃ q, w' = V.drewN q := fun V => by
            have := Coprime_any m n (by omega) (by omega) V
            unfold copB at this
            rwa [Nat.gcd_comm, beq_eq_false_iff_ne.2 hg] at this
          have HC' := Lib.hid HC
          clear HC hg hm hm'
          go_enter Tryd.func3, Tryd.ntmps3
          go_wp2_with fail
          refine (H1.out _).mono ?_
          rintro e w1 ⟨rfl, b1⟩
          have t1 := hT.same b1
          go_wp2_with fail
          refine (H2.out _ t1).mono ?_
          rintro e w2 ⟨rfl, b2⟩
          go_wp2_with fail
          refine (H4.out _).mono ?_
          rintro e w3 ⟨rfl, b3⟩
          have c3 := below_next (below_next b1 b2) b3
          clear b1 b2 b3 t1
          go_wp2_with fail
          refine (HV'.out _).mono ?_
          rintro e w4 ⟨rfl, rfl⟩
          go_wp2_with fail
          refine (R1.out _).mono ?_
          rintro e w4 ⟨rfl, rfl⟩
          go_wp2_with fail
          refine (R2.out _).mono ?_
          rintro e w4 ⟨rfl, rfl⟩
          go_wp2_with fail
          refine (awake_any _).mono ?_
          rintro e w5 ⟨rfl, b5⟩
          have c5 := below_next c3 b5
          clear c3 b5
          go_wp2_with fail
          refine (HC'.out _).mono ?_
          rintro e w6 ⟨rfl, q, rfl⟩
          go_wp2
          go_ret
          exact ⟨rfl, below_drewN c5 _⟩
        · clear hm hm'
          go_enter Tryd.func3, Tryd.ntmps3
          go_wp2_with fail
          refine (H1.out _).mono ?_
          rintro e w1 ⟨rfl, b1⟩
          have t1 := hT.same b1
          go_wp2_with fail
          refine (H2.out _ t1).mono ?_
          rintro e w2 ⟨rfl, b2⟩
          go_wp2_with fail
          refine (H4.out _).mono ?_
          rintro e w3 ⟨rfl, b3⟩
          have c3 := below_next (below_next b1 b2) b3
          clear b1 b2 b3 t1
          go_wp2_with fail
          refine (HV'.out _).mono ?_
          rintro e w4 ⟨rfl, rfl⟩
          go_wp2_with fail
          refine (R1.out _).mono ?_
          rintro e w4 ⟨rfl, rfl⟩
          go_wp2_with fail
          refine (R2.out _).mono ?_
          rintro e w4 ⟨rfl, rfl⟩
          go_wp2_with fail
          refine (awake_any _).mono ?_
          rintro e w5 ⟨rfl, b5⟩
          have c5 := below_next c3 b5
          clear c3 b5
          go_wp2
          go_ret
          exact ⟨rfl, c5⟩
      · clear hm hm'
        go_enter Tryd.func3, Tryd.ntmps3
        go_wp2_with fail
        refine (H1.out _).mono ?_
        rintro e w1 ⟨rfl, b1⟩
        have t1 := hT.same b1
        go_wp2_with fail
        refine (H2.out _ t1).mono ?_
        rintro e w2 ⟨rfl, b2⟩
        go_wp2_with fail
        refine (H4.out _).mono ?_
        rintro e w3 ⟨rfl, b3⟩
        have c3 := below_next (below_next b1 b2) b3
        clear b1 b2 b3 t1
        go_wp2_with fail
        refine (HV'.out _).mono ?_
        rintro e w4 ⟨rfl, rfl⟩
        go_wp2_with fail
        refine (R1.out _).mono ?_
        rintro e w4 ⟨rfl, rfl⟩
        go_wp2_with fail
        refine (R2.out _).mono ?_
        rintro e w4 ⟨rfl, rfl⟩
        go_wp2_with fail
        refine (awake_any _).mono ?_
        rintro e w5 ⟨rfl, b5⟩
        have c5 := below_next c3 b5
        clear c3 b5
        go_wp2
        go_ret
        exact ⟨rfl, c5⟩
  · have hv' : vldB n c = false := by simpa using hv
    have hm' : mulOkB n c m = false := by unfold mulOkB; rw [hv']; rfl
    have HV : ∀ V : World, Calls Tryd.prog 18 #[.int .i64 n, .int .i64 c] V fun e w' => e = .returned (.bool false) ∧ V = w' := fun V => by
      have := Valid_any n c V; rwa [hv'] at this
    have HV' := Lib.hid HV
    have H1 := Lib.hid (Move_bad n c k hv')
    have H2 := Lib.hid (Turn_bad n c hv')
    have H3 := Lib.hid (Times_bad n c m hm')
    clear HV hv hv' hm' hT
    go_enter Tryd.func3, Tryd.ntmps3
    go_wp2_with fail
    refine (H1.out _).mono ?_
    rintro e w1 ⟨rfl, b1⟩
    go_wp2_with fail
    refine (H2.out _).mono ?_
    rintro e w2 ⟨rfl, b2⟩
    go_wp2_with fail
    refine (H3.out _).mono ?_
    rintro e w3 ⟨rfl, b3⟩
    go_wp2_with fail
    refine (HV'.out _).mono ?_
    rintro e w4 ⟨rfl, rfl⟩
    go_wp2_with fail
    refine (awake_any _).mono ?_
    rintro e w5 ⟨rfl, b5⟩
    go_wp2
    go_ret
    exact ⟨rfl, below_next (below_next (below_next b1 b2) b3) b5⟩

end Go.Proofs.YtehjdhegnpmfaaaDoor
