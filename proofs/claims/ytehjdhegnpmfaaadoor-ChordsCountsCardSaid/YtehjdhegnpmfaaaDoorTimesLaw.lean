/-
  Multiplying a chord takes the number of each distance to the distance of its multiple: the mathematics, and the walk of the statement.
-/
import Derived.Test.YtehjdhegnpmfaaaDoorVecFns
namespace Go.Proofs.YtehjdhegnpmfaaaDoor
open Go.RowKit Go.Shelf
attribute [local go_sem] Oper.semAt_some
set_option maxRecDepth 100000

theorem inverses : ((List.range 17).all fun n => (List.range 17).all fun m => !(decide (2 ≤ n) && Nat.gcd n m == 1) || (List.range 17).any fun k => (m * k) % n == 1) = true := by decide +kernel

theorem inverse {n m : Nat} (h1 : 2 ≤ n) (h2 : n ≤ 16) (hm : m < n) (hg : Nat.gcd n m = 1) : ∃ k, (m * k) % n = 1 := by
  have h := List.all_eq_true.1 inverses n (List.mem_range.2 (by omega))
  have h := List.all_eq_true.1 h m (List.mem_range.2 (by omega))
  rw [decide_eq_true h1, hg] at h
  have h' : ((List.range 17).any fun k => (m * k) % n == 1) = true := by simpa using h
  obtain ⟨k, _, hk⟩ := List.any_eq_true.1 h'
  exact ⟨k, by simpa using hk⟩

theorem mul_cancel {n m k t : Nat} (hk : (m * k) % n = 1) (ht : t < n) : ((t * m) % n * k) % n = t := by
  rw [Nat.mod_mul_mod, Nat.mul_assoc, Nat.mul_mod, hk, Nat.mul_one, Nat.mod_mod, Nat.mod_eq_of_lt ht]

theorem mulN_nat {n c m : Nat} (h2 : n ≤ 64) (hc : c < 2 ^ n) : mulN n c m = orL (fun t => (t * m) % n) (tonesB n c) := by
  unfold mulN
  rw [tonesL_eq c h2 hc]
  apply orL_congr
  intro t _
  have e : ((t : Int) * m) % n = (((t * m) % n : Nat) : Int) := by simp
  rw [e, Int.toNat_natCast]

theorem bI_mul {n c m k t : Nat} (h2 : n ≤ 64) (hc : c < 2 ^ n) (hk : (m * k) % n = 1) (ht : t < n) : bI (mulN n c m) ((t * m) % n) = bI c t := by
  unfold bI
  rw [mulN_nat h2 hc, testBit_orL]
  have e : ((tonesB n c).any fun s => decide ((s * m) % n = (t * m) % n)) = c.testBit t := by
    rw [Bool.eq_iff_iff, List.any_eq_true]
    constructor
    · rintro ⟨s, hs, he⟩
      obtain ⟨s1, s2⟩ := mem_tonesB.1 hs
      rw [decide_eq_true_eq] at he
      have : s = t := by rw [← mul_cancel hk s1, he, mul_cancel hk ht]
      rw [← this]; exact s2
    · intro hb
      exact ⟨t, mem_tonesB.2 ⟨ht, hb⟩, by simp⟩
  rw [e]

theorem aut_mul {n c m k d : Nat} (h1 : 2 ≤ n) (h2 : n ≤ 64) (hc : c < 2 ^ n) (hk : (m * k) % n = 1) : autN n (mulN n c m) ((d * m) % n) = autN n c d := by
  unfold autN
  have hkm : (k * m) % n = 1 := by rw [Nat.mul_comm]; exact hk
  rw [← sum_perm n (fun i => (i * m) % n) (fun j => (j * k) % n) (fun i _ => Nat.mod_lt _ (by omega)) (fun j _ => Nat.mod_lt _ (by omega)) (fun i hi => mul_cancel hk hi) (fun j hj => mul_cancel hkm hj)
    (fun t => bI (mulN n c m) t * bI (mulN n c m) ((t + (d * m) % n) % n))]
  refine sum_congr (fun t ht => ?_)
  show bI (mulN n c m) ((t * m) % n) * bI (mulN n c m) (((t * m) % n + (d * m) % n) % n) = _
  rw [bI_mul h2 hc hk ht, ← Nat.add_mod, ← Nat.add_mul, ← Nat.mod_mul_mod (t + d) m n, bI_mul h2 hc hk (Nat.mod_lt _ (by omega))]

theorem aut_symm {n c d : Nat} (hd : d < n) : autN n c (n - d) = autN n c d := by
  unfold autN
  rw [← sum_move n d hd (fun t => bI c t * bI c ((t + (n - d)) % n))]
  refine sum_congr (fun t ht => ?_)
  show bI c ((t + d) % n) * bI c (((t + d) % n + (n - d)) % n) = _
  rw [Nat.mod_add_mod, show t + d + (n - d) = t + n from by omega, Nat.add_mod_right, Nat.mod_eq_of_lt ht, Nat.mul_comm]

/-- The distance of a multiple. -/
theorem vec_times {n c m d : Nat} (h1 : 2 ≤ n) (h2 : n ≤ 16) (hc : c < 2 ^ n) (hm : m < n) (hg : Nat.gcd n m = 1) (hd : 1 ≤ d) (hd2 : 2 * d ≤ n) (hc' : mulN n c m < 2 ^ n) :
    0 < (d * m) % n ∧ (vecN n c)[d - 1]?.getD 0 = (vecN n (mulN n c m))[min ((d * m) % n) (n - (d * m) % n) - 1]?.getD 0 := by
  obtain ⟨k, hk⟩ := inverse h1 h2 hm hg
  have he := mul_cancel hk (show d < n by omega)
  have hlt := Nat.mod_lt (d * m) (show 0 < n by omega)
  have ha := aut_mul (d := d) h1 (by omega) hc hk
  have hdm : ((2 * d * m) % n * k) % n = (2 * d) % n := by
    rw [Nat.mod_mul_mod, Nat.mul_assoc, Nat.mul_mod, hk, Nat.mul_one, Nat.mod_mod]
  have h2e : (2 * ((d * m) % n)) % n = (2 * d * m) % n := by rw [Nat.mul_mod_mod, Nat.mul_assoc]
  generalize (d * m) % n = e at he hlt ha h2e
  have h0 : 0 < e := by
    apply Nat.pos_of_ne_zero
    intro h; subst h; simp at he; omega
  refine ⟨h0, ?_⟩
  have hhalf : 2 * e = n ↔ 2 * d = n := by
    constructor
    · intro h
      rw [h, Nat.mod_self] at h2e
      rw [← h2e] at hdm
      simp at hdm
      obtain ⟨q, hq⟩ := Nat.dvd_of_mod_eq_zero hdm.symm
      have : q = 1 := by
        rcases q with _ | _ | q
        · omega
        · rfl
        · exfalso
          have : n * 2 ≤ n * (q + 1 + 1) := Nat.mul_le_mul_left _ (by omega)
          omega
      subst this; omega
    · intro h
      have e3 : (2 * d * m) % n = 0 := by rw [h]; exact Nat.mul_mod_right n m
      rw [e3] at h2e
      obtain ⟨q, hq⟩ := Nat.dvd_of_mod_eq_zero h2e
      have : q = 1 := by
        rcases q with _ | _ | q
        · omega
        · rfl
        · exfalso
          have : n * 2 ≤ n * (q + 1 + 1) := Nat.mul_le_mul_left _ (by omega)
          omega
      subst this; omega
  have hy : ∀ y, 1 ≤ y → 2 * y ≤ n → (2 * y = n ↔ 2 * d = n) → autN n (mulN n c m) y = autN n c d → (vecN n c)[d - 1]?.getD 0 = (vecN n (mulN n c m))[y - 1]?.getD 0 := by
    intro y y1 y2 y3 y4
    rw [aut_vec (by omega) hc' y1 y2, aut_vec (by omega) hc hd hd2] at y4
    by_cases h : 2 * d = n
    · rw [if_pos h, if_pos (y3.2 h)] at y4; omega
    · rw [if_neg h, if_neg (fun e => h (y3.1 e))] at y4; omega
  rw [Nat.min_def]
  split
  · exact hy e h0 (by omega) hhalf ha
  · exact hy (n - e) (by omega) (by omega) (by omega) ((aut_symm hlt).trans ha)

theorem mulN_lt {n c : Nat} {m : Int} (h1 : 2 ≤ n) : mulN n c m < 2 ^ n := orL_lt _ _ _ (fun t _ => by
  have a1 : 0 ≤ ((t : Int) * m) % n := Int.emod_nonneg _ (by omega)
  have a2 : ((t : Int) * m) % n < n := Int.emod_lt_of_pos _ (by omega)
  omega)

theorem ChordsTimes_walk (n c m : Int) (_w0 : (Lit.int .i64 n).wf = true) (_w1 : (Lit.int .i64 c).wf = true) (_w2 : (Lit.int .i64 m).wf = true) (w : World) (hT : Tab w) :
    Calls Tryd.prog 10 #[.int .i64 n, .int .i64 c, .int .i64 m] w fun e w' => e = .returned (.bool true) ∧ Below w.heap.size w w' := by
  by_cases hm : mulOkB n c m = true
  · obtain ⟨n, c, m, rfl, rfl, rfl, h1, h2, h3, hm1, hm2, hg, hv⟩ : ∃ n' c' m' : Nat, n = n' ∧ c = c' ∧ m = m' ∧ 2 ≤ n' ∧ n' ≤ 16 ∧ c' < 2 ^ n' ∧ 1 ≤ m' ∧ m' < n' ∧ Nat.gcd n' m' = 1 ∧ vldB n' c' = true := by
      unfold mulOkB copB at hm
      rw [Bool.and_eq_true, Bool.and_eq_true] at hm
      obtain ⟨n', c', rfl, rfl, h1, h2, h3⟩ := vldB_nat hm.1
      obtain ⟨a1, a2⟩ := of_decide_eq_true hm.2.1
      obtain ⟨m', rfl⟩ := Int.eq_ofNat_of_zero_le (show 0 ≤ m by omega)
      exact ⟨n', c', m', rfl, rfl, rfl, h1, h2, h3, by omega, by omega, by simpa using hm.2.2, hm.1⟩
    have HV : ∀ V : World, Calls Tryd.prog 18 #[.int .i64 n, .int .i64 c] V fun e w' => e = .returned (.bool true) ∧ V = w' := fun V => by
      have := Valid_any n c V; rwa [hv] at this
    have HV' := Lib.hid HV
    have hml := mulN_lt (n := n) (c := c) (m := (m : Int)) h1
    have H1 := Lib.hid (Vector_ok n c h1 h2 h3)
    have H2 := Lib.hid (Vector_ok n (mulN n c m) h1 h2 hml)
    have HM := Lib.hid (Times_ok n c m h1 h2 h3 hm1 hm2 hg)
    have HO := Lib.hid (fun d hd hd2 => vec_times (n := n) (c := c) (m := m) (d := d) h1 h2 h3 hm2 hg hd hd2 hml)
    have Hla := Lib.hid (vecN_length n c)
    have Hlb := Lib.hid (vecN_length n (mulN n c m))
    generalize vecN n (mulN n c m) = B at H2 HO Hlb
    generalize vecN n c = A at H1 HO Hla
    generalize mulN n c m = c' at H2 HM
    clear hv HV hm hg hml h3
    go_enter Tryd.func10, Tryd.ntmps10
    go_wp2_with fail
    refine (HM.out _ hT).mono ?_
    rintro e w0 ⟨rfl, bl0⟩
    have t0 := hT.same bl0
    go_wp2_with fail
    refine (HV'.out _).mono ?_
    rintro e w4 ⟨rfl, rfl⟩
    go_wp2_with fail
    refine (H1.out _ t0).mono ?_
    rintro e w1 ⟨b1, rfl, hb1, r1, bl1⟩
    have t1 := t0.same bl1
    go_wp2_with fail
    refine (H2.out _ t1).mono ?_
    rintro e w2 ⟨b2, rfl, hb2, r2, bl2⟩
    have c2 := below_next (below_next bl0 bl1) bl2
    have r1' := r1.later bl2
    clear r1 bl1 bl2 t1 t0 hT bl0
    go_wp2_with fail
    go_loopw [13, 14] (fun i _ wr => ∃ d q : Nat, 1 ≤ d ∧ d ≤ n / 2 + 1 ∧ i = .int .i64 d ∧ wr = w2.drewN q) (fun i _ _ => n - (intOf i).toNat)
    case atStart => exact ⟨1, 0, by omega, by omega, rfl, rfl⟩
    case round =>
      obtain ⟨d, q, hd1, hd2, rfl, rfl⟩ := hrel
      by_cases hlt : d ≤ n / 2
      · obtain ⟨he0, ho⟩ := HO.out d hd1 (by omega)
        have hel := Nat.mod_lt (d * m) (show 0 < n by omega)
        have hE : ((m : Int) * d) % n = (((d * m) % n : Nat) : Int) := by rw [Int.mul_comm]; simp
        have hmd : (m : Int) * d ≤ 256 ∧ 0 ≤ (m : Int) * d := by
          have a1 : m * d ≤ 16 * 16 := Nat.mul_le_mul (by omega) (by omega)
          have e : (m : Int) * d = ((m * d : Nat) : Int) := by simp
          rw [e]; omega
        have ca := (r1'.cell (d - 1)).trans (ints_at (by rw [Hla.out]; omega))
        have cb := fun k (hk : k < n / 2) => (r2.cell k).trans (ints_at (by rw [Hlb.out]; exact hk))
        generalize (d * m) % n = e at he0 ho hel hE
        rw [ho] at ca
        have ca' := Lib.hid ca
        have cb' := Lib.hid cb
        clear ho ca cb
        by_cases hmin : (n : Int) - e < e
        · have cx := cb'.out (n - e - 1) (by omega)
          have cy := ca'.out
          rw [Nat.min_eq_right (by omega)] at cy
          generalize B[n - e - 1]?.getD 0 = x at cx cy
          have g1 : decide ((n : Int) - e < 1) = false := by simp; omega
          go_wp2
          go_quiet (fail)
          go_wp2
          go_roundw
          case rel => exact ⟨d + 1, q + nq, by omega, by omega, by go_num, rfl⟩
          case measure => simp only [intOf]; omega
        · have cx := cb'.out (e - 1) (by omega)
          have cy := ca'.out
          rw [Nat.min_eq_left (by omega)] at cy
          generalize B[e - 1]?.getD 0 = x at cx cy
          have g1 : decide ((e : Int) < 1) = false := by simp; omega
          go_wp2
          go_quiet (fail)
          go_wp2
          go_roundw
          case rel => exact ⟨d + 1, q + nq, by omega, by omega, by go_num, rfl⟩
          case measure => simp only [intOf]; omega
      · go_wp2_with fail
        refine (awake_any _).mono ?_
        rintro e w5 ⟨rfl, b5⟩
        have c5 := below_next (below_drewN c2 q) b5
        go_wp2
        go_ret
        exact ⟨rfl, c5⟩
  · have hm' : mulOkB n c m = false := by simpa using hm
    have H1 := Lib.hid (Times_bad n c m hm')
    clear hm hm' hT
    go_enter Tryd.func10, Tryd.ntmps10
    go_wp2_with fail
    refine (H1.out _).mono ?_
    rintro e w1 ⟨rfl, bl1⟩
    go_wp2_with fail
    refine (awake_any _).mono ?_
    rintro e w5 ⟨rfl, b5⟩
    go_wp2
    go_ret
    exact ⟨rfl, below_next bl1 b5⟩
end Go.Proofs.YtehjdhegnpmfaaaDoor
