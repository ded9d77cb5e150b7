/-
  A rhythm with a period has a partner exactly if it has one on the circle of one period; the walk of the statement.
-/
import Derived.Test.YtehjdhegnpmfaabDoorCaSorted
import Derived.Test.YtehjdhegnpmfaabDoorCaPeriodsLaw
namespace Go.Proofs.YtehjdhegnpmfaabDoor
open Go.RowKit Go.Shelf
attribute [local go_sem] Oper.semAt_some
set_option maxRecDepth 100000

theorem sum_just {n y0 : Nat} {f : Nat → Nat} (hy : y0 < n) (h1 : f y0 = 1) (h : ∀ z, z < n → z ≠ y0 → f z = 0) : sumN n f = 1 := by
  have e := sum_single n y0 (fun _ => 1)
  rw [if_pos hy] at e
  rw [← e]
  refine sum_congr (fun z hz => ?_)
  by_cases hzy : z = y0
  · rw [if_pos hzy, hzy, h1]
  · rw [if_neg hzy, h z hz hzy]

theorem fold_lt {n a d : Nat} (hd : 1 ≤ d) : foldN n a d < 2 ^ d := orL_lt _ _ _ (fun t _ => Nat.mod_lt t (by omega))
theorem fold_bit {n a d i : Nat} (hd : 1 ≤ d) (hdn : d ≤ n) (ha : a < 2 ^ n) (hp : perB n a d = true) (hi : i < d) : (foldN n a d).testBit i = a.testBit i := by
  rw [← fold_eq hd hdn ha hp, Nat.testBit_and, Nat.testBit_two_pow_sub_one]; simp [hi]
theorem fold_odd {n a d : Nat} (hd : 1 ≤ d) (hdn : d ≤ n) (ha : a < 2 ^ n) (ha1 : a % 2 = 1) (hp : perB n a d = true) : foldN n a d % 2 = 1 := by
  have h := fold_bit hd hdn ha hp (show 0 < d by omega)
  rw [Nat.testBit_zero, Nat.testBit_zero, decide_eq_decide] at h
  exact h.2 ha1

/-- Back around the great circle and around the lesser one. -/
theorem back_fold {n d i y : Nat} (hd : 1 ≤ d) (hdv : n % d = 0) (hy : y < n) : (i + n - y) % n % d = (i % d + d - y % d) % d := by
  obtain ⟨q, rfl⟩ := Nat.dvd_of_mod_eq_zero hdv
  rw [Nat.mod_mod_of_dvd _ (Nat.dvd_mul_right d q)]
  have h1 := Nat.div_add_mod y d
  have h2 := Nat.mod_lt y (show 0 < d by omega)
  have h3 : y / d < q := Nat.div_lt_of_lt_mul hy
  have h4 := Nat.div_add_mod i d
  obtain ⟨t, ht⟩ : ∃ t, q = y / d + 1 + t := ⟨q - (y / d + 1), by omega⟩
  have e1 : i + d * q - y = (i % d + d - y % d) + d * (i / d + t) := by
    have e2 : d * q = d * (y / d) + d + d * t := by rw [ht, Nat.mul_add, Nat.mul_add, Nat.mul_one]
    have e3 : d * (i / d + t) = d * (i / d) + d * t := Nat.mul_add _ _ _
    omega
  rw [e1, Nat.add_mul_mod_self_left]

theorem fold_back {n a d i y : Nat} (hd : 1 ≤ d) (hdn : d ≤ n) (ha : a < 2 ^ n) (hp : perB n a d = true) (hy : y < n) : (foldN n a d).testBit ((i % d + d - y % d) % d) = a.testBit ((i + n - y) % n) := by
  have hdv : n % d = 0 := by unfold perB at hp; rw [Bool.and_eq_true, beq_iff_eq] at hp; exact hp.1
  rw [fold_bit hd hdn ha hp (Nat.mod_lt _ (by omega)), ← back_fold hd hdv hy, ← per_mod hd hdn ha hp _ (Nat.mod_lt _ (by omega))]

theorem tile_up {n a d c : Nat} (hd : 1 ≤ d) (hdn : d ≤ n) (ha : a < 2 ^ n) (hp : perB n a d = true) (hc : c < 2 ^ d) (h : Tile d (foldN n a d) c) : Tile n a c := by
  intro i hi
  have h1 := h (i % d) (Nat.mod_lt _ (by omega))
  obtain ⟨y0, hy0, hc0, hu⟩ := tile_entry h (Nat.mod_lt i (show 0 < d by omega))
  unfold comes at hc0
  rw [Bool.and_eq_true] at hc0
  have bk : ∀ y, y < d → (foldN n a d).testBit ((i % d + d - y) % d) = a.testBit ((i + n - y) % n) := fun y hy => by
    have := fold_back (i := i) hd hdn ha hp (show y < n by omega)
    rwa [Nat.mod_eq_of_lt hy] at this
  refine sum_just (y0 := y0) (by omega) ?_ (fun z hz hne => ?_)
  · rw [bI_one.2 hc0.1, bI_one.2 (by rw [← bk y0 hy0]; exact hc0.2)]
  · cases hb : c.testBit z
    · rw [bI_zero.2 hb, Nat.zero_mul]
    · have hzd : z < d := by
        apply Nat.lt_of_not_le
        intro hle
        rw [Nat.testBit_lt_two_pow (Nat.lt_of_lt_of_le hc (Nat.pow_le_pow_right (by omega) hle))] at hb
        cases hb
      cases ha2 : a.testBit ((i + n - z) % n)
      · rw [bI_zero.2 ha2, Nat.mul_zero]
      · exfalso
        apply hne
        refine hu z hzd ?_
        unfold comes
        rw [hb, bk z hzd, ha2]; rfl

theorem tile_down {n a d b : Nat} (hd : 1 ≤ d) (hdn : d ≤ n) (ha : a < 2 ^ n) (hp : perB n a d = true) (h : Tile n a b) : Tile d (foldN n a d) (foldN n b d) := by
  intro i hi
  obtain ⟨y0, hy0, hc0, hu⟩ := tile_entry h (show i < n by omega)
  unfold comes at hc0
  rw [Bool.and_eq_true] at hc0
  have bk : ∀ y, y < n → (foldN n a d).testBit ((i + d - y % d) % d) = a.testBit ((i + n - y) % n) := fun y hy => by
    have := fold_back (i := i) hd hdn ha hp hy
    rwa [Nat.mod_eq_of_lt hi] at this
  have mem : ∀ z, z < d → ((foldN n b d).testBit z = true ↔ ∃ y, y < n ∧ b.testBit y = true ∧ y % d = z) := fun z _ => by
    unfold foldN
    rw [testBit_orL, List.any_eq_true]
    constructor
    · rintro ⟨y, hy, e⟩
      obtain ⟨y1, y2⟩ := tone_mem.1 hy
      exact ⟨y, y1, y2, by simpa using e⟩
    · rintro ⟨y, y1, y2, e⟩
      exact ⟨y, tone_mem.2 ⟨y1, y2⟩, by simpa using e⟩
  have hy0d : y0 % d < d := Nat.mod_lt _ (by omega)
  refine sum_just (y0 := y0 % d) hy0d ?_ (fun z hz hne => ?_)
  · rw [bI_one.2 ((mem _ hy0d).2 ⟨y0, hy0, hc0.1, rfl⟩), bI_one.2 (by rw [bk y0 hy0]; exact hc0.2)]
  · cases hb : (foldN n b d).testBit z
    · rw [bI_zero.2 hb, Nat.zero_mul]
    · obtain ⟨y, y1, y2, rfl⟩ := (mem z hz).1 hb
      cases ha2 : (foldN n a d).testBit ((i + d - y % d) % d)
      · rw [bI_zero.2 ha2, Nat.mul_zero]
      · exfalso
        apply hne
        rw [bk y y1] at ha2
        have : y = y0 := hu y y1 (by unfold comes; rw [y2, ha2]; rfl)
        rw [this]

/-- A rhythm has a partner exactly if it has one on the circle of one period. -/
theorem fold_partner {n a d : Nat} (hd : 2 ≤ d) (hn : 2 ≤ n) (hn2 : n ≤ 24) (hdn : d ≤ n) (ha : a < 2 ^ n) (ha1 : a % 2 = 1) (hp : perB n a d = true) : partners n a = [] ↔ partners d (foldN n a d) = [] := by
  have hfl := fold_lt (n := n) (a := a) (d := d) (by omega)
  have hfo := fold_odd (by omega) hdn ha ha1 hp
  have key : ∀ {n a : Nat}, 1 ≤ n → n ≤ 24 → a < 2 ^ n → a % 2 = 1 → (partners n a = [] ↔ ¬ ∃ c, c < 2 ^ n ∧ c % 2 = 1 ∧ Tile n a c) := fun {n a} h1 h2 h3 h4 => by
    constructor
    · rintro h ⟨c, hc⟩
      have := (mem_partners h1 (by omega) h3 h4).2 hc
      rw [h] at this
      cases this
    · intro h
      cases hx : partners n a with
      | nil => rfl
      | cons c l => exact absurd ⟨c, (mem_partners h1 (by omega) h3 h4).1 (by rw [hx]; exact List.mem_cons_self ..)⟩ h
  rw [key (by omega) hn2 ha ha1, key (by omega) (by omega) hfl hfo]
  refine not_congr ⟨?_, ?_⟩
  · rintro ⟨b, hb, hb1, ht⟩
    refine ⟨foldN n b d, fold_lt (by omega), ?_, tile_down (by omega) hdn ha hp ht⟩
    have h0 : (foldN n b d).testBit 0 = true := by
      unfold foldN
      rw [testBit_orL, List.any_eq_true]
      exact ⟨0, tone_mem.2 ⟨by omega, by rw [Nat.testBit_zero]; simp [hb1]⟩, by simp⟩
    rw [Nat.testBit_zero] at h0
    simpa using h0
  · rintro ⟨c, hc, hc1, ht⟩
    exact ⟨c, Nat.lt_of_lt_of_le hc (Nat.pow_le_pow_right (by omega) hdn), hc1, tile_up (by omega) hdn ha hp hc ht⟩

theorem bit_I (c x : Nat) (hc : c < 2 ^ 62) : bits .and .i64 ((c : Int) / 2 ^ x) 1 = ((bI c x : Nat) : Int) := by
  rw [bit_int c x hc]; unfold bI; split <;> rfl

set_option maxHeartbeats 2000000 in
theorem CanonFolds_walk (n a d : Int) (_w0 : (Lit.int .i64 n).wf = true) (_w1 : (Lit.int .i64 a).wf = true) (w2 : (Lit.int .i64 d).wf = true) (w : World) (hT : Tab w) :
    Calls Tryd.prog 11 #[.int .i64 n, .int .i64 a, .int .i64 d] w fun e w' => e = .returned (.bool true) ∧ Below w.heap.size w w' := by
  by_cases hok : foldOk n a d
  · obtain ⟨hv, hd, hp⟩ := hok
    have HVa := Lib.hid (Rhythm_any n a)
    rw [hv] at HVa
    obtain ⟨n, a, rfl, rfl, hn, hn2, ha, ha1⟩ := vldB_nat hv
    obtain ⟨d, rfl⟩ := Int.eq_ofNat_of_zero_le (show 0 ≤ d by omega)
    have hp : perB n a d = true := hp
    have hd : 2 ≤ d := by omega
    have hdn := per_le (by omega) hp
    have hdv : n % d = 0 := by unfold perB at hp; rw [Bool.and_eq_true, beq_iff_eq] at hp; exact hp.1
    have hn24 : 2 ^ n ≤ 2 ^ 24 := Nat.pow_le_pow_right (by omega) hn2
    have hfl := fold_lt (n := n) (a := a) (d := d) (by omega)
    have hd24 : 2 ^ d ≤ 2 ^ 24 := Nat.pow_le_pow_right (by omega) (by omega)
    have HB := Lib.hid (fun x => bit_I a x (by omega))
    have HC := Lib.hid (fun x => bit_I (foldN n a d) x (by omega))
    have HX : Hid (∀ x, x < n → bI a ((x + d) % n) = bI a x ∧ bI (foldN n a d) (x % d) = bI a x) := Lib.hid (fun x hx => by
      constructor
      · unfold bI
        have h1 := per_mod (by omega) hdn ha hp ((x + d) % n) (Nat.mod_lt _ (by omega))
        have h2 := per_mod (by omega) hdn ha hp x hx
        rw [Nat.mod_mod_of_dvd _ (Nat.dvd_of_mod_eq_zero hdv), Nat.add_mod_right] at h1
        rw [h1, ← h2]
      · unfold bI
        rw [fold_bit (by omega) hdn ha hp (Nat.mod_lt _ (by omega)), ← per_mod (by omega) hdn ha hp x hx])
    have H1 := Lib.hid (Fold_ok n a d hn hn2 ha ha1 hd hp)
    have H2 := Lib.hid (Partner_ok n a hn hn2 ha ha1)
    have H3 := Lib.hid (Partner_ok d (foldN n a d) hd (by omega) hfl (fold_odd (by omega) hdn ha ha1 hp))
    have hfp := Lib.hid (fold_partner hd hn hn2 hdn ha ha1 hp)
    have hz : ((n : Int) % (d : Int) != 0) = false := by rw [bne_eq_false_iff_eq]; omega
    clear hv ha ha1 hp hfl
    generalize foldN n a d = b at HC HX H1 H3 hfp
    generalize partners n a = xs at H2 hfp
    generalize partners d b = ys at H3 hfp
    go_enter Tryd.func11, Tryd.ntmps11
    go_wp2_with fail
    refine (H1.out _).mono ?_
    rintro e w1 ⟨rfl, b1⟩
    have t1 := hT.same b1
    go_wp2_with fail
    refine (HVa.out _).mono ?_
    rintro e w3 ⟨rfl, rfl⟩
    go_wp2_with fail
    go_loopw [9, 50] (fun _ i wr => ∃ k m : Nat, k ≤ n ∧ i = .int .i64 k ∧ wr = w1.drewN m) (fun _ i _ => n - (intOf i).toNat)
    case atStart => exact ⟨0, 0, Nat.zero_le _, rfl, rfl⟩
    case round =>
      obtain ⟨k, m, hk, rfl, rfl⟩ := hrel
      by_cases hlt : k < n
      · obtain ⟨x1, x2⟩ := HX.out k hlt
        have e1 := HB.out k
        have e2 := HB.out ((k + d) % n)
        have e3 := HC.out (k % d)
        rw [x1] at e2
        rw [x2] at e3
        have hw0 : IntKind.i64.wrap ((k : Int) + (d : Int)) = k + d := IntWalk.i64_in _ (by omega)
        have t1' : ((k : Int) + (d : Int)).tmod (n : Int) = (((k + d) % n : Nat) : Int) := by rw [Int.tmod_eq_emod_of_nonneg (by omega)]; simp
        have t2' : (k : Int).tmod (d : Int) = ((k % d : Nat) : Int) := by rw [Int.tmod_eq_emod_of_nonneg (by omega)]; simp
        have m1 : (k + d) % n < n := Nat.mod_lt _ (by omega)
        have m2 : k % d < d := Nat.mod_lt _ (by omega)
        generalize bI a k = u at e1 e2 e3 x1 x2
        generalize (k + d) % n = p at e2 t1' m1 x1
        generalize k % d = q at e3 t2' m2 x2
        clear x1 x2
        go_wp2_with fail
        go_quiet (fail)
        go_wp2
        go_roundw
        case rel => exact ⟨k + 1, m + nq, by omega, by go_num, rfl⟩
        case measure => simp only [intOf]; omega
      · have tm := t1.below (below_drewN (Below.refl _ _) m) t1.size
        have c1 := below_drewN b1 m
        go_wp2_with fail
        refine (H2.out _ tm).mono ?_
        rintro e w4 ⟨hr2, b4⟩
        have t4 := tm.same b4
        have c4 := below_next c1 b4
        rcases hr2 with ⟨hx, rfl⟩ | ⟨p, hp1, hp2, rfl⟩
        · have hy := Lib.hid (hfp.out.1 hx)
          clear hx
          go_wp2_with fail
          refine (H3.out _ t4).mono ?_
          rintro e w5 ⟨(⟨_, rfl⟩ | ⟨q, hq1, _, rfl⟩), b5⟩
          · have t5 := t4.same b5
            have c5 := below_next c4 b5
            clear hy
            go_wp2_with fail
            refine (awake2_any _ t5).mono ?_
            rintro e w6 ⟨rfl, b6⟩
            go_wp2
            go_ret
            exact ⟨rfl, below_next c5 b6⟩
          · rw [hy.out] at hq1; cases hq1
        · have hP := Lib.hid hp1
          clear hp1 hp2
          go_wp2_with fail
          refine (H3.out _ t4).mono ?_
          rintro e w5 ⟨(⟨hy, rfl⟩ | ⟨q, hq1, hq2, rfl⟩), b5⟩
          · have := hP.out
            rw [hfp.out.2 hy] at this
            cases this
          · have t5 := t4.same b5
            have c5 := below_next c4 b5
            clear hq1 hq2
            go_wp2_with fail
            refine (awake2_any _ t5).mono ?_
            rintro e w6 ⟨rfl, b6⟩
            go_wp2
            go_ret
            exact ⟨rfl, below_next c5 b6⟩
  · have H1 := Lib.hid (Fold_bad n a d w2 hok)
    clear hok
    go_enter Tryd.func11, Tryd.ntmps11
    go_wp2_with fail
    refine (H1.out _).mono ?_
    rintro e w1 ⟨rfl, b1⟩
    have t1 := hT.same b1
    go_wp2_with fail
    refine (awake2_any _ t1).mono ?_
    rintro e w4 ⟨rfl, b4⟩
    go_wp2
    go_ret
    exact ⟨rfl, below_next b1 b4⟩

end Go.Proofs.YtehjdhegnpmfaabDoor
