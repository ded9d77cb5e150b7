/-
  The reference's Build.
-/
import Derived.Test.YtmcdelabcmnfiaaDoorCaRefSecond
namespace Go.Proofs.YtmcdelabcmnfiaaDoor
open Go.RowKit Go.Shelf
attribute [local go_sem] Oper.semAt_some
set_option maxRecDepth 100000

def rbY (n s : Nat) : Nat := s / baseN s * strip n (baseN s) % n
def rbI (n b s i : Nat) : Nat := (List.range i).foldl (fun X i => X ||| mvN n b (i * rbY n s % n)) 0
theorem rbI_succ (n b s i : Nat) : rbI n b s (i + 1) = rbI n b s i ||| mvN n b (i * rbY n s % n) := by unfold rbI; rw [List.range_succ, List.foldl_append]; rfl
theorem rbI_lt (n b s : Nat) : ∀ i, rbI n b s i < 2 ^ n
  | 0 => Nat.two_pow_pos n
  | i + 1 => by rw [rbI_succ]; exact Nat.or_lt_two_pow (rbI_lt n b s i) mv_lt
def rbStep (n b s : Nat) : Nat := rbI n b s (baseN s)
def rbQ (n a s : Nat) : Bool := (n % s == 0) && (decide (0 < baseN s) && !rootB a s)
def rbTo (n a k : Nat) : Nat := ((List.range' 2 (k - 2)).filter (rbQ n a)).foldl (rbStep n) 1
theorem rbTo_succ {n a k : Nat} (hk : 2 ≤ k) : rbTo n a (k + 1) = if rbQ n a k = true then rbStep n (rbTo n a k) k else rbTo n a k := by
  unfold rbTo
  rw [show k + 1 - 2 = (k - 2) + 1 by omega, List.range'_concat, List.filter_append, List.foldl_append, show 2 + 1 * (k - 2) = k by omega]
  by_cases h : rbQ n a k = true
  · rw [if_pos h, filter_one_pos h]; rfl
  · rw [if_neg h, filter_one_neg h]; rfl
theorem rbTo_lt {n a : Nat} (hn : 1 ≤ n) (k : Nat) : rbTo n a k < 2 ^ n := by
  unfold rbTo
  generalize (List.range' 2 (k - 2)).filter (rbQ n a) = l
  have key : ∀ (l : List Nat) (b : Nat), b < 2 ^ n → l.foldl (rbStep n) b < 2 ^ n := by
    intro l
    induction l with
    | nil => intro b hb; exact hb
    | cons s l ih => intro b _; exact ih _ (rbI_lt _ _ _ _)
  exact key l 1 (Nat.one_lt_two_pow (by omega))
theorem rb_chk : ((List.range 25).all fun n => decide (2 ≤ n → ((List.range' 2 (n - 1)).filter (fun s => (n % s == 0) && decide (0 < baseN s)) = ppR n) ∧
    ((subsL (ppR n)).all fun L => ((ppR n).filter L.contains).foldl (rbStep n) 1 == (primesL n).foldl (fun B p => bldTo n p B ((powsN n p).filter L.contains)) 1) = true)) = true := by decide +kernel
theorem rb_end {n a : Nat} (h1 : 2 ≤ n) (h2 : n ≤ 24) : rbTo n a (n + 1) = buildN n a := by
  have := List.all_eq_true.1 rb_chk n (List.mem_range.2 (by omega))
  obtain ⟨c1, c2⟩ := of_decide_eq_true this h1
  obtain ⟨L, hL, hP⟩ := by_subs (n := n) (fun s => !rootB a s)
  have hm : ∀ p, p ∈ primesL n → ∀ s, s ∈ powsN n p → s ∈ ppR n := fun p hp s hs => by
    have := List.all_eq_true.1 fst_chk n (List.mem_range.2 (by omega))
    have := List.all_eq_true.1 (List.all_eq_true.1 (of_decide_eq_true this (by omega)).1 p hp) s hs
    rwa [List.contains_iff_mem] at this
  have h3 := List.all_eq_true.1 c2 L hL
  rw [beq_iff_eq] at h3
  have e : (List.range' 2 (n + 1 - 2)).filter (rbQ n a) = (ppR n).filter L.contains := by
    rw [filter_eq (fun s hs => hP s hs), ← c1, List.filter_filter, show n + 1 - 2 = n - 1 by omega]
    congr 1
    funext s
    unfold rbQ
    cases (n % s == 0) <;> cases rootB a s <;> cases decide (0 < baseN s) <;> rfl
  unfold rbTo
  rw [e, h3]
  unfold buildN buildTo
  have key : ∀ (ps : List Nat), (∀ p, p ∈ ps → p ∈ primesL n) → ∀ m, ps.foldl (fun B p => bldTo n p B ((powsN n p).filter L.contains)) m = ps.foldl (fun B p => bldTo n p B (othersP n a p)) m := by
    intro ps
    induction ps with
    | nil => intro _ m; rfl
    | cons p ps ih =>
      intro hps m
      rw [List.foldl_cons, List.foldl_cons]
      have e : (powsN n p).filter L.contains = othersP n a p := filter_eq (fun s hs => hP s (hm p (hps p (by simp)) s hs))
      rw [e]
      exact ih (fun q hq => hps q (by simp [hq])) _
  exact key _ (fun p h => h) 1

set_option maxHeartbeats 2000000 in
theorem RBuild_any (n a : Nat) (h1 : 2 ≤ n) (h2 : n ≤ 24) (ha : a < 2 ^ n) (w : World) :
    Calls Tryd.prog 26 #[.int .i64 n, .int .i64 a] w fun e w' => e = .returned (.tuple (if (firstB n a && secondB n a) = true then #[.int .i64 (buildN n a : Nat), .int .i64 0] else #[.int .i64 0, .int .i64 4])) ∧ Below w.heap.size w w' := by
  have HF := Lib.hid (fun W => RFirst_any n a h1 h2 ha W)
  have HS := Lib.hid (fun W => RSecond_any n a h1 h2 ha W)
  have HBa := Lib.hid (fun s (x : 2 ≤ s) (y : s ≤ 24) V => base_any s x y V)
  have HIr := Lib.hid (fun s (x : 2 ≤ s) (y : s ≤ n) W => RIsRoot_any n a s x h2 y ha W)
  have HMv := Lib.hid (fun B u (hB : B < 2 ^ n) (hu : u ≤ n) V => moved_any n B u h1 h2 hB hu V)
  have HSu := Lib.hid (fun k (hk : 2 ≤ k) => rbTo_succ (n := n) (a := a) hk)
  have HLt := Lib.hid (rbTo_lt (a := a) (by omega : 1 ≤ n))
  have HEnd := Lib.hid (rb_end (a := a) h1 h2)
  have HBp := Lib.hid (fun s (x : 2 ≤ s) (y : s ≤ 24) => (base_all x y))
  have HBd : Hid (∀ s, baseN s = lfN s ∨ baseN s = 0) := Lib.hid (fun s => by unfold baseN; split <;> simp)
  have HG := Lib.hid (fun m p (a : 1 ≤ m) (b : m ≤ 24) (c : 2 ≤ p) (d : p ≤ 25) => strip_go (m := m) a b c d)
  have HSp := Lib.hid (fun m p (a : 1 ≤ m) (b : m ≤ 24) (c : 2 ≤ p) (d : p ≤ 25) => strip_stop (m := m) a b c d)
  have hp24 : 2 ^ n ≤ 2 ^ 24 := Nat.pow_le_pow_right (by omega) h2
  have HP24 := Lib.hid hp24
  have hnz : ((n : Int) == 0) = false := by rw [beq_eq_false_iff_ne]; omega
  clear ha hp24
  cases hf : firstB n a
  · rw [hf] at HF
    clear hf
    go_enter Tryd.func26, Tryd.ntmps26
    go_wp2_with fail
    refine (HF.out _).mono ?_
    rintro e w1 ⟨rfl, b1⟩
    go_wp2
    go_ret2
    exact ⟨rfl, b1⟩
  · rw [hf] at HF
    clear hf
    cases hs : secondB n a
    · rw [hs] at HS
      clear hs
      go_enter Tryd.func26, Tryd.ntmps26
      go_wp2_with fail
      refine (HF.out _).mono ?_
      rintro e w1 ⟨rfl, b1⟩
      have HB1 := Lib.hid b1
      clear b1
      go_wp2_with fail
      refine (HS.out _).mono ?_
      rintro e w2 ⟨rfl, b2⟩
      go_wp2
      go_ret2
      exact ⟨rfl, below_next HB1.out b2⟩
    · rw [hs] at HS
      clear hs
      go_enter Tryd.func26, Tryd.ntmps26
      go_wp2_with fail
      refine (HF.out _).mono ?_
      rintro e w1 ⟨rfl, b1⟩
      have HB1 := Lib.hid b1
      clear b1
      go_wp2_with fail
      refine (HS.out _).mono ?_
      rintro e w2 ⟨rfl, b2⟩
      have HB2 := Lib.hid (below_next HB1.out b2)
      clear b2
      go_wp2
      go_loopw [6, 7] (fun b i wr => ∃ k : Nat, 2 ≤ k ∧ k ≤ n + 1 ∧ i = .int .i64 k ∧ b = .int .i64 (rbTo n a k : Nat) ∧ Below w2.heap.size w2 wr) (fun _ i _ => n + 1 - (intOf i).toNat)
      case atStart => exact ⟨2, Nat.le_refl _, by omega, rfl, rfl, Below.refl _ _⟩
      case round =>
        obtain ⟨k, hk2, hk, rfl, rfl, hB⟩ := hrel
        have HB := Lib.hid hB
        clear hB
        by_cases hkl : k < n + 1
        · have hle : ((k : Int) ≤ (n : Int)) := by omega
          have hkz : ((k : Int) == 0) = false := by rw [beq_eq_false_iff_ne]; omega
          have hsu := HSu.out k hk2
          have hlt := HLt.out k
          have hlt2 := HLt.out (k + 1)
          obtain ⟨B, hB⟩ : ∃ B, rbTo n a k = B := ⟨_, rfl⟩
          rw [hB] at hsu hlt ⊢
          have HLtB := Lib.hid hlt
          clear hB hlt hlt2
          have hq : rbQ n a k = ((n % k == 0) && (decide (0 < baseN k) && !rootB a k)) := rfl
          by_cases h0 : n % k = 0
          · have q0 : ((n : Int) % (k : Int) == 0) = true := by rw [beq_iff_eq]; omega
            have HBk := Lib.hid (HBa.out k hk2 (by omega))
            obtain ⟨b1, b2, b3, _⟩ := HBp.out k hk2 (by omega)
            have hbd := HBd.out k
            by_cases hp : 0 < baseN k
            · have hbe : baseN k = lfN k := by omega
              have HIk := Lib.hid (HIr.out k hk2 (by omega))
              cases hr : rootB a k
              · rw [hr] at HIk hq
                have hqt : rbQ n a k = true := by rw [hq, h0]; simp [hp]
                rw [if_pos hqt] at hsu
                have Hsu := Lib.hid hsu
                have HSt : Hid (rbStep n B k = rbI n B k (baseN k)) := Lib.hid rfl
                have HIs := Lib.hid (rbI_succ n B k)
                have HIl := Lib.hid (rbI_lt n B k)
                have HY : Hid (rbY n k = k / baseN k * strip n (baseN k) % n) := Lib.hid rfl
                have hp2 : 2 ≤ baseN k := by omega
                have hpk : baseN k ≤ k := by omega
                obtain ⟨p, hpp⟩ : ∃ p, baseN k = p := ⟨_, rfl⟩
                rw [hpp] at hp HBk HSt HY hp2 hpk
                have hpz : ((p : Int) == 0) = false := by rw [beq_eq_false_iff_ne]; omega
                clear hsu hq hqt hr h0 hbd hbe hpp b1 b2 b3
                go_wp2_with fail
                refine (HBk.out _).mono ?_
                rintro e w3 ⟨rfl, rfl⟩
                go_wp2_with fail
                refine (HIk.out _).mono ?_
                rintro e w4 ⟨rfl, b4⟩
                have HB4 := Lib.hid (HB.out.trans (b4.mono HB.out.size))
                clear b4
                go_wp2
                go_loopw [9] (fun i wv => ∃ m : Nat, 1 ≤ m ∧ m ≤ n ∧ i = .int .i64 m ∧ strip m p = strip n p ∧ w4 = wv) (fun i _ => (intOf i).toNat)
                case atStart => exact ⟨n, by omega, Nat.le_refl _, rfl, rfl, rfl⟩
                case round =>
                  obtain ⟨m, hm1, hm2, rfl, hs, rfl⟩ := hrel
                  have Hs := Lib.hid hs
                  clear hs
                  by_cases h0 : m % p = 0
                  · obtain ⟨e1, e2, e3⟩ := HG.out m p hm1 (by omega) hp2 (by omega) h0
                    have t0 : ((m : Int) % (p : Int) == 0) = true := by rw [beq_iff_eq]; omega
                    have E := Lib.hid (e1.symm.trans Hs.out)
                    obtain ⟨x, hx⟩ : ∃ x, m / p = x := ⟨_, rfl⟩
                    rw [hx] at e2 e3 E
                    have hx2 : (m : Int) / (p : Int) = (x : Int) := by rw [← hx]; simp
                    clear e1 h0 hx
                    go_wp2
                    go_roundw
                    case rel => exact ⟨x, e2, by omega, by go_num, E.out, trivial⟩
                    case measure => simp only [intOf]; omega
                  · have e1 := HSp.out m p hm1 (by omega) hp2 (by omega) h0
                    have t0 : ((m : Int) % (p : Int) == 0) = false := by rw [beq_eq_false_iff_ne]; omega
                    have hE : m = strip n p := e1.symm.trans Hs.out
                    rw [← hE] at HY
                    have hkd : (k : Int) / (p : Int) = ((k / p : Nat) : Int) := by simp
                    obtain ⟨d, hd⟩ : ∃ d, k / p = d := ⟨_, rfl⟩
                    rw [hd] at hkd HY
                    have hdl : d ≤ 24 := by rw [← hd]; exact Nat.le_trans (Nat.div_le_self _ _) (by omega)
                    have hdm : (d : Int) * (m : Int) = ((d * m : Nat) : Int) := by simp
                    have hdml : d * m ≤ 24 * 24 := Nat.mul_le_mul hdl (by omega)
                    obtain ⟨z, hz⟩ : ∃ z, d * m = z := ⟨_, rfl⟩
                    rw [hz] at hdm hdml HY
                    have hzy : (z : Int) % (n : Int) = ((z % n : Nat) : Int) := by simp
                    have hyl : z % n < n := Nat.mod_lt _ (by omega)
                    rw [← HY.out] at hzy hyl
                    obtain ⟨y, hy⟩ : ∃ y, rbY n k = y := ⟨_, rfl⟩
                    rw [hy] at hzy hyl
                    simp only [hy] at HIs
                    clear e1 h0 hE hd hz hy
                    go_wp2
                    try rw [hzy]
                    clear hzy
                    go_loopw [11, 58] (fun X i wx => ∃ j : Nat, j ≤ p ∧ i = .int .i64 j ∧ X = .int .i64 (rbI n B k j : Nat) ∧ Below w2.heap.size w2 wx) (fun _ i _ => p - (intOf i).toNat)
                    case atStart => exact ⟨0, Nat.zero_le _, rfl, rfl, HB4.out⟩
                    case round =>
                      obtain ⟨j, hj, rfl, rfl, hX⟩ := hrel
                      have HX := Lib.hid hX
                      clear hX
                      by_cases hjl : j < p
                      · have hst := HIs.out j
                        have hsl := HIl.out j
                        have hm1' : (j : Int) * (y : Int) = ((j * y : Nat) : Int) := by simp
                        have hjy : j * y ≤ 24 * 24 := Nat.mul_le_mul (by omega) (by omega)
                        obtain ⟨u, hu⟩ : ∃ u, j * y = u := ⟨_, rfl⟩
                        rw [hu] at hm1' hjy hst
                        have hun : (u : Int) % (n : Int) = ((u % n : Nat) : Int) := by simp
                        have hul : u % n < n := Nat.mod_lt _ (by omega)
                        have HMq := Lib.hid (HMv.out B (u % n) HLtB.out (by omega))
                        have hb2 : mvN n B (u % n) < 2 ^ n := mv_lt
                        obtain ⟨v, hv⟩ : ∃ v, u % n = v := ⟨_, rfl⟩
                        rw [hv] at hun hul HMq hb2 hst
                        obtain ⟨x, hx⟩ : ∃ x, mvN n B v = x := ⟨_, rfl⟩
                        obtain ⟨o, ho⟩ : ∃ o, rbI n B k j = o := ⟨_, rfl⟩
                        rw [hx] at HMq hb2 hst
                        rw [ho] at hsl hst ⊢
                        have h24 := HP24.out
                        have hol : o < 16777216 := by omega
                        have hxl : x < 16777216 := by omega
                        have hor := or_nat o x (by omega) (by omega)
                        have Hst := Lib.hid hst
                        have Hor := Lib.hid hor
                        clear hst hor hu hv hx ho hsl hb2 h24
                        go_wp2_with fail
                        refine (HMq.out _).mono ?_
                        rintro e w5 ⟨rfl, b5⟩
                        have HX5 : Hid (Below w2.heap.size w2 w5) := Lib.hid (by obtain ⟨mm, hmm⟩ := b5; rw [hmm]; exact below_drewN HX.out mm)
                        clear b5
                        go_wp2
                        go_roundw
                        case rel => exact ⟨j + 1, by omega, by go_num, by rw [Hst.out, Hor.out], HX5.out⟩
                        case measure => simp only [intOf]; omega
                      · have hjp : j = p := by omega
                        have HFin : Hid (rbI n B k j = rbTo n a (k + 1)) := Lib.hid (by rw [Hsu.out, HSt.out, hjp])
                        rw [HFin.out]
                        clear hjp
                        go_wp2
                        go_roundw
                        case rel => exact ⟨k + 1, by omega, by omega, by go_num, rfl, HX.out⟩
                        case measure => simp only [intOf]; omega
              · rw [hr] at HIk hq
                have hqt : ¬ rbQ n a k = true := by rw [hq]; simp
                rw [if_neg hqt] at hsu
                have Hsu := Lib.hid hsu
                have hp2 : 2 ≤ baseN k := by omega
                have hpk : baseN k ≤ k := by omega
                obtain ⟨p, hpp⟩ : ∃ p, baseN k = p := ⟨_, rfl⟩
                rw [hpp] at hp HBk hp2 hpk
                have hpz : ((p : Int) == 0) = false := by rw [beq_eq_false_iff_ne]; omega
                clear hsu hq hqt hr h0 hbd hbe hpp b1 b2 b3
                go_wp2_with fail
                refine (HBk.out _).mono ?_
                rintro e w3 ⟨rfl, rfl⟩
                go_wp2_with fail
                refine (HIk.out _).mono ?_
                rintro e w4 ⟨rfl, b4⟩
                go_wp2
                go_roundw
                case rel => exact ⟨k + 1, by omega, by omega, by go_num, by rw [Hsu.out], HB.out.trans (b4.mono HB.out.size)⟩
                case measure => simp only [intOf]; omega
            · have hbe : baseN k = 0 := by omega
              rw [hbe] at HBk hq
              have hqt : ¬ rbQ n a k = true := by rw [hq]; simp
              rw [if_neg hqt] at hsu
              have Hsu := Lib.hid hsu
              clear hsu hq hqt h0 hbd hbe b1 b2 b3 hp
              go_wp2_with fail
              refine (HBk.out _).mono ?_
              rintro e w3 ⟨rfl, rfl⟩
              go_wp2
              go_roundw
              case rel => exact ⟨k + 1, by omega, by omega, by go_num, by rw [Hsu.out], HB.out⟩
              case measure => simp only [intOf]; omega
          · have q0 : ((n : Int) % (k : Int) == 0) = false := by rw [beq_eq_false_iff_ne]; omega
            have hqt : ¬ rbQ n a k = true := by rw [hq]; simp [h0]
            rw [if_neg hqt] at hsu
            have Hsu := Lib.hid hsu
            clear hsu hq hqt h0
            go_wp2
            go_roundw
            case rel => exact ⟨k + 1, by omega, by omega, by go_num, by rw [Hsu.out], HB.out⟩
            case measure => simp only [intOf]; omega
        · have hle : ¬ ((k : Int) ≤ (n : Int)) := by omega
          have hke : k = n + 1 := by omega
          have HE := Lib.hid (show rbTo n a k = buildN n a by rw [hke]; exact HEnd.out)
          rw [HE.out]
          clear hke
          go_wp2
          go_ret2
          exact ⟨rfl, below_next HB2.out HB.out⟩
end Go.Proofs.YtmcdelabcmnfiaaDoor
