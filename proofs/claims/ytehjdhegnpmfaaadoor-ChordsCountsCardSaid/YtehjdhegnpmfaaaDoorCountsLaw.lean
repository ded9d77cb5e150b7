/-
  Primes where it refuses; the walk of the statement on counts.
-/
import Derived.Test.YtehjdhegnpmfaaaDoorCountMath
namespace Go.Proofs.YtehjdhegnpmfaaaDoor
open Go.RowKit Go.Shelf
attribute [local go_sem] Oper.semAt_some
set_option maxRecDepth 100000

theorem valid0_bad (n : Int) (h : n < 2 ∨ 16 < n) (w : World) :
    Calls Tryd.prog 47 #[.int .i64 n, .slice none 0 0] w fun e w' => e = .returned (.bool false) ∧ w = w' := by
  rcases h with h | h
  · go_enter Tryd.func47, Tryd.ntmps47
    go_wp2
    go_ret
    exact ⟨rfl, rfl⟩
  · have h2 : ¬ n < 2 := by omega
    go_enter Tryd.func47, Tryd.ntmps47
    go_wp2
    go_ret
    exact ⟨rfl, rfl⟩

theorem Primes_bad (n s : Int) (h : ¬ (2 ≤ n ∧ n ≤ 12 ∧ 0 ≤ s ∧ s ≤ n)) (w : World) :
    Calls Tryd.prog 37 #[.int .i64 n, .int .i64 s] w fun e w' => e = .returned (.tuple #[.slice none 0 0, .int .i64 2]) ∧ Below w.heap.size w w' := by
  have hB : Below w.heap.size w (w.alloc (.cells #[.int .i64 s] 3)) := (Below.refl _ w).alloc (Nat.le_refl _) _
  by_cases h1 : 2 ≤ n ∧ n ≤ 16
  · have HV := Lib.hid (valid0 n h1.1 h1.2)
    by_cases h2 : n ≤ 12
    · by_cases h3 : 0 ≤ s
      · have h4 : ¬ s ≤ n := fun x => h ⟨h1.1, h2, h3, x⟩
        clear h h1
        go_enter Tryd.func37, Tryd.ntmps37
        go_wp2_with (go_at_call 47; refine (HV.out _).mono ?_; rintro e w' ⟨rfl, rfl⟩)
        go_ret2
        exact ⟨rfl, hB⟩
      · clear h h1
        go_enter Tryd.func37, Tryd.ntmps37
        go_wp2_with (go_at_call 47; refine (HV.out _).mono ?_; rintro e w' ⟨rfl, rfl⟩)
        go_ret2
        exact ⟨rfl, hB⟩
    · clear h h1
      go_enter Tryd.func37, Tryd.ntmps37
      go_wp2_with (go_at_call 47; refine (HV.out _).mono ?_; rintro e w' ⟨rfl, rfl⟩)
      go_ret2
      exact ⟨rfl, hB⟩
  · have HV := Lib.hid (valid0_bad n (by omega))
    clear h h1
    go_enter Tryd.func37, Tryd.ntmps37
    go_wp2_with (go_at_call 47; refine (HV.out _).mono ?_; rintro e w' ⟨rfl, rfl⟩)
    go_ret2
    exact ⟨rfl, hB⟩

theorem IntsAt.slice {W : World} {lo : Nat} {v : Value} {xs : List Nat} (h : IntsAt W lo v xs) :
    ∃ (ad : Option Addr) (cap : Nat), v = .slice ad xs.length cap ∧ ∀ i, i < xs.length → ∃ g, ad = some ⟨g, 0, none⟩ ∧ W.cell? ⟨g, i, none⟩ = some (.int .i64 ((xs[i]?.getD 0 : Nat) : Int)) := by
  rcases h with ⟨h1, h2⟩ | ⟨g, cap, h1, h2, h3⟩
  · refine ⟨none, 0, by rw [h1, h2]; rfl, fun i hi => by rw [h2] at hi; cases hi⟩
  · exact ⟨_, cap, h1, fun i hi => ⟨g, rfl, h3 i hi⟩⟩

theorem primesN_lt {n s x : Nat} (h : x ∈ primesN n s) : x < 2 ^ n := by
  rw [primesN_eq] at h
  exact List.mem_range.1 (List.mem_filter.1 h).1
theorem primesN_length (n s : Nat) : (primesN n s).length ≤ 2 ^ n := by
  rw [primesN_eq]
  exact Nat.le_trans (List.length_filter_le _ _) (by simp)

/-- The classes' sizes, summed up to here. -/
def clsTake (n : Nat) (xs : List Nat) (k : Nat) : Nat := ((xs.take k).map (fun x => (clsN n x).length)).sum
theorem clsTake_succ {n : Nat} {xs : List Nat} {k : Nat} (h : k < xs.length) : clsTake n xs (k + 1) = clsTake n xs k + (clsN n (xs[k]?.getD 0)).length := by
  unfold clsTake
  rw [List.take_succ_eq_append_getElem h, List.map_append, List.sum_append, List.getElem?_eq_getElem h]
  simp
theorem clsTake_le (n : Nat) (xs : List Nat) (k : Nat) : clsTake n xs k ≤ xs.length * 2 ^ n := by
  have : ∀ ys : List Nat, (ys.map (fun x => (clsN n x).length)).sum ≤ ys.length * 2 ^ n := by
    intro ys
    induction ys with
    | nil => simp
    | cons y ys ih =>
      simp only [List.map_cons, List.sum_cons, List.length_cons, Nat.add_mul, Nat.one_mul]
      have := clsN_length n y
      omega
  refine Nat.le_trans (this _) (Nat.mul_le_mul_right _ ?_)
  rw [List.length_take]; omega

set_option maxHeartbeats 1000000 in
theorem ChordsCounts_walk (n s : Int) (_w0 : (Lit.int .i64 n).wf = true) (_w1 : (Lit.int .i64 s).wf = true) (w : World) (hT : Tab w) :
    Calls Tryd.prog 13 #[.int .i64 n, .int .i64 s] w fun e w' => e = .returned (.bool true) ∧ Below w.heap.size w w' := by
  by_cases hv : 2 ≤ n ∧ n ≤ 12 ∧ 0 ≤ s ∧ s ≤ n
  · obtain ⟨g1, g2, g3, g4⟩ := hv
    obtain ⟨n, rfl⟩ := Int.eq_ofNat_of_zero_le (show 0 ≤ n by omega)
    obtain ⟨s, rfl⟩ := Int.eq_ofNat_of_zero_le g3
    have h1 : 2 ≤ n := by omega
    have h2 : n ≤ 12 := by omega
    have h3 : s ≤ n := by omega
    have H1 := Lib.hid (Primes_ok n s h1 h2 h3)
    have H2 : ∀ V : World, Tab V → Calls Tryd.prog 37 #[.int .i64 n, .int .i64 ((n : Int) - (s : Int))] V fun e w' => ∃ v, e = .returned (.tuple #[v, .int .i64 0]) ∧ IntsAt w' V.heap.size v (primesN n (n - s)) ∧ Below V.heap.size V w' := fun V hV => by
      have := Primes_ok n (n - s) h1 h2 (by omega) V hV
      rwa [Int.ofNat_sub h3] at this
    have H2' := Lib.hid H2
    have hp2 : 2 ^ n ≤ 2 ^ 12 := Nat.pow_le_pow_right (by omega) h2
    have hlen := primes_others (n := n) (s := s) h1 (by omega) h3
    have hcnt := primes_count h1 h2 h3
    have hxl := primesN_length n s
    have HX := Lib.hid (fun x (hx : x ∈ primesN n s) => primesN_lt hx)
    have HC := Lib.hid (fun x hx => Class_ok n x h1 (by omega) hx)
    have HLE := Lib.hid (clsTake_le n (primesN n s))
    have HSU := Lib.hid (fun k hk => clsTake_succ (n := n) (xs := primesN n s) (k := k) hk)
    have HFU : Hid (clsTake n (primesN n s) (primesN n s).length = wantN n s) := Lib.hid (by unfold clsTake; rw [List.take_length]; exact hcnt)
    have HW := Lib.hid (fun k hk => want_le ⟨n, by omega⟩ ⟨k, hk⟩)
    have HLN := Lib.hid hlen
    have HM : Hid (∀ k, k < (primesN n s).length → (primesN n s)[k]?.getD 0 ∈ primesN n s) := Lib.hid (fun k hk => by rw [List.getElem?_eq_getElem hk]; exact List.getElem_mem hk)
    have hLL : (primesN n s).length * 2 ^ n ≤ 4096 * 4096 := Nat.mul_le_mul (by omega) (by omega)
    clear H2 hlen hcnt
    generalize primesN n s = xs at *
    generalize primesN n (n - s) = ys at *
    have hws : ((wantN n s : Nat) : Int) = wantN n s := rfl
    go_enter Tryd.func13, Tryd.ntmps13
    go_wp2_with fail
    refine (H1.out _ hT).mono ?_
    rintro e w1 ⟨v1, rfl, hi1, b1⟩
    have t1 := hT.same b1
    obtain ⟨ad1, cap1, rfl, hc1⟩ := hi1.slice
    have hc1' := Lib.hid hc1
    clear hi1 hc1
    go_wp2_with fail
    refine (H2'.out _ t1).mono ?_
    rintro e w2 ⟨v2, rfl, hi2, b2⟩
    have t2 := t1.same b2
    obtain ⟨ad2, cap2, rfl, _⟩ := hi2.slice
    rw [← HLN.out]
    have c2 := below_next b1 b2
    have hc2 : Hid (∀ i, i < xs.length → ∃ g, ad1 = some ⟨g, 0, none⟩ ∧ w2.cell? ⟨g, i, none⟩ = some (.int .i64 ((xs[i]?.getD 0 : Nat) : Int))) := Lib.hid (fun i hi => by
      obtain ⟨g, e, hcell⟩ := hc1'.out i hi
      exact ⟨g, e, cell_later b2 hcell⟩)
    clear hi2 b1 b2 hc1' t1 hT
    generalize hL : xs.length = L at *
    have HL := Lib.hid hL
    clear hL hws
    go_wp2
    go_loop [9, 10, 64] (fun q _ i => ∃ k : Nat, k ≤ s ∧ i = .int .i64 k ∧ q = .int .i64 ((wantN n k : Nat) : Int)) (fun _ _ i => s - (intOf i).toNat)
    case atStart => exact ⟨0, Nat.zero_le _, rfl, rfl⟩
    case round =>
      obtain ⟨k, hk, rfl, rfl⟩ := hrel
      by_cases hlt : k < s
      · have hw := HW.out k (by omega)
        have e : ((wantN n (k + 1) : Nat) : Int) = (wantN n k : Int) * ((n : Int) - k) / ((k : Int) + 1) := by
          show ((wantN n k * (n - k) / (k + 1) : Nat) : Int) = _
          rw [Int.natCast_ediv, Int.natCast_mul, Int.ofNat_sub (by omega)]
          rfl
        have hE := Lib.hid e
        have hb : 0 ≤ (wantN n k : Int) * ((n : Int) - k) ∧ (wantN n k : Int) * ((n : Int) - k) ≤ 924 * 12 := by
          have : wantN n k * (n - k) ≤ 924 * 12 := Nat.mul_le_mul hw (by omega)
          rw [← Int.ofNat_sub (show k ≤ n by omega), ← Int.natCast_mul]
          omega
        generalize wantN n k = q at hE hb hw
        clear e
        go_wp2
        go_round
        case rel => exact ⟨k + 1, by omega, by go_num, by rw [hE.out]⟩
        case measure => simp only [intOf]; omega
      · obtain rfl : k = s := by omega
        go_wp2
        go_loopw [11, 13, 14, 15, 78] (fun q _ _ _ i wr => ∃ j : Nat, j ≤ L ∧ i = .int .i64 j ∧ q = .int .i64 ((clsTake n xs j : Nat) : Int) ∧ Below w2.heap.size w2 wr) (fun _ _ _ _ i _ => L - (intOf i).toNat)
        case atStart => exact ⟨0, Nat.zero_le _, rfl, rfl, Below.refl _ _⟩
        case round =>
          obtain ⟨j, hj, rfl, rfl, hB⟩ := hrel
          have tr := t2.same hB
          by_cases hlt2 : j < L
          · obtain ⟨g, rfl, hcell⟩ := hc2.out j hlt2
            have hcl := cell_later hB hcell
            have hx := HX.out _ (HM.out j hlt2)
            have hC := Lib.hid (HC.out _ hx)
            have hsu := HSU.out j hlt2
            have hle := HLE.out (j + 1)
            rw [hsu] at hle
            have hs' := Lib.hid hsu
            clear hcell hsu
            generalize xs[j]?.getD 0 = x at hcl hx hC hle hs'
            generalize (clsN n x).length = y at hC hle hs'
            generalize clsTake n xs j = q at hle hs'
            go_wp2_with fail
            refine (hC.out _ tr).mono ?_
            rintro e w3 ⟨g3, cap3, rfl, _, _, b3⟩
            have hB3 := hB.trans (b3.mono hB.size)
            go_wp2
            go_roundw
            case rel => exact ⟨j + 1, by omega, by go_num, by rw [hs'.out]; go_num, hB3⟩
            case measure => simp only [intOf]; omega
          · obtain rfl : j = L := by omega
            have hfu := HFU.out
            rw [hfu]
            have hw : wantN n k ≤ 924 := HW.out k (by omega)
            clear hfu
            generalize wantN n k = q at hw
            have hBw := c2.trans (hB.mono c2.size)
            go_wp2_with fail
            refine (awake_any _).mono ?_
            rintro e w6 ⟨rfl, bl6⟩
            have c6 := below_next hBw bl6
            go_wp2
            go_ret
            exact ⟨rfl, c6⟩
  · have H1 := Lib.hid (Primes_bad n s hv)
    clear hv hT
    go_enter Tryd.func13, Tryd.ntmps13
    go_wp2_with fail
    refine (H1.out _).mono ?_
    rintro e w1 ⟨rfl, b1⟩
    go_wp2_with fail
    refine (awake_any _).mono ?_
    rintro e w2 ⟨rfl, b2⟩
    go_wp2
    go_ret
    exact ⟨rfl, below_next b1 b2⟩

end Go.Proofs.YtehjdhegnpmfaaaDoor
