/-
  List where it refuses; the reference's Size and List.
-/
import Derived.Test.YtehjdhegnpmfaabDoorCaList
import Derived.Test.YtehjdhegnpmfaabDoorCaPartsLaw
namespace Go.Proofs.YtehjdhegnpmfaabDoor
open Go.RowKit Go.Shelf
attribute [local go_sem] Oper.semAt_some
set_option maxRecDepth 100000

theorem List_bad (n s : Int) (h : vldN n = false ∨ 16 < n ∨ s < 1 ∨ n < s) (w : World) :
    Calls Tryd.prog 38 #[.int .i64 n, .int .i64 s] w fun e w' => e = .returned (.tuple #[.slice none 0 0, .int .i64 2]) ∧ Below w.heap.size w w' := by
  have HV := Lib.hid (valid0 n)
  have hB : Below w.heap.size w ((w.alloc (.cells #[.int .i64 n] 3)).alloc (.cells #[.int .i64 s] 3)) := ((Below.refl _ w).alloc (Nat.le_refl _) _).alloc (by simp) _
  have hcn : ((w.alloc (.cells #[.int .i64 n] 3)).alloc (.cells #[.int .i64 s] 3)).cell? ⟨w.heap.size, 0, none⟩ = some (.int .i64 n) := cell_up (cell_at rfl)
  have hcs : ((w.alloc (.cells #[.int .i64 n] 3)).alloc (.cells #[.int .i64 s] 3)).cell? ⟨w.heap.size + 1, 0, none⟩ = some (.int .i64 s) := cell_at (by simp)
  cases hv : vldN n
  · rw [hv] at HV
    clear h hv
    go_enter Tryd.func38, Tryd.ntmps38
    go_wp2_with (go_at_call 46; refine (HV.out _).mono ?_; rintro e w' ⟨rfl, rfl⟩)
    go_ret2
    exact ⟨rfl, hB⟩
  · rw [hv] at HV
    have h2 := h.resolve_left (by rw [hv]; decide)
    clear h hv
    by_cases h16 : (16 : Int) < n
    · clear h2
      go_enter Tryd.func38, Tryd.ntmps38
      go_wp2_with (go_at_call 46; refine (HV.out _).mono ?_; rintro e w' ⟨rfl, rfl⟩)
      go_ret2
      exact ⟨rfl, hB⟩
    · have h3 := h2.resolve_left h16
      clear h2
      by_cases hs1 : s < 1
      · clear h3
        go_enter Tryd.func38, Tryd.ntmps38
        go_wp2_with (go_at_call 46; refine (HV.out _).mono ?_; rintro e w' ⟨rfl, rfl⟩)
        go_ret2
        exact ⟨rfl, hB⟩
      · have h4 := h3.resolve_left hs1
        clear h3
        go_enter Tryd.func38, Tryd.ntmps38
        go_wp2_with (go_at_call 46; refine (HV.out _).mono ?_; rintro e w' ⟨rfl, rfl⟩)
        go_ret2
        exact ⟨rfl, hB⟩

theorem refSize2_any (c : Nat) (hc : c < 2 ^ 62) (w : World) :
    Calls Tryd.prog 43 #[.int .i64 c] w fun e w' => e = .returned (.int .i64 ((tonesL c).length : Nat)) ∧ w = w' := by
  go_enter Tryd.func43, Tryd.ntmps43
  go_wp2
  have HL := Lib.hid (tonesL_length c)
  go_loop [0, 3] (fun u v => ∃ r k : Nat, r < 2 ^ 62 ∧ u = .int .i64 r ∧ v = .int .i64 k ∧ (tonesL c).length = k + (tonesL r).length) (fun u _ => (intOf u).toNat)
  case atStart => exact ⟨c, 0, hc, rfl, rfl, by omega⟩
  case round =>
    obtain ⟨r, k, hr, rfl, rfl, hk⟩ := hrel
    by_cases h0 : r = 0
    · subst h0
      have h' : ((0 : Nat) : Int) = 0 := rfl
      rw [h']
      have hk' := Lib.hid hk
      clear hk
      go_wp2
      go_ret
      exact ⟨ret_int (by rw [hk'.out, tonesL_zero]; simp), rfl⟩
    · have hst := tonesL_step r h0 (by omega)
      have hlen : k ≤ 64 := by have := HL.out; omega
      have hand : Hid (bits .and .i64 (r : Int) ((r : Int) - 1) = ((r &&& (r - 1) : Nat) : Int)) := Lib.hid (by
        have e : (r : Int) - 1 = ((r - 1 : Nat) : Int) := by omega
        rw [e]; exact and_nat r (r - 1) (by omega) (by omega))
      have hdec : r &&& (r - 1) < r := Nat.lt_of_le_of_lt Nat.and_le_right (by omega)
      have hk' := Lib.hid (show (tonesL c).length = k + 1 + (tonesL (r &&& (r - 1))).length by rw [hk, hst]; simp; omega)
      clear hst hk
      go_wp2
      go_round
      case rel => exact ⟨r &&& (r - 1), k + 1, by omega, by rw [hand.out], by go_num, hk'.out⟩
      case measure => simp only [intOf]; rw [hand.out]; omega

def listK (n s k : Nat) : List Nat := ((List.range k).map fun c => 2 * c + 1).filter (lst n s)
theorem listK_succ (n s k : Nat) : listK n s (k + 1) = listK n s k ++ if lst n s (2 * k + 1) = true then [2 * k + 1] else [] := by
  unfold listK
  rw [List.range_succ, List.map_append, List.filter_append]
  congr 1
  by_cases h : lst n s (2 * k + 1) = true <;> simp [h]
theorem listK_length (n s k : Nat) : (listK n s k).length ≤ k := by
  unfold listK
  exact Nat.le_trans (List.length_filter_le _ _) (by simp)

theorem partners_none {n a : Nat} (hn : n ≤ 64) (ha : a < 2 ^ n) (h : n % (tonesL a).length ≠ 0) : partners n a = [] := by
  unfold partners
  rw [if_neg (by rw [← cardN_tonesL hn ha]; exact h)]

set_option maxHeartbeats 2000000 in
theorem refList_any (n s : Nat) (hn : 2 ≤ n) (hn2 : n ≤ 16) (hs1 : 1 ≤ s) (hs2 : s ≤ n) (w : World) :
    Calls Tryd.prog 42 #[.int .i64 n, .int .i64 s] w fun e w' => ∃ v, e = .returned v ∧ w'.ownsRow w.heap.size 3 1 v (listN n s).length (ints (listN n s)) ∧ Below w.heap.size w w' := by
  obtain ⟨i0, hi, hz0, hz1, hz2⟩ := info_parts info_int
  have hp := pow_bd (n : Int) (by omega) (by omega)
  simp only [Int.toNat_natCast] at hp
  have hn3 : 2 ^ (n - 1) ≤ 2 ^ 15 := Nat.pow_le_pow_right (by omega) (by omega)
  have hdb : 2 ^ n = 2 * 2 ^ (n - 1) := by rw [← Nat.pow_succ']; congr 1; omega
  have Hpow := Lib.hid (show (2 : Int) ^ n = ((2 ^ n : Nat) : Int) by simp)
  have hn4 : 2 ^ n ≤ 2 ^ 16 := by omega
  have HSz := Lib.hid (fun c hc => refSize2_any c hc)
  have HPt := Lib.hid (fun a ha ha1 => refPart n a hn (by omega) ha ha1)
  have HPn := Lib.hid (fun a ha h => partners_none (n := n) (a := a) (by omega) ha h)
  have HW := Lib.hid (listK_succ n s)
  have HL := Lib.hid (listK_length n s)
  have htm : (n : Int).tmod (s : Int) = ((n % s : Nat) : Int) := by rw [Int.tmod_eq_emod_of_nonneg (by omega)]; simp
  have hsz : ((s : Int) == 0) = false := by rw [beq_eq_false_iff_ne]; omega
  obtain ⟨H, hH⟩ : ∃ H, w.heap.size = H := ⟨_, rfl⟩
  have hHle : H ≤ w.heap.size := by omega
  rw [hH]
  clear hH
  go_enter Tryd.func42, Tryd.ntmps42
  go_wp2
  go_loopw [5, 6, 7, 8] (fun v i _ _ wr => ∃ k a : Nat, k ≤ 2 ^ (n - 1) ∧ a = 2 * k + 1 ∧ i = .int .i64 (a : Nat) ∧ wr.ownsRow H 3 1 v (listK n s k).length (ints (listK n s k)) ∧ Below H w wr) (fun _ i _ _ _ => 2 ^ n + 1 - (intOf i).toNat)
  case atStart => exact ⟨0, 1, Nat.zero_le _, rfl, rfl, World.ownsRow_nil _ _ _ _, Below.refl _ _⟩
  case round =>
    obtain ⟨k, a, hk, hae, rfl, hown, hB⟩ := hrel
    have hs := hB.size
    have ho' := Lib.hid hown
    have hB' := Lib.hid hB
    have hl := HL.out k
    by_cases hlt : k < 2 ^ (n - 1)
    · have han : a < 2 ^ n := by omega
      have ha1 : a % 2 = 1 := by omega
      have hai : (a : Int) < (2 : Int) ^ n := by rw [Hpow.out]; omega
      have hw := HW.out k
      have hsize := Lib.hid (HSz.out a (by omega))
      have hpt := Lib.hid (HPt.out a han ha1)
      have hpn := Lib.hid (HPn.out a han)
      rw [← hae] at hw
      have hls : lst n s a = ((tonesL a).length == s && decide (partners n a ≠ [])) := rfl
      have HAE := Lib.hid hae
      clear hown hB hae
      generalize partners n a = xs at hpt hpn hls
      generalize (tonesL a).length = tt at hsize hpn hls
      have skip : lst n s a = false → listK n s (k + 1) = listK n s k := fun h => by rw [hw, if_neg (by rw [h]; decide), List.append_nil]
      have SK := Lib.hid skip
      clear skip
      by_cases hts : tt = s
      · have q1 : ((tt : Int) == (s : Int)) = true := by rw [beq_iff_eq]; omega
        by_cases hd : n % s = 0
        · rw [hd] at htm
          rw [hts, beq_self_eq_true, Bool.true_and] at hls
          have HW2 := Lib.hid hw
          have HLS := Lib.hid hls
          clear hw hls hts hd
          go_wp2_with fail
          refine (hsize.out _).mono ?_
          rintro e w' ⟨rfl, rfl⟩
          go_wp2_with fail
          refine (hpt.out _).mono ?_
          rintro e w2 ⟨hr, b2⟩
          rcases hr with ⟨hx, rfl⟩ | ⟨b, hb, _, rfl⟩
          · have hsk := Lib.hid (SK.out (by rw [HLS.out, hx]; rfl))
            clear hx
            go_wp2
            go_roundw
            case rel => exact ⟨k + 1, a + 2, by omega, by have := HAE.out; omega, by go_num, by rw [hsk.out]; exact owns_later ho'.out b2, hB'.out.trans (b2.mono (by omega))⟩
            case measure => simp only [intOf]; omega
          · have hne : lst n s a = true := by
              rw [HLS.out, decide_eq_true_eq]
              intro e; rw [e] at hb; cases hb
            have hw' := HW2.out
            rw [if_pos hne] at hw'
            have hw2 := Lib.hid hw'
            have ho2 := Lib.hid (owns_later ho'.out b2)
            have hB2 := hB'.out.trans (b2.mono (by omega))
            have hs2 := hB2.size
            have HB2 := Lib.hid hB2
            clear hb hne hw' hB2
            go_wp2_with (at_builtin; refine wpList_append_own _ rfl _ _ 35 rfl H 3 i0 (.int .i64 0) 1 8 Tryd.underlying35 hi hz0 hz1 hz2 rfl (by decide) _ _ _ rfl (ho2.out.alloc _) ⟨w2.heap.size, 0, none⟩ 1 1 [.int .i64 a] rfl rfl (cell_one_new _ _ _) (by simp [Value.oneCell']) (by unfold maxLen; omega) (by omega) (by simp; omega) ?_; intro v' w1 hown1 hgrow1 hnil1)
            go_roundw
            case rel => exact ⟨k + 1, a + 2, by omega, by have := HAE.out; omega, by go_num, by rw [hw2.out, List.length_append]; unfold ints at hown1 ⊢; rw [List.map_append]; exact hown1, (HB2.out.alloc (by omega) _).grown hgrow1 (by simp; omega) (fun q e => (ho2.out.lt q e).1)⟩
            case measure => simp only [intOf]; omega
        · have hq : ((((n % s : Nat)) : Int) == 0) = false := by rw [beq_eq_false_iff_ne]; omega
          have hsk := Lib.hid (SK.out (by rw [hls, hpn.out (by rw [hts]; exact hd)]; simp))
          clear hw hls hts
          go_wp2_with fail
          refine (hsize.out _).mono ?_
          rintro e w' ⟨rfl, rfl⟩
          go_wp2
          go_roundw
          case rel => exact ⟨k + 1, a + 2, by omega, by have := HAE.out; omega, by go_num, by rw [hsk.out]; exact ho'.out, hB'.out⟩
          case measure => simp only [intOf]; omega
      · have q1 : ((tt : Int) == (s : Int)) = false := by rw [beq_eq_false_iff_ne]; omega
        have hsk := Lib.hid (SK.out (by rw [hls, (beq_eq_false_iff_ne).2 hts]; rfl))
        clear hw hls
        go_wp2_with fail
        refine (hsize.out _).mono ?_
        rintro e w' ⟨rfl, rfl⟩
        go_wp2
        go_roundw
        case rel => exact ⟨k + 1, a + 2, by omega, by have := HAE.out; omega, by go_num, by rw [hsk.out]; exact ho'.out, hB'.out⟩
        case measure => simp only [intOf]; omega
    · obtain rfl : k = 2 ^ (n - 1) := by omega
      have hai : ¬ (a : Int) < (2 : Int) ^ n := by rw [Hpow.out]; omega
      clear hown hB hae
      go_wp2
      go_ret
      exact ⟨_, rfl, ho'.out, hB'.out⟩

end Go.Proofs.YtehjdhegnpmfaabDoor
