/-
  List and Most of the reference.
-/
import Derived.Test.YtmemnkmmjejlgaaDoorEvListFns
namespace Go.Proofs.YtmemnkmmjejlgaaDoor
open Go.RowKit Go.Shelf
attribute [local go_sem] Oper.semAt_some
set_option maxRecDepth 100000

theorem scTo_one {k : Nat} (hk : 1 ≤ k) : scTo k 1 = [] := by
  rw [scTo_succ, tonesL_zero]
  rw [if_neg (by simp; omega)]
  rfl

theorem pow_int (n : Nat) : (2 : Int) ^ n = ((2 ^ n : Nat) : Int) := by simp

theorem card_L {n c : Nat} (hn : n ≤ 16) (hc : c < 2 ^ n) : (tonesB n c).length = (tonesL c).length := by rw [tonesL_eq c (n := n) (by omega) hc]

set_option maxHeartbeats 2000000 in
theorem refList_any (n k : Nat) (h1 : 2 ≤ n) (h2 : n ≤ 16) (hk1 : 1 ≤ k) (w : World) :
    Calls Tryd.prog 35 #[.int .i64 n, .int .i64 k] w fun e w' => ∃ v, e = .returned v ∧ w'.ownsRow w.heap.size 3 1 v (listE n k).length (ints (listE n k)) ∧ Below w.heap.size w w' := by
  obtain ⟨i0, hi, hz0, hz1, hz2⟩ := info_parts info_int
  have hp := pow_bd (n : Int) (by omega) (by omega)
  simp only [Int.toNat_natCast] at hp
  have hpow := pow_int n
  have Hpow := Lib.hid hpow
  have hp16 : 2 ^ n ≤ 2 ^ 16 := Nat.pow_le_pow_right (by omega) h2
  have HT := Lib.hid (fun c (a : 1 ≤ c) (b : c < 2 ^ n) W => refTones_any n c h2 a b W)
  have HE := Lib.hid (fun c (a : 1 ≤ c) (b : c < 2 ^ n) W => refEven_any n c h1 h2 a b W)
  have HS := Lib.hid (scTo_succ k)
  have HL := Lib.hid (fun c => scTo_length k c)
  have HC := Lib.hid (fun c (b : c < 2 ^ n) => card_L (n := n) (c := c) h2 b)
  have H1 := Lib.hid (scTo_one hk1)
  have HFin := Lib.hid (show (scTo k (2 ^ n)).filter (evenB n) = listE n k from rfl)
  have hpos := Nat.two_pow_pos n
  unfold ListAt at HT
  obtain ⟨H, hH⟩ : ∃ H, w.heap.size = H := ⟨_, rfl⟩
  have hHle : H ≤ w.heap.size := by omega
  rw [hH]
  clear hH hpow
  go_enter Tryd.func35, Tryd.ntmps35
  go_wp2
  go_loopw [5, 6] (fun v i wr => ∃ c : Nat, 1 ≤ c ∧ c ≤ 2 ^ n ∧ i = .int .i64 c ∧ wr.ownsRow H 3 1 v ((scTo k c).filter (evenB n)).length (ints ((scTo k c).filter (evenB n))) ∧ Below H w wr) (fun _ i _ => 2 ^ n - (intOf i).toNat)
  case atStart => exact ⟨1, Nat.le_refl _, hpos, rfl, by rw [H1.out]; exact World.ownsRow_nil _ _ _ _, Below.refl _ _⟩
  case round =>
    obtain ⟨c, hc1, hc2, rfl, hown, hB⟩ := hrel
    have HO := Lib.hid hown
    have hBs := hB.size
    clear hown
    by_cases hlt : c < 2 ^ n
    · have hlti : (c : Int) < (2 : Int) ^ n := by rw [Hpow.out]; omega
      have hT := Lib.hid (HT.out c hc1 hlt wr)
      have hE := Lib.hid (HE.out c hc1 hlt)
      have hsc := HS.out c
      have hcc := HC.out c hlt
      have hfl : ((scTo k c).filter (evenB n)).length ≤ 65536 := Nat.le_trans (List.length_filter_le _ _) (by have := HL.out c; omega)
      rw [hcc] at hT
      by_cases hcnt : (tonesL c).length = k
      · rw [if_pos hcnt] at hsc
        have hq : ((((tonesL c).length : Nat) : Int) == (k : Int)) = true := by rw [beq_iff_eq]; omega
        have hst : (scTo k (c + 1)).filter (evenB n) = (scTo k c).filter (evenB n) ++ if evenB n c = true then [c] else [] := by
          rw [hsc, List.filter_append]
          congr 1
          by_cases h : evenB n c = true <;> simp [h]
        generalize (tonesL c).length = tt at hT hq
        generalize evenB n c = ev at hE hst
        clear hsc hcc hcnt
        cases ev
        · rw [if_neg (by decide), List.append_nil] at hst
          have Hst := Lib.hid hst
          clear hst
          go_wp2_with fail
          refine hT.out.mono ?_
          rintro e w2 ⟨_, rfl, ⟨g2, cap2, rfl, _, _, _⟩, hb2⟩
          have HO2 := Lib.hid (owns_later HO.out hb2)
          have hB2 := hB.trans (hb2.mono (Nat.le_trans hHle hBs))
          go_wp2_with fail
          refine (hE.out _).mono ?_
          rintro e w3 ⟨rfl, hb3⟩
          have HO3 := Lib.hid (owns_later HO2.out hb3)
          have hB3 := hB2.trans (hb3.mono (Nat.le_trans hHle hB2.size))
          clear hb2 hb3
          go_wp2
          go_roundw
          case rel => exact ⟨c + 1, by omega, by omega, by go_num, by rw [Hst.out]; exact HO3.out, hB3⟩
          case measure => simp only [intOf]; omega
        · rw [if_pos rfl] at hst
          have Hst := Lib.hid hst
          clear hst
          go_wp2_with fail
          refine hT.out.mono ?_
          rintro e w2 ⟨_, rfl, ⟨g2, cap2, rfl, _, _, _⟩, hb2⟩
          have HO2 := Lib.hid (owns_later HO.out hb2)
          have hB2 := hB.trans (hb2.mono (Nat.le_trans hHle hBs))
          go_wp2_with fail
          refine (hE.out _).mono ?_
          rintro e w3 ⟨rfl, hb3⟩
          have HO3 := Lib.hid (owns_later HO2.out hb3)
          have hB3 := hB2.trans (hb3.mono (Nat.le_trans hHle hB2.size))
          have hB3s := hB3.size
          clear hb2 hb3
          go_wp2_with (at_builtin; refine wpList_append_own _ rfl _ _ 25 rfl H 3 i0 (.int .i64 0) 1 8 Tryd.underlying25 hi hz0 hz1 hz2 rfl (by decide) _ _ _ rfl (HO3.out.alloc _) ⟨w3.heap.size, 0, none⟩ 1 1 [.int .i64 c] rfl rfl (cell_one_new _ _ _) (by simp [Value.oneCell']) (by unfold maxLen; omega) (by omega) (by simp; omega) ?_; intro v' w4 hown1 hgrow1 hnil1)
          go_roundw
          case rel => exact ⟨c + 1, by omega, by omega, by go_num, by rw [Hst.out, List.length_append]; unfold ints at hown1 ⊢; rw [List.map_append]; exact hown1, (hB3.alloc (by omega) _).grown hgrow1 (by simp; omega) (fun q e => (HO3.out.lt q e).1)⟩
          case measure => simp only [intOf]; omega
      · rw [if_neg hcnt, List.append_nil] at hsc
        have Hsc := Lib.hid hsc
        have hq : ((((tonesL c).length : Nat) : Int) == (k : Int)) = false := by rw [beq_eq_false_iff_ne]; omega
        generalize (tonesL c).length = tt at hT hq
        clear hsc hcc hcnt
        go_wp2_with fail
        refine hT.out.mono ?_
        rintro e w2 ⟨_, rfl, ⟨g2, cap2, rfl, _, _, _⟩, hb2⟩
        have HO2 := Lib.hid (owns_later HO.out hb2)
        have hB2 := hB.trans (hb2.mono (Nat.le_trans hHle hBs))
        clear hb2
        go_wp2
        go_roundw
        case rel => exact ⟨c + 1, by omega, by omega, by go_num, by rw [Hsc.out]; exact HO2.out, hB2⟩
        case measure => simp only [intOf]; omega
    · have hcn : c = 2 ^ n := by omega
      have hlti : ¬ (c : Int) < (2 : Int) ^ n := by rw [Hpow.out]; omega
      have ho := HO.out
      rw [hcn, HFin.out] at ho
      have HOf := Lib.hid ho
      clear ho hcn hlt
      go_wp2
      go_ret
      exact ⟨_, rfl, HOf.out, hB⟩

theorem sumS_le {n s : Nat} (h : n ≤ 16) : sumS n s ≤ 65536 := by
  unfold sumS accR
  have hle := tonesB_le n s
  exact accs_le (fun i hi => rows_le (fun b => prN_le h (tones_small h) b i) (by omega)) (by omega)

/-- What the reference holds for the greatest sum: -1 before the first. -/
def BestI (n : Nat) (xs : List Nat) (b : Int) : Prop := (xs = [] ∧ b = -1) ∨ (xs ≠ [] ∧ b = ((mstTo n xs).1 : Nat))

theorem best_step {n c : Nat} {xs : List Nat} {b : Int} (h : BestI n xs b) :
    (b < ((sumS n c : Nat) : Int) → mstTo n (xs ++ [c]) = (sumS n c, [c])) ∧ (b = ((sumS n c : Nat) : Int) → mstTo n (xs ++ [c]) = ((mstTo n xs).1, (mstTo n xs).2 ++ [c]) ∧ b = ((mstTo n xs).1 : Nat)) ∧ (((sumS n c : Nat) : Int) < b → mstTo n (xs ++ [c]) = mstTo n xs ∧ b = ((mstTo n xs).1 : Nat)) := by
  rw [mstTo_snoc]
  unfold mstStep
  rcases h with ⟨rfl, rfl⟩ | ⟨_, rfl⟩
  · have e : mstTo n ([] : List Nat) = (0, []) := rfl
    rw [e]
    simp only
    refine ⟨fun _ => ?_, fun h => by omega, fun h => by omega⟩
    by_cases h0 : 0 < sumS n c
    · rw [if_pos h0]
    · rw [if_neg h0, if_pos (by omega), show sumS n c = 0 by omega]; rfl
  · refine ⟨fun h => by rw [if_pos (by omega)], fun h => ⟨by rw [if_neg (by omega), if_pos (by omega)], rfl⟩, fun h => ⟨by rw [if_neg (by omega), if_neg (by omega)], rfl⟩⟩

/-- The scales with k tones whose sum is the greatest. -/
def mostL (n k : Nat) : List Nat := (mstTo n (scTo k (2 ^ n))).2

theorem mst_length (n : Nat) (xs : List Nat) : (mstTo n xs).2.length ≤ xs.length := by
  rw [(mst_spec n xs).2.1]; exact List.length_filter_le _ _

set_option maxHeartbeats 4000000 in
theorem refMost_any (n k : Nat) (h1 : 2 ≤ n) (h2 : n ≤ 16) (hk1 : 1 ≤ k) (w : World) :
    Calls Tryd.prog 34 #[.int .i64 n, .int .i64 k] w fun e w' => ∃ v, e = .returned v ∧ w'.ownsRow w.heap.size 3 1 v (mostL n k).length (ints (mostL n k)) ∧ Below w.heap.size w w' := by
  obtain ⟨i0, hi, hz0, hz1, hz2⟩ := info_parts info_int
  have hp := pow_bd (n : Int) (by omega) (by omega)
  simp only [Int.toNat_natCast] at hp
  have hpow := pow_int n
  have Hpow := Lib.hid hpow
  have hp16 : 2 ^ n ≤ 2 ^ 16 := Nat.pow_le_pow_right (by omega) h2
  have HT := Lib.hid (fun c (a : 1 ≤ c) (b : c < 2 ^ n) W => refTones_any n c h2 a b W)
  have HE := Lib.hid (fun c (a : 1 ≤ c) (b : c < 2 ^ n) W => refSum_any n c h2 a b W)
  have HS := Lib.hid (scTo_succ k)
  have HL := Lib.hid (fun c => scTo_length k c)
  have HC := Lib.hid (fun c (b : c < 2 ^ n) => card_L (n := n) (c := c) h2 b)
  have H1 := Lib.hid (scTo_one hk1)
  have HSl := Lib.hid (fun c => sumS_le (n := n) (s := c) h2)
  have HFin := Lib.hid (show (mstTo n (scTo k (2 ^ n))).2 = mostL n k from rfl)
  have hpos := Nat.two_pow_pos n
  unfold ListAt at HT
  obtain ⟨H, hH⟩ : ∃ H, w.heap.size = H := ⟨_, rfl⟩
  have hHle : H ≤ w.heap.size := by omega
  rw [hH]
  clear hH hpow
  go_enter Tryd.func34, Tryd.ntmps34
  go_wp2
  go_loopw [5, 6, 7] (fun bv v i wr => ∃ (c : Nat) (b : Int), 1 ≤ c ∧ c ≤ 2 ^ n ∧ i = .int .i64 c ∧ bv = .int .i64 b ∧ BestI n (scTo k c) b ∧ wr.ownsRow H 3 1 v (mstTo n (scTo k c)).2.length (ints (mstTo n (scTo k c)).2) ∧ Below H w wr) (fun _ _ i _ => 2 ^ n - (intOf i).toNat)
  case atStart => exact ⟨1, -1, Nat.le_refl _, hpos, rfl, rfl, Or.inl ⟨H1.out, rfl⟩, by rw [H1.out]; exact World.ownsRow_nil _ _ _ _, Below.refl _ _⟩
  case round =>
    obtain ⟨c, b, hc1, hc2, rfl, rfl, hbest, hown, hB⟩ := hrel
    have HO := Lib.hid hown
    have HBest := Lib.hid hbest
    have hBs := hB.size
    clear hown hbest
    by_cases hlt : c < 2 ^ n
    · have hlti : (c : Int) < (2 : Int) ^ n := by rw [Hpow.out]; omega
      have hT := Lib.hid (HT.out c hc1 hlt wr)
      have hE := Lib.hid (HE.out c hc1 hlt)
      have hsc := HS.out c
      have hcc := HC.out c hlt
      have hfl : (mstTo n (scTo k c)).2.length ≤ 65536 := Nat.le_trans (mst_length _ _) (by have := HL.out c; omega)
      rw [hcc] at hT
      by_cases hcnt : (tonesL c).length = k
      · rw [if_pos hcnt] at hsc
        have hq : ((((tonesL c).length : Nat) : Int) != (k : Int)) = false := by rw [bne_eq_false_iff_eq]; omega
        obtain ⟨s1, s2, s3⟩ := best_step (c := c) HBest.out
        rw [← hsc] at s1 s2 s3
        have hne : scTo k (c + 1) ≠ [] := by rw [hsc]; simp
        have hxl := HSl.out c
        generalize (tonesL c).length = tt at hT hq
        generalize sumS n c = x at hE s1 s2 s3 hxl
        clear hsc hcc hcnt
        by_cases hgt : b < (x : Int)
        · have Hst := Lib.hid (s1 hgt)
          have HB2 := Lib.hid (show BestI n (scTo k (c + 1)) x from Or.inr ⟨hne, by rw [Hst.out]⟩)
          clear s1 s2 s3 hne
          go_wp2_with fail
          refine hT.out.mono ?_
          rintro e w2 ⟨_, rfl, ⟨g2, cap2, rfl, _, _, _⟩, hb2⟩
          have hB2 := hB.trans (hb2.mono (Nat.le_trans hHle hBs))
          go_wp2_with fail
          refine (hE.out _).mono ?_
          rintro e w3 ⟨rfl, hb3⟩
          have hB3 := hB2.trans (hb3.mono (Nat.le_trans hHle hB2.size))
          have hB3s := hB3.size
          have HO3 := Lib.hid (World.ownsRow_nil w3 H 3 1)
          clear hb2 hb3
          go_wp2_with (at_builtin; refine wpList_append_own _ rfl _ _ 25 rfl H 3 i0 (.int .i64 0) 1 8 Tryd.underlying25 hi hz0 hz1 hz2 rfl (by decide) _ _ _ rfl (HO3.out.alloc _) ⟨w3.heap.size, 0, none⟩ 1 1 [.int .i64 c] rfl rfl (cell_one_new _ _ _) (by simp [Value.oneCell']) (by unfold maxLen; omega) (by omega) (by simp; omega) ?_; intro v' w4 hown1 hgrow1 hnil1)
          go_roundw
          case rel => exact ⟨c + 1, x, by omega, by omega, by go_num, rfl, HB2.out, by rw [Hst.out]; exact hown1, (hB3.alloc (by omega) _).grown hgrow1 (by simp; omega) (fun q e => (HO3.out.lt q e).1)⟩
          case measure => simp only [intOf]; omega
        · by_cases heq : b = (x : Int)
          · obtain ⟨st, hbG⟩ := s2 heq
            have Hst := Lib.hid st
            have HB2 := Lib.hid (show BestI n (scTo k (c + 1)) x from Or.inr ⟨hne, by rw [Hst.out, ← heq]; exact hbG⟩)
            clear s1 s2 s3 hne st hbG
            subst heq
            go_wp2_with fail
            refine hT.out.mono ?_
            rintro e w2 ⟨_, rfl, ⟨g2, cap2, rfl, _, _, _⟩, hb2⟩
            have HO2 := Lib.hid (owns_later HO.out hb2)
            have hB2 := hB.trans (hb2.mono (Nat.le_trans hHle hBs))
            go_wp2_with fail
            refine (hE.out _).mono ?_
            rintro e w3 ⟨rfl, hb3⟩
            have HO3 := Lib.hid (owns_later HO2.out hb3)
            have hB3 := hB2.trans (hb3.mono (Nat.le_trans hHle hB2.size))
            have hB3s := hB3.size
            clear hb2 hb3
            go_wp2_with (at_builtin; refine wpList_append_own _ rfl _ _ 25 rfl H 3 i0 (.int .i64 0) 1 8 Tryd.underlying25 hi hz0 hz1 hz2 rfl (by decide) _ _ _ rfl (HO3.out.alloc _) ⟨w3.heap.size, 0, none⟩ 1 1 [.int .i64 c] rfl rfl (cell_one_new _ _ _) (by simp [Value.oneCell']) (by unfold maxLen; omega) (by omega) (by simp; omega) ?_; intro v' w4 hown1 hgrow1 hnil1)
            go_roundw
            case rel => exact ⟨c + 1, x, by omega, by omega, by go_num, rfl, HB2.out, by rw [Hst.out]; simp only [List.length_append]; unfold ints at hown1 ⊢; rw [List.map_append]; exact hown1, (hB3.alloc (by omega) _).grown hgrow1 (by simp; omega) (fun q e => (HO3.out.lt q e).1)⟩
            case measure => simp only [intOf]; omega
          · have hlt3 : (x : Int) < b := by omega
            obtain ⟨st, hbG⟩ := s3 hlt3
            have Hst := Lib.hid st
            have HB2 := Lib.hid (show BestI n (scTo k (c + 1)) b from Or.inr ⟨hne, by rw [Hst.out]; exact hbG⟩)
            clear s1 s2 s3 hne st hbG
            go_wp2_with fail
            refine hT.out.mono ?_
            rintro e w2 ⟨_, rfl, ⟨g2, cap2, rfl, _, _, _⟩, hb2⟩
            have HO2 := Lib.hid (owns_later HO.out hb2)
            have hB2 := hB.trans (hb2.mono (Nat.le_trans hHle hBs))
            go_wp2_with fail
            refine (hE.out _).mono ?_
            rintro e w3 ⟨rfl, hb3⟩
            have HO3 := Lib.hid (owns_later HO2.out hb3)
            have hB3 := hB2.trans (hb3.mono (Nat.le_trans hHle hB2.size))
            clear hb2 hb3
            go_wp2
            go_roundw
            case rel => exact ⟨c + 1, b, by omega, by omega, by go_num, rfl, HB2.out, by rw [Hst.out]; exact HO3.out, hB3⟩
            case measure => simp only [intOf]; omega
      · rw [if_neg hcnt, List.append_nil] at hsc
        have Hsc := Lib.hid hsc
        have hq : ((((tonesL c).length : Nat) : Int) != (k : Int)) = true := by rw [bne_iff_ne]; omega
        generalize (tonesL c).length = tt at hT hq
        clear hsc hcc hcnt
        go_wp2_with fail
        refine hT.out.mono ?_
        rintro e w2 ⟨_, rfl, ⟨g2, cap2, rfl, _, _, _⟩, hb2⟩
        have HO2 := Lib.hid (owns_later HO.out hb2)
        have hB2 := hB.trans (hb2.mono (Nat.le_trans hHle hBs))
        clear hb2
        go_wp2
        go_roundw
        case rel => exact ⟨c + 1, b, by omega, by omega, by go_num, rfl, by rw [Hsc.out]; exact HBest.out, by rw [Hsc.out]; exact HO2.out, hB2⟩
        case measure => simp only [intOf]; omega
    · have hcn : c = 2 ^ n := by omega
      have hlti : ¬ (c : Int) < (2 : Int) ^ n := by rw [Hpow.out]; omega
      have ho := HO.out
      rw [hcn, HFin.out] at ho
      have HOf := Lib.hid ho
      clear ho hcn hlt
      go_wp2
      go_ret
      exact ⟨_, rfl, HOf.out, hB⟩

end Go.Proofs.YtmemnkmmjejlgaaDoor
