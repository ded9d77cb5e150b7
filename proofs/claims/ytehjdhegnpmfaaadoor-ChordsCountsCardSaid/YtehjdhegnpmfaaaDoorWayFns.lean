/-
  Way, the reference's Way and Common; the walk of the statement on Way and Common.
-/
import Derived.Test.YtehjdhegnpmfaaaDoorCommonFns
namespace Go.Proofs.YtehjdhegnpmfaaaDoor
open Go.RowKit Go.Shelf
attribute [local go_sem] Oper.semAt_some
set_option maxRecDepth 100000

/-- The first way, of those without a turn and those with one. -/
def wayK : List Nat → List Nat → Nat
  | x :: _, _ => x
  | [], y :: _ => y
  | [], [] => 0
def wayT : List Nat → List Nat → Bool
  | [], _ :: _ => true
  | _, _ => false
def wayE : List Nat → List Nat → Nat
  | [], [] => 4
  | _, _ => 0

theorem waysTo_first {n x b k : Nat} (h0 : waysTo n x b k = []) (h : mvN n x k = b) : ∀ m, k < m → ∃ r, waysTo n x b m = k :: r := by
  intro m
  induction m with
  | zero => intro h; omega
  | succ m ih =>
    intro hk
    rw [waysTo_succ]
    by_cases e : k = m
    · subst e; rw [h0, if_pos h]; exact ⟨[], rfl⟩
    · obtain ⟨r, hr⟩ := ih (by omega)
      rw [hr]; exact ⟨_, rfl⟩
theorem waysTo_none {n x b k : Nat} (h0 : waysTo n x b k = []) (h : mvN n x k ≠ b) : waysTo n x b (k + 1) = [] := by
  rw [waysTo_succ, h0, if_neg h]; rfl

theorem Way_bad (n a b : Int) (h : (vldB n a && vldB n b) = false) (w : World) :
    Calls Tryd.prog 33 #[.int .i64 n, .int .i64 a, .int .i64 b] w fun e w' => e = .returned (.tuple #[.int .i64 0, .bool false, .int .i64 2]) ∧ Below w.heap.size w w' := by
  have HV := Lib.hid (valid2_of n a b _ h)
  clear h
  go_enter Tryd.func33, Tryd.ntmps33
  go_wp2_with (go_at_call 47; refine (HV.out _ _ (cell_two rfl).1 (cell_two rfl).2).mono ?_; rintro e w' ⟨rfl, rfl⟩)
  go_ret3
  exact ⟨rfl, (Below.refl _ w).alloc (Nat.le_refl _) _⟩

theorem Way_ok (n a b : Nat) (h1 : 2 ≤ n) (h2 : n ≤ 16) (h3 : a < 2 ^ n) (h4 : b < 2 ^ n) (w : World) (hT : Tab w) :
    Calls Tryd.prog 33 #[.int .i64 n, .int .i64 a, .int .i64 b] w fun e w' => e = .returned (.tuple #[.int .i64 ((wayK (waysTo n a b n) (waysTo n (mulN n a (-1)) b n) : Nat) : Int), .bool (wayT (waysTo n a b n) (waysTo n (mulN n a (-1)) b n)), .int .i64 ((wayE (waysTo n a b n) (waysTo n (mulN n a (-1)) b n) : Nat) : Int)]) ∧ Below w.heap.size w w' := by
  have HV := Lib.hid (valid2_of n a b true (by rw [vldB_of_nat h1 h2 h3, vldB_of_nat h1 h2 h4]; rfl))
  have HA := Lib.hid (movesBetween_any n a b h1 h2 h3 h4)
  have HB := Lib.hid (movesBetween_any n (mulN n a (-1)) b h1 h2 (mulN_lt16 h1) h4)
  have HT := Lib.hid (turn_any n a h1 h2 h3)
  generalize mulN n a (-1) = t at HB HT
  generalize waysTo n a b n = xs at HA
  generalize waysTo n t b n = ys at HB
  have hB : Below w.heap.size w (w.alloc (.cells #[.int .i64 a, .int .i64 b] 3)) := (Below.refl _ w).alloc (Nat.le_refl _) _
  have hTa := hT.same hB
  clear h3 h4 hT
  go_enter Tryd.func33, Tryd.ntmps33
  go_wp2_with (go_at_call 47; refine (HV.out _ _ (cell_two rfl).1 (cell_two rfl).2).mono ?_; rintro e w' ⟨rfl, rfl⟩)
  refine (HA.out _).mono ?_
  rintro e w1 ⟨v1, rfl, hv1, b1⟩
  have t1 := hTa.same b1
  have c1 := hB.trans (b1.mono (by simp))
  clear hTa b1 hB
  cases xs with
  | cons x xr =>
    rcases hv1 with ⟨rfl, h⟩ | ⟨g1, p1, rfl, hg1, hc1⟩
    · cases h
    · have c0 : w1.cell? ⟨g1, 0, none⟩ = some (.int .i64 (x : Int)) := hc1 0 (by simp)
      have hl : 0 < (x :: xr).length := by simp
      generalize (x :: xr).length = L at hl
      clear hc1 t1
      go_wp2
      go_ret3
      exact ⟨rfl, c1⟩
  | nil =>
    rcases hv1 with ⟨rfl, _⟩ | ⟨g1, p1, rfl, hg1, hc1⟩
    · go_wp2_with fail
      refine (HT.out _ t1).mono ?_
      rintro e w2 ⟨rfl, b2⟩
      have c2 := below_next c1 b2
      clear c1 b2 t1
      go_wp2_with fail
      refine (HB.out _).mono ?_
      rintro e w3 ⟨v2, rfl, hv2, b3⟩
      have c3 := below_next c2 b3
      clear c2 b3
      cases ys with
      | cons y yr =>
        rcases hv2 with ⟨rfl, h⟩ | ⟨g2, p2, rfl, hg2, hc2⟩
        · cases h
        · have c0 : w3.cell? ⟨g2, 0, none⟩ = some (.int .i64 (y : Int)) := hc2 0 (by simp)
          have hl : 0 < (y :: yr).length := by simp
          generalize (y :: yr).length = L at hl
          clear hc2
          go_wp2
          go_ret3
          exact ⟨rfl, c3⟩
      | nil =>
        rcases hv2 with ⟨rfl, _⟩ | ⟨g2, p2, rfl, hg2, hc2⟩
        · go_wp2
          go_ret3
          exact ⟨rfl, c3⟩
        · clear hc2
          go_wp2
          go_ret3
          exact ⟨rfl, c3⟩
    · clear hc1
      go_wp2_with fail
      refine (HT.out _ t1).mono ?_
      rintro e w2 ⟨rfl, b2⟩
      have c2 := below_next c1 b2
      clear c1 b2 t1
      go_wp2_with fail
      refine (HB.out _).mono ?_
      rintro e w3 ⟨v2, rfl, hv2, b3⟩
      have c3 := below_next c2 b3
      clear c2 b3
      cases ys with
      | cons y yr =>
        rcases hv2 with ⟨rfl, h⟩ | ⟨g2, p2, rfl, hg2, hc2⟩
        · cases h
        · have c0 : w3.cell? ⟨g2, 0, none⟩ = some (.int .i64 (y : Int)) := hc2 0 (by simp)
          have hl : 0 < (y :: yr).length := by simp
          generalize (y :: yr).length = L at hl
          clear hc2
          go_wp2
          go_ret3
          exact ⟨rfl, c3⟩
      | nil =>
        rcases hv2 with ⟨rfl, _⟩ | ⟨g2, p2, rfl, hg2, hc2⟩
        · go_wp2
          go_ret3
          exact ⟨rfl, c3⟩
        · clear hc2
          go_wp2
          go_ret3
          exact ⟨rfl, c3⟩

theorem refCommon_any (n a b : Nat) (h1 : 2 ≤ n) (h2 : n ≤ 16) (h3 : a < 2 ^ n) (h4 : b < 2 ^ n) (w : World) :
    Calls Tryd.prog 36 #[.int .i64 n, .int .i64 a, .int .i64 b] w fun e w' => ∃ v, e = .returned v ∧ IntsAt w' w.heap.size v (comN a n b) ∧ Below w.heap.size w w' := by
  obtain ⟨i0, hi, hz0, hz1, hz2⟩ := info_parts info_int
  have hn2 : 2 ^ n ≤ 2 ^ 16 := Nat.pow_le_pow_right (by omega) h2
  have HM := Lib.hid (fun k hk => refMove_nat n b k h1 h2 h4 hk)
  have HA := Lib.hid (fun k => and_nat a (mvN n b k) (by omega) (Nat.lt_of_lt_of_le (mv_lt (n := n) (c := b) (u := k)) (by omega)))
  have HT := Lib.hid (fun k => Size_any (a &&& mvN n b k) (Nat.lt_of_lt_of_le (and_lt h3) (by omega)))
  obtain ⟨H, hH⟩ : ∃ H, w.heap.size = H := ⟨_, rfl⟩
  have hHle : H ≤ w.heap.size := by omega
  rw [hH]
  clear hH h3 h4
  go_enter Tryd.func36, Tryd.ntmps36
  go_wp2
  go_loopw [7, 8, 10] (fun v _ i wr => ∃ k : Nat, k ≤ n ∧ i = .int .i64 k ∧ wr.ownsRow H 3 1 v k (ints ((List.range k).map (comAt a n b))) ∧ Below H w wr) (fun _ _ i _ => n - (intOf i).toNat)
  case atStart => exact ⟨0, Nat.zero_le _, rfl, World.ownsRow_nil _ _ _ _, Below.refl _ _⟩
  case round =>
    obtain ⟨k, hk, rfl, hown, hB⟩ := hrel
    by_cases hlt : k < n
    · have hm := Lib.hid (HM.out k hlt)
      have ha := HA.out k
      have ht := Lib.hid (HT.out k)
      have hc : comAt a n b k = (tonesL (a &&& mvN n b k)).length := rfl
      have hs := hB.size
      generalize (tonesL (a &&& mvN n b k)).length = tt at ht hc
      generalize a &&& mvN n b k = am at ha ht
      generalize mvN n b k = mk at ha hm
      have hc' := Lib.hid hc
      have ho' := Lib.hid hown
      clear hc hown
      go_wp2_with (first | (go_at_call 20; refine (hm.out _).mono ?_; rintro e w' ⟨rfl, rfl⟩) | (go_at_call 45; refine (ht.out _).mono ?_; rintro e w' ⟨rfl, rfl⟩) | (at_builtin; refine wpList_append_own _ rfl _ _ 31 rfl H 3 i0 (.int .i64 0) 1 8 Tryd.underlying31 hi hz0 hz1 hz2 rfl (by decide) _ _ _ rfl (ho'.out.alloc _) ⟨wr.heap.size, 0, none⟩ 1 1 [.int .i64 tt] rfl rfl (cell_one_new _ _ _) (by simp [Value.oneCell']) (by unfold maxLen; omega) (by omega) (by simp; omega) ?_; intro v' w1 hown1 hgrow1 hnil1))
      go_roundw
      case rel => exact ⟨k + 1, by omega, by go_num, by rw [List.range_succ, List.map_append]; unfold ints at hown1 ⊢; rw [List.map_append]; show _ ; rw [show List.map (comAt a n b) [k] = [tt] from by rw [← hc'.out]; rfl]; exact hown1, (hB.alloc (by omega) _).grown hgrow1 (by simp; omega) (fun q e => (ho'.out.lt q e).1)⟩
      case measure => simp only [intOf]; omega
    · obtain rfl : k = n := by omega
      have ho := IntsAt.of_own (xs := comN a k b) (by rw [comN_length]; exact hown)
      clear hown
      go_wp2
      go_ret
      exact ⟨_, rfl, ho, hB⟩

theorem refWay_any (n a b : Nat) (h1 : 2 ≤ n) (h2 : n ≤ 16) (h3 : a < 2 ^ n) (w : World) :
    Calls Tryd.prog 35 #[.int .i64 n, .int .i64 a, .int .i64 b] w fun e w' => e = .returned (.tuple #[.int .i64 ((wayK (waysTo n a b n) (waysTo n (mulN n a (-1)) b n) : Nat) : Int), .bool (wayT (waysTo n a b n) (waysTo n (mulN n a (-1)) b n)), .int .i64 ((wayE (waysTo n a b n) (waysTo n (mulN n a (-1)) b n) : Nat) : Int)]) ∧ Below w.heap.size w w' := by
  have HM := Lib.hid (fun k hk => refMove_nat n a k h1 h2 h3 hk)
  have HT := Lib.hid (refTurn_ok n a h1 h2 h3)
  have HM2 := Lib.hid (fun k hk => refMove_nat n (mulN n a (-1)) k h1 h2 (mulN_lt16 h1) hk)
  generalize mulN n a (-1) = t at HT HM2
  have HF1 := Lib.hid (fun k h0 h hk => waysTo_first (n := n) (x := a) (b := b) (k := k) h0 h n hk)
  have HF2 := Lib.hid (fun k h0 h hk => waysTo_first (n := n) (x := t) (b := b) (k := k) h0 h n hk)
  have HN1 := Lib.hid (fun k h0 h => waysTo_none (n := n) (x := a) (b := b) (k := k) h0 h)
  have HN2 := Lib.hid (fun k h0 h => waysTo_none (n := n) (x := t) (b := b) (k := k) h0 h)
  have hc0 : (w.alloc (.cells #[.bool false, .bool true] 4)).cell? ⟨w.heap.size, 0, none⟩ = some (.bool false) := (cell_two rfl).1
  have hc1 : (w.alloc (.cells #[.bool false, .bool true] 4)).cell? ⟨w.heap.size, 1, none⟩ = some (.bool true) := (cell_two rfl).2
  have hB : Below w.heap.size w (w.alloc (.cells #[.bool false, .bool true] 4)) := (Below.refl _ w).alloc (Nat.le_refl _) _
  clear h3
  go_enter Tryd.func35, Tryd.ntmps35
  go_wp2
  generalize w.alloc (.cells #[.bool false, .bool true] 4) = W at hc0 hc1 hB ⊢
  have hBw := Lib.hid hB
  generalize w.heap.size = H at hc0 hc1
  clear hB
  go_loop [10, 11, 12, 15] (fun _ _ _ i => ∃ u : Nat, u ≤ 2 ∧ i = .int .i64 u ∧ (1 ≤ u → waysTo n a b n = []) ∧ (2 ≤ u → waysTo n t b n = [])) (fun _ _ _ i => 2 - (intOf i).toNat)
  case atStart => exact ⟨0, by omega, rfl, by intro h; omega, by intro h; omega⟩
  case round =>
    obtain ⟨u, hu, rfl, hx, hy⟩ := hrel
    have HX := Lib.hid hx
    have HY := Lib.hid hy
    clear hx hy
    obtain rfl | rfl | rfl : u = 0 ∨ u = 1 ∨ u = 2 := by omega
    · go_wp2_with fail
      go_loop [11, 12, 20] (fun _ _ j => ∃ k : Nat, k ≤ n ∧ j = .int .i64 k ∧ waysTo n a b k = []) (fun _ _ j => n - (intOf j).toNat)
      case atStart => exact ⟨0, Nat.zero_le _, rfl, rfl⟩
      case round =>
        obtain ⟨k, hk, rfl, hz⟩ := hrel
        have HZ := Lib.hid hz
        clear hz
        by_cases hlt : k < n
        · have hm := Lib.hid (HM.out k hlt)
          by_cases he : mvN n a k = b
          · obtain ⟨r, hr⟩ := HF1.out k HZ.out he hlt
            have HR := Lib.hid hr
            have ht : (((mvN n a k : Nat) : Int) == (b : Int)) = true := by rw [beq_iff_eq]; omega
            generalize mvN n a k = mk at hm ht
            clear he hr
            go_wp2_with (go_at_call 20; refine (hm.out _).mono ?_; rintro e w' ⟨rfl, rfl⟩)
            go_ret3
            rw [HR.out]
            exact ⟨rfl, hBw.out⟩
          · have HN := Lib.hid (HN1.out k HZ.out he)
            have ht : (((mvN n a k : Nat) : Int) == (b : Int)) = false := by rw [beq_eq_false_iff_ne]; omega
            generalize mvN n a k = mk at hm ht
            clear he
            go_wp2_with (go_at_call 20; refine (hm.out _).mono ?_; rintro e w' ⟨rfl, rfl⟩)
            go_round
            case rel => exact ⟨k + 1, by omega, by go_num, HN.out⟩
            case measure => simp only [intOf]; omega
        · obtain rfl : k = n := by omega
          go_wp2
          go_round
          case rel => exact ⟨0 + 1, by omega, by go_num, (fun _ => HZ.out), (fun h => by omega)⟩
          case measure => simp only [intOf]; omega
    · go_wp2_with fail
      go_loop [11, 12, 20] (fun _ _ j => ∃ k : Nat, k ≤ n ∧ j = .int .i64 k ∧ waysTo n t b k = []) (fun _ _ j => n - (intOf j).toNat)
      case atStart => exact ⟨0, Nat.zero_le _, rfl, rfl⟩
      case round =>
        obtain ⟨k, hk, rfl, hz⟩ := hrel
        have HZ := Lib.hid hz
        clear hz
        by_cases hlt : k < n
        · have hm := Lib.hid (HM2.out k hlt)
          by_cases he : mvN n t k = b
          · obtain ⟨r, hr⟩ := HF2.out k HZ.out he hlt
            have HR := Lib.hid hr
            have ht : (((mvN n t k : Nat) : Int) == (b : Int)) = true := by rw [beq_iff_eq]; omega
            generalize mvN n t k = mk at hm ht
            clear he hr
            go_wp2_with (first | (go_at_call 20; refine (hm.out _).mono ?_; rintro e w' ⟨rfl, rfl⟩) | (go_at_call 21; refine (HT.out _).mono ?_; rintro e w' ⟨rfl, rfl⟩))
            go_ret3
            rw [HX.out (by omega), HR.out]
            exact ⟨rfl, hBw.out⟩
          · have HN := Lib.hid (HN2.out k HZ.out he)
            have ht : (((mvN n t k : Nat) : Int) == (b : Int)) = false := by rw [beq_eq_false_iff_ne]; omega
            generalize mvN n t k = mk at hm ht
            clear he
            go_wp2_with (first | (go_at_call 20; refine (hm.out _).mono ?_; rintro e w' ⟨rfl, rfl⟩) | (go_at_call 21; refine (HT.out _).mono ?_; rintro e w' ⟨rfl, rfl⟩))
            go_round
            case rel => exact ⟨k + 1, by omega, by go_num, HN.out⟩
            case measure => simp only [intOf]; omega
        · obtain rfl : k = n := by omega
          go_wp2
          go_round
          case rel => exact ⟨1 + 1, by omega, by go_num, (fun _ => HX.out (by omega)), (fun _ => HZ.out)⟩
          case measure => simp only [intOf]; omega
    · have e1 := HX.out (by omega)
      have e2 := HY.out (by omega)
      have E := Lib.hid (And.intro e1 e2)
      clear e1 e2
      go_wp2
      go_ret3
      rw [E.out.1, E.out.2]
      exact ⟨rfl, hBw.out⟩

end Go.Proofs.YtehjdhegnpmfaaaDoor
