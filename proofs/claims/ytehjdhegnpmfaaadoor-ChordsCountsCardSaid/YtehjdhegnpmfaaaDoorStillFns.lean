/-
  movesBetween and Still: their contracts; the walk of the statement on Still.
-/
import Derived.Test.YtehjdhegnpmfaaaDoorMovesLaw
import Derived.Test.YtehjdhegnpmfaaaDoorMem
import Derived.OwnWalk
import Derived.Maps.AppendAt
import Derived.Lib.OwnBridge
namespace Go.Proofs.YtehjdhegnpmfaaaDoor
open Go.RowKit Go.Shelf
attribute [local go_sem] Oper.semAt_some
set_option maxRecDepth 100000

/-- A slice of integers that can be read; nil just where there are none. -/
def IntsAt (W : World) (lo : Nat) (v : Value) (xs : List Nat) : Prop :=
  (v = .slice none 0 0 ∧ xs = []) ∨ ∃ g cap, v = .slice (some ⟨g, 0, none⟩) xs.length cap ∧ lo ≤ g ∧ ∀ i, i < xs.length → W.cell? ⟨g, i, none⟩ = some (.int .i64 ((xs[i]?.getD 0 : Nat) : Int))

theorem IntsAt.later {W W' : World} {lo : Nat} {v : Value} {xs : List Nat} (h : IntsAt W lo v xs) (hb : Below W.heap.size W W') : IntsAt W' lo v xs := by
  rcases h with h | ⟨g, cap, h1, h2, h3⟩
  · exact Or.inl h
  · exact Or.inr ⟨g, cap, h1, h2, fun i hi => cell_later hb (h3 i hi)⟩

theorem IntsAt.of_own {W : World} {lo : Nat} {v : Value} {xs : List Nat} (h : W.ownsRow lo 3 1 v xs.length (ints xs)) : IntsAt W lo v xs := by
  have h' := h
  obtain ⟨h0, h1 | ⟨g, cap, cur, hv, hg, hh, h2⟩⟩ := h
  · exact Or.inl ⟨h1.1, List.eq_nil_of_length_eq_zero h1.2⟩
  · refine Or.inr ⟨g, cap, hv, hg, fun i hi => ?_⟩
    subst hv
    have := h'.cellAt i (by omega)
    rw [this, ints_at hi]

/-- The moves that make b of a. -/
def waysTo (n a b k : Nat) : List Nat := (List.range k).filter (fun j => mvN n a j == b)

theorem waysTo_succ (n a b k : Nat) : waysTo n a b (k + 1) = waysTo n a b k ++ if mvN n a k = b then [k] else [] := by
  unfold waysTo
  rw [List.range_succ, List.filter_append]
  congr 1
  by_cases h : mvN n a k = b <;> simp [h]

theorem waysTo_length (n a b k : Nat) : (waysTo n a b k).length ≤ k := by
  unfold waysTo
  exact Nat.le_trans (List.length_filter_le _ _) (by simp)

theorem move_nat (n c k : Nat) (hn : 2 ≤ n) (hn2 : n ≤ 16) (hc : c < 2 ^ n) (hk : k < n) (w : World) :
    Calls Tryd.prog 48 #[.int .i64 n, .int .i64 c, .int .i64 k] w fun e w' => e = .returned (.int .i64 (mvN n c k : Nat)) ∧ ∃ m, w' = w.drewN m := by
  have := move_any n c k hn hn2 hc w
  have e : ((k : Int) % n).toNat = k := by rw [Int.emod_eq_of_lt (by omega) (by omega)]; rfl
  rwa [e] at this

theorem info_int : (Tryd.prog.info? 3).map (fun i => (i.zero, i.size, i.bytes)) = some (some (.int .i64 0), 1, 8) := by kernel_rfl

theorem movesBetween_any (n a b : Nat) (h1 : 2 ≤ n) (h2 : n ≤ 16) (h3 : a < 2 ^ n) (h4 : b < 2 ^ n) (w : World) :
    Calls Tryd.prog 60 #[.int .i64 n, .int .i64 a, .int .i64 b] w fun e w' => ∃ v, e = .returned v ∧ IntsAt w' w.heap.size v (waysTo n a b n) ∧ Below w.heap.size w w' := by
  obtain ⟨i0, hi, hz0, hz1, hz2⟩ := info_parts info_int
  have HM := Lib.hid (fun k hk => move_nat n a k h1 h2 h3 hk)
  have HW := Lib.hid (waysTo_succ n a b)
  have HL := Lib.hid (waysTo_length n a b)
  obtain ⟨H, hH⟩ : ∃ H, w.heap.size = H := ⟨_, rfl⟩
  have hH' := Lib.hid hH
  have hHle : H ≤ w.heap.size := by omega
  rw [hH]
  clear hH h3
  go_enter Tryd.func60, Tryd.ntmps60
  go_wp2
  go_loopw [7, 10] (fun v i wr => ∃ k : Nat, k ≤ n ∧ i = .int .i64 k ∧ wr.ownsRow H 3 1 v (waysTo n a b k).length (ints (waysTo n a b k)) ∧ Below H w wr) (fun _ i _ => n - (intOf i).toNat)
  case atStart => exact ⟨0, Nat.zero_le _, rfl, World.ownsRow_nil _ _ _ _, Below.refl _ _⟩
  case round =>
    obtain ⟨k, hk, rfl, hown, hB⟩ := hrel
    by_cases hlt : k < n
    · have hm := Lib.hid (HM.out k hlt)
      have hw := HW.out k
      have hl := HL.out k
      by_cases he : mvN n a k = b
      · rw [he] at hm
        rw [if_pos he] at hw
        have hw' := Lib.hid hw
        have hs := hB.size
        have hlen : (waysTo n a b k).length ≤ 16 := by omega
        clear hw he
        have ho' := Lib.hid hown
        clear hown
        go_wp2_with (first | (go_at_call 48; refine (hm.out _).mono ?_; rintro e w' ⟨rfl, mm, rfl⟩) | (at_builtin; refine wpList_append_own _ rfl _ _ 31 rfl H 3 i0 (.int .i64 0) 1 8 Tryd.underlying31 hi hz0 hz1 hz2 rfl (by decide) _ _ _ rfl ((show (wr.drewN mm).ownsRow H 3 1 _ _ _ from ho'.out).alloc _) ⟨wr.heap.size, 0, none⟩ 1 1 [.int .i64 k] rfl rfl (cell_one_new _ _ _) (by simp [Value.oneCell']) (by unfold maxLen; omega) (by omega) (by simp; omega) ?_; intro v' w1 hown1 hgrow1 hnil1))
        go_roundw
        case rel => exact ⟨k + 1, by omega, by go_num, by rw [hw'.out, List.length_append]; unfold ints at hown1 ⊢; rw [List.map_append]; exact hown1, ((below_drewN hB mm).alloc (by simp; omega) _).grown hgrow1 (by simp; omega) (fun q e => (ho'.out.lt q e).1)⟩
        case measure => simp only [intOf]; omega
      · have ht : (((mvN n a k : Nat) : Int) == (b : Int)) = false := by rw [beq_eq_false_iff_ne]; omega
        rw [if_neg he, List.append_nil] at hw
        have hw' := Lib.hid hw
        generalize mvN n a k = mk at hm ht
        clear hw he
        go_wp2_with (go_at_call 48; refine (hm.out _).mono ?_; rintro e w' ⟨rfl, mm, rfl⟩)
        go_roundw
        case rel => exact ⟨k + 1, by omega, by go_num, by rw [hw'.out]; exact hown, below_drewN hB _⟩
        case measure => simp only [intOf]; omega
    · obtain rfl : k = n := by omega
      have ho := IntsAt.of_own hown
      clear hown
      go_wp2
      go_ret
      exact ⟨_, rfl, ho, hB⟩

theorem Still_bad (n c : Int) (h : vldB n c = false) (w : World) :
    Calls Tryd.prog 42 #[.int .i64 n, .int .i64 c] w fun e w' => e = .returned (.tuple #[.int .i64 0, .int .i64 0, .int .i64 2]) ∧ Below w.heap.size w w' := by
  have HV := Lib.hid (valid_of n c _ h)
  clear h
  go_enter Tryd.func42, Tryd.ntmps42
  go_wp2_with (go_at_call 47; refine (HV.out _ _ (cell_at rfl)).mono ?_; rintro e w' ⟨rfl, rfl⟩)
  go_ret3
  exact ⟨rfl, (Below.refl _ w).alloc (Nat.le_refl _) _⟩

theorem mulN_lt16 {n c : Nat} {m : Int} (h1 : 2 ≤ n) : mulN n c m < 2 ^ n := orL_lt _ _ _ (fun t _ => by
  have a1 : 0 ≤ ((t : Int) * m) % n := Int.emod_nonneg _ (by omega)
  have a2 : ((t : Int) * m) % n < n := Int.emod_lt_of_pos _ (by omega)
  omega)

theorem Still_ok (n c : Nat) (h1 : 2 ≤ n) (h2 : n ≤ 16) (h3 : c < 2 ^ n) (w : World) (hT : Tab w) :
    Calls Tryd.prog 42 #[.int .i64 n, .int .i64 c] w fun e w' => e = .returned (.tuple #[.int .i64 ((waysTo n c c n).length : Nat), .int .i64 ((waysTo n (mulN n c (-1)) c n).length : Nat), .int .i64 0]) ∧ Below w.heap.size w w' := by
  have HV := Lib.hid (valid_of n c _ (vldB_of_nat h1 h2 h3))
  have HA := Lib.hid (movesBetween_any n c c h1 h2 h3 h3)
  have HB := Lib.hid (movesBetween_any n (mulN n c (-1)) c h1 h2 (mulN_lt16 h1) h3)
  have HT := Lib.hid (turn_any n c h1 h2 h3)
  generalize mulN n c (-1) = t at HB HT
  generalize waysTo n c c n = xs at HA
  generalize waysTo n t c n = ys at HB
  have hB : Below w.heap.size w (w.alloc (.cells #[.int .i64 c] 3)) := (Below.refl _ w).alloc (Nat.le_refl _) _
  have hTa := hT.same hB
  clear h3 hT
  go_enter Tryd.func42, Tryd.ntmps42
  go_wp2_with (go_at_call 47; refine (HV.out _ _ (cell_at rfl)).mono ?_; rintro e w' ⟨rfl, rfl⟩)
  refine (HA.out _).mono ?_
  rintro e w1 ⟨v1, rfl, hv1, b1⟩
  have t1 := hTa.same b1
  have c1 := hB.trans (b1.mono (by simp))
  clear hTa b1 hB
  rcases hv1 with ⟨rfl, rfl⟩ | ⟨g1, p1, rfl, hg1, hc1⟩
  · go_wp2_with fail
    refine (HT.out _ t1).mono ?_
    rintro e w2 ⟨rfl, b2⟩
    have c2 := below_next c1 b2
    clear c1 b2 t1
    go_wp2_with fail
    refine (HB.out _).mono ?_
    rintro e w3 ⟨v2, rfl, hv2, b3⟩
    have c3 := below_next c2 b3
    clear c2 b3
    rcases hv2 with ⟨rfl, rfl⟩ | ⟨g2, p2, rfl, hg2, hc2⟩
    · go_wp2
      go_ret3
      exact ⟨rfl, c3⟩
    · clear hc2
      go_wp2
      go_ret3
      exact ⟨rfl, c3⟩
  · clear hc1
    go_wp2_with fail
    refine (HT.out _ t1).mono ?_
    rintro e w2 ⟨rfl, b2⟩
    have c2 := below_next c1 b2
    clear c1 b2 t1
    go_wp2_with fail
    refine (HB.out _).mono ?_
    rintro e w3 ⟨v2, rfl, hv2, b3⟩
    have c3 := below_next c2 b3
    clear c2 b3
    rcases hv2 with ⟨rfl, rfl⟩ | ⟨g2, p2, rfl, hg2, hc2⟩
    · go_wp2
      go_ret3
      exact ⟨rfl, c3⟩
    · clear hc2
      go_wp2
      go_ret3
      exact ⟨rfl, c3⟩

theorem refMove_nat (n c k : Nat) (h1 : 2 ≤ n) (h2 : n ≤ 16) (h3 : c < 2 ^ n) (hk : k < n) (w : World) :
    Calls Tryd.prog 20 #[.int .i64 n, .int .i64 c, .int .i64 k] w fun e w' => e = .returned (.int .i64 (mvN n c k : Nat)) ∧ w = w' := by
  have := refMove_ok n c k h1 h2 h3 w
  have e : ((k : Int) % n).toNat = k := by rw [Int.emod_eq_of_lt (by omega) (by omega)]; rfl
  rwa [e] at this

theorem refStill_any (n c : Nat) (h1 : 2 ≤ n) (h2 : n ≤ 16) (h3 : c < 2 ^ n) (w : World) :
    Calls Tryd.prog 43 #[.int .i64 n, .int .i64 c] w fun e w' => e = .returned (.tuple #[.int .i64 ((waysTo n c c n).length : Nat), .int .i64 ((waysTo n (mulN n c (-1)) c n).length : Nat)]) ∧ w = w' := by
  have HM := Lib.hid (fun k hk => refMove_nat n c k h1 h2 h3 hk)
  have HT := Lib.hid (refTurn_ok n c h1 h2 h3)
  have HM2 := Lib.hid (fun k hk => refMove_nat n (mulN n c (-1)) k h1 h2 (mulN_lt16 h1) hk)
  generalize mulN n c (-1) = t at HT HM2
  have HW1 := Lib.hid (waysTo_succ n c c)
  have HW2 := Lib.hid (waysTo_succ n t c)
  have HL1 := Lib.hid (waysTo_length n c c)
  have HL2 := Lib.hid (waysTo_length n t c)
  clear h3
  go_enter Tryd.func43, Tryd.ntmps43
  go_wp2
  go_loop [6, 7, 8, 10] (fun x y _ i => ∃ k : Nat, k ≤ n ∧ i = .int .i64 k ∧ x = .int .i64 ((waysTo n c c k).length : Nat) ∧ y = .int .i64 ((waysTo n t c k).length : Nat)) (fun _ _ _ i => n - (intOf i).toNat)
  case atStart => exact ⟨0, Nat.zero_le _, rfl, rfl, rfl⟩
  case round =>
    obtain ⟨k, hk, rfl, rfl, rfl⟩ := hrel
    by_cases hlt : k < n
    · have hm1 := HM.out k hlt
      have hm2 := HM2.out k hlt
      have w1 := HW1.out k
      have w2 := HW2.out k
      have l1 := HL1.out k
      have l2 := HL2.out k
      have e1 : (waysTo n c c (k + 1)).length = (waysTo n c c k).length + if mvN n c k = c then 1 else 0 := by
        rw [w1, List.length_append]; split <;> rfl
      have e2 : (waysTo n t c (k + 1)).length = (waysTo n t c k).length + if mvN n t k = c then 1 else 0 := by
        rw [w2, List.length_append]; split <;> rfl
      obtain ⟨p, hp⟩ : ∃ p, (((mvN n c k : Nat) : Int) == (c : Int)) = p := ⟨_, rfl⟩
      obtain ⟨q, hq⟩ : ∃ q, (((mvN n t k : Nat) : Int) == (c : Int)) = q := ⟨_, rfl⟩
      have e1' : (waysTo n c c (k + 1)).length = (waysTo n c c k).length + if p = true then 1 else 0 := by
        rw [e1, ← hp]
        by_cases h : mvN n c k = c
        · rw [if_pos h, if_pos (by rw [beq_iff_eq]; omega)]
        · rw [if_neg h, if_neg (by rw [beq_iff_eq]; omega)]
      have e2' : (waysTo n t c (k + 1)).length = (waysTo n t c k).length + if q = true then 1 else 0 := by
        rw [e2, ← hq]
        by_cases h : mvN n t k = c
        · rw [if_pos h, if_pos (by rw [beq_iff_eq]; omega)]
        · rw [if_neg h, if_neg (by rw [beq_iff_eq]; omega)]
      have E1 := Lib.hid e1'
      have E2 := Lib.hid e2'
      have M1 := Lib.hid hm1
      have M2 := Lib.hid hm2
      clear w1 w2 e1 e2 e1' e2' hm1 hm2
      generalize mvN n c k = mc at hp M1
      generalize mvN n t k = mt at hq M2
      generalize (waysTo n c c k).length = L1 at l1 E1
      generalize (waysTo n t c k).length = L2 at l2 E2
      cases p <;> cases q
      all_goals
        go_wp2_with fail
        refine (M1.out _).mono ?_
        rintro e w1 ⟨rfl, rfl⟩
        go_wp2_with fail
        refine (HT.out _).mono ?_
        rintro e w1 ⟨rfl, rfl⟩
        go_wp2_with fail
        refine (M2.out _).mono ?_
        rintro e w1 ⟨rfl, rfl⟩
        go_wp2
        go_round
        case rel => exact ⟨k + 1, by omega, by go_num, by rw [E1.out]; rfl, by rw [E2.out]; rfl⟩
        case measure => simp only [intOf]; omega
    · obtain rfl : k = n := by omega
      go_wp2
      go_ret2
      exact ⟨rfl, rfl⟩

theorem ChordsStill_walk (n c : Int) (_w0 : (Lit.int .i64 n).wf = true) (_w1 : (Lit.int .i64 c).wf = true) (w : World) (hT : Tab w) :
    Calls Tryd.prog 8 #[.int .i64 n, .int .i64 c] w fun e w' => e = .returned (.bool true) ∧ Below w.heap.size w w' := by
  by_cases hv : vldB n c = true
  · have HV : ∀ V : World, Calls Tryd.prog 18 #[.int .i64 n, .int .i64 c] V fun e w' => e = .returned (.bool true) ∧ V = w' := fun V => by
      have := Valid_any n c V; rwa [hv] at this
    have HV' := Lib.hid HV
    clear HV
    obtain ⟨n, c, rfl, rfl, h1, h2, h3⟩ := vldB_nat hv
    have H1 := Lib.hid (Still_ok n c h1 h2 h3)
    have R1 := Lib.hid (refStill_any n c h1 h2 h3)
    generalize (waysTo n c c n).length = x at H1 R1
    generalize (waysTo n (mulN n c (-1)) c n).length = y at H1 R1
    clear hv h3
    go_enter Tryd.func8, Tryd.ntmps8
    go_wp2_with fail
    refine (H1.out _ hT).mono ?_
    rintro e w1 ⟨rfl, b1⟩
    go_wp2_with fail
    refine (HV'.out _).mono ?_
    rintro e w4 ⟨rfl, rfl⟩
    go_wp2_with fail
    refine (R1.out _).mono ?_
    rintro e w4 ⟨rfl, rfl⟩
    go_wp2_with fail
    refine (awake_any _).mono ?_
    rintro e w5 ⟨rfl, b5⟩
    go_wp2
    go_ret
    exact ⟨rfl, below_next b1 b5⟩
  · have hv' : vldB n c = false := by simpa using hv
    have HV : ∀ V : World, Calls Tryd.prog 18 #[.int .i64 n, .int .i64 c] V fun e w' => e = .returned (.bool false) ∧ V = w' := fun V => by
      have := Valid_any n c V; rwa [hv'] at this
    have HV' := Lib.hid HV
    have H1 := Lib.hid (Still_bad n c hv')
    clear hv hv' hT HV
    go_enter Tryd.func8, Tryd.ntmps8
    go_wp2_with fail
    refine (H1.out _).mono ?_
    rintro e w1 ⟨rfl, bl1⟩
    go_wp2_with fail
    refine (HV'.out _).mono ?_
    rintro e w4 ⟨rfl, rfl⟩
    go_wp2_with fail
    refine (awake_any _).mono ?_
    rintro e w5 ⟨rfl, b5⟩
    go_wp2
    go_ret
    exact ⟨rfl, below_next bl1 b5⟩

end Go.Proofs.YtehjdhegnpmfaaaDoor
