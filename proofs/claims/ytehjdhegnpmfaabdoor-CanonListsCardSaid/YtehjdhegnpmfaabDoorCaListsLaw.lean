/-
  The walk of the statement on lists.
-/
import Derived.Test.YtehjdhegnpmfaabDoorCaRefPlain
namespace Go.Proofs.YtehjdhegnpmfaabDoor
open Go.RowKit Go.Shelf
attribute [local go_sem] Oper.semAt_some
set_option maxRecDepth 100000

theorem EqPairs_nil (w : World) : Calls Tryd.prog 40 #[.slice none 0 0, .slice none 0 0] w fun e w' => e = .returned (.bool true) ∧ w = w' := by
  go_enter Tryd.func40, Tryd.ntmps40
  go_wp2
  go_loopw [13] (fun i wr => i = .int .i64 0 ∧ wr = w) (fun _ _ => 0)
  case atStart => exact ⟨rfl, rfl⟩
  case round =>
    obtain ⟨rfl, rfl⟩ := hrel
    go_wp2
    go_ret
    exact ⟨rfl, rfl⟩

theorem EqInts_zero (p q : Option Addr) (c d : Nat) (w : World) : Calls Tryd.prog 34 #[.slice p 0 c, .slice q 0 d] w fun e w' => e = .returned (.bool true) ∧ ∃ m, w' = w.drewN m := by
  go_enter Tryd.func34, Tryd.ntmps34
  go_wp2
  go_loopw [13] (fun i wr => i = .int .i64 0 ∧ wr = w) (fun _ _ => 0)
  case atStart => exact ⟨rfl, rfl⟩
  case round =>
    obtain ⟨rfl, rfl⟩ := hrel
    go_wp2
    go_ret
    exact ⟨rfl, 0, rfl⟩

theorem EqInts_any {v u : Value} {xs : List Nat} {w : World} (hl : xs.length < 2 ^ 40) (h : IntsAt w v xs) (k : IntsAt w u xs) : Calls Tryd.prog 34 #[v, u] w fun e w' => e = .returned (.bool true) ∧ ∃ m, w' = w.drewN m := by
  rcases h with ⟨rfl, rfl⟩ | ⟨g, cap, rfl, hg⟩ <;> rcases k with ⟨rfl, h0⟩ | ⟨g', cap', rfl, hg'⟩
  · exact EqInts_zero _ _ _ _ w
  · exact EqInts_zero _ _ _ _ w
  · subst h0; exact EqInts_zero _ _ _ _ w
  · exact EqualInts_same xs g g' cap cap' w hl hg hg'

set_option maxHeartbeats 2000000 in
theorem CanonLists_walk (n s : Int) (_w0 : (Lit.int .i64 n).wf = true) (_w1 : (Lit.int .i64 s).wf = true) (w : World) (hT : Tab w) :
    Calls Tryd.prog 7 #[.int .i64 n, .int .i64 s] w fun e w' => e = .returned (.bool true) ∧ Below w.heap.size w w' := by
  by_cases hn : 2 ≤ n ∧ n ≤ 16
  · obtain ⟨n, rfl⟩ := Int.eq_ofNat_of_zero_le (show 0 ≤ n by omega)
    have hn1 : 2 ≤ n := by omega
    have hn2 : n ≤ 16 := by omega
    have HPl := Lib.hid (Plain_ok n hn1 hn2)
    have HPr := Lib.hid (refPlain_any n hn1 hn2)
    by_cases hs : 1 ≤ s ∧ s ≤ n
    · obtain ⟨s, rfl⟩ := Int.eq_ofNat_of_zero_le (show 0 ≤ s by omega)
      have HLs := Lib.hid (List_ok n s hn1 hn2 (by omega) (by omega))
      have HLr := Lib.hid (refList_any n s hn1 hn2 (by omega) (by omega))
      have hll := listN_length (n := n) (s := s)
      have hp : 2 ^ (n - 1) ≤ 2 ^ 15 := Nat.pow_le_pow_right (by omega) (by omega)
      generalize listN n s = xs at HLs HLr hll
      have HEq := Lib.hid (fun v u W h k => EqInts_any (v := v) (u := u) (xs := xs) (w := W) (by omega) h k)
      clear hn
      go_enter Tryd.func7, Tryd.ntmps7
      go_wp2_with fail
      refine (HLs.out _ hT).mono ?_
      rintro e w1 ⟨v, rfl, ho, b1⟩
      have t1 := hT.same b1
      have hx1 := Lib.hid (IntsAt.of_own ho)
      clear ho
      go_wp2_with fail
      refine (HPl.out _ t1).mono ?_
      rintro e w2 ⟨rfl, b2⟩
      have t2 := t1.same b2
      have c2 := below_next b1 b2
      have hx2 := Lib.hid (hx1.out.later b2)
      clear b1 b2 hx1
      go_wp2_with fail
      refine (HPr.out _).mono ?_
      rintro e w3 ⟨rfl, b3⟩
      have t3 := t2.same b3
      have c3 := below_next c2 b3
      have hx3 := Lib.hid (hx2.out.later b3)
      clear b3 hx2 c2 t2
      go_wp2_with fail
      refine (EqPairs_nil _).mono ?_
      rintro e w4 ⟨rfl, rfl⟩
      go_wp2_with fail
      refine (awake2_any _ t3).mono ?_
      rintro e w5 ⟨rfl, b5⟩
      have c5 := below_next c3 b5
      have hx5 := Lib.hid (hx3.out.later b5)
      clear b5 hx3 c3 t3
      go_wp2_with fail
      refine (HLr.out _).mono ?_
      rintro e w6 ⟨u, rfl, ho6, b6⟩
      have c6 := below_next c5 b6
      have hx6 := Lib.hid (hx5.out.later b6)
      have hy6 := Lib.hid (IntsAt.of_own ho6)
      clear b6 ho6 hx5 c5
      go_wp2_with fail
      refine (HEq.out _ _ _ hx6.out hy6.out).mono ?_
      rintro e w7 ⟨rfl, m, rfl⟩
      go_wp2
      go_ret
      exact ⟨rfl, below_drewN c6 m⟩
    · have HLs := Lib.hid (List_bad n s (by by_cases h : s < 1; exact Or.inr (Or.inr (Or.inl h)); exact Or.inr (Or.inr (Or.inr (by omega)))))
      clear hn
      go_enter Tryd.func7, Tryd.ntmps7
      go_wp2_with fail
      refine (HLs.out _).mono ?_
      rintro e w1 ⟨rfl, b1⟩
      have t1 := hT.same b1
      go_wp2_with fail
      refine (HPl.out _ t1).mono ?_
      rintro e w2 ⟨rfl, b2⟩
      have t2 := t1.same b2
      have c2 := below_next b1 b2
      go_wp2_with fail
      refine (HPr.out _).mono ?_
      rintro e w3 ⟨rfl, b3⟩
      have t3 := t2.same b3
      have c3 := below_next c2 b3
      go_wp2_with fail
      refine (EqPairs_nil _).mono ?_
      rintro e w4 ⟨rfl, rfl⟩
      go_wp2_with fail
      refine (awake2_any _ t3).mono ?_
      rintro e w5 ⟨rfl, b5⟩
      have c5 := below_next c3 b5
      by_cases h1 : s < 1
      · go_wp2
        go_ret
        exact ⟨rfl, c5⟩
      · have h2 : (n : Int) < s := by omega
        go_wp2
        go_ret
        exact ⟨rfl, c5⟩
  · have hv : vldN n = false ∨ 16 < n := by
      by_cases h : 16 < n
      · exact Or.inr h
      · exact Or.inl (by unfold vldN; rw [decide_eq_false_iff_not]; omega)
    have HLs := Lib.hid (List_bad n s (by rcases hv with h | h; exact Or.inl h; exact Or.inr (Or.inl h)))
    have HPl := Lib.hid (Plain_bad n hv)
    clear hv
    go_enter Tryd.func7, Tryd.ntmps7
    go_wp2_with fail
    refine (HLs.out _).mono ?_
    rintro e w1 ⟨rfl, b1⟩
    have t1 := hT.same b1
    go_wp2_with fail
    refine (HPl.out _).mono ?_
    rintro e w2 ⟨rfl, b2⟩
    have t2 := t1.same b2
    have c2 := below_next b1 b2
    by_cases h1 : n < 2
    · go_wp2_with fail
      refine (awake2_any _ t2).mono ?_
      rintro e w5 ⟨rfl, b5⟩
      go_wp2
      go_ret
      exact ⟨rfl, below_next c2 b5⟩
    · have h2 : 16 < n := by omega
      go_wp2_with fail
      refine (awake2_any _ t2).mono ?_
      rintro e w5 ⟨rfl, b5⟩
      go_wp2
      go_ret
      exact ⟨rfl, below_next c2 b5⟩

end Go.Proofs.YtehjdhegnpmfaabDoor
